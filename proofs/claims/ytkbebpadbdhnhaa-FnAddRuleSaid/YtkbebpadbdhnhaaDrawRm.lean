/-
  Drawn rules that are sometimes none, and codes beside them.
-/
import Derived.Test.YtkbebpadbdhnhaaDrawRl
namespace Go.Proofs.Ytkbebpadbdhnhaa
open Go.RowKit
open Go.PlainAid (bt get_bt bt_nonneg bt_le)
set_option linter.unusedVariables false

theorem set_same {α : Type} {l : List α} {i : Nat} {y : α} (h : l[i]? = some y) : l.set i y = l := by
  have hi : i < l.length := by
    by_cases hi : i < l.length
    · exact hi
    · rw [List.getElem?_eq_none (by omega)] at h; cases h
  apply List.ext_getElem?
  intro j
  by_cases hj : i = j
  · subst hj; rw [List.getElem?_set_self hi, h]
  · rw [List.getElem?_set_ne hj]
theorem fcells_fst (L : List (ByteArray × ByteArray)) (k : Nat) (hk : k < L.length) (s : ByteArray) : (fcells L).set (k * 2) (.string s) = fcells (L.set k (s, L[k].2)) := by
  rw [← fcells_set]
  refine (set_same ?_).symm
  rw [List.getElem?_set_ne (by omega)]
  exact (fcells_at L k hk).2
theorem fcells_snd (L : List (ByteArray × ByteArray)) (k : Nat) (hk : k < L.length) (s : ByteArray) : (fcells L).set (k * 2 + 1) (.string s) = fcells (L.set k (L[k].1, s)) := by
  rw [← fcells_set]
  congr 1
  exact (set_same (fcells_at L k hk).1).symm
theorem RRow.fst {w : World} {base g c : Nat} {L : List (ByteArray × ByteArray)} (h : RRow w base (.slice (some ⟨g, 0, none⟩) L.length c) L) (k : Nat) (hk : k < L.length) (s : ByteArray) :
    RRow (w.setCell ⟨g, k * 2, none⟩ (.string s)) base (.slice (some ⟨g, 0, none⟩) L.length c) (L.set k (s, L[k].2)) := by
  have hrow : w.ownsRow base 44 2 (.slice (some ⟨g, 0, none⟩) L.length c) L.length (fcells L) := h
  have := (World.ownsRow.stored hrow (k * 2) (.string s)).1
  rw [fcells_fst L k hk s] at this
  unfold RRow
  rw [List.length_set]
  exact this
theorem RRow.snd {w : World} {base g c : Nat} {L : List (ByteArray × ByteArray)} (h : RRow w base (.slice (some ⟨g, 0, none⟩) L.length c) L) (k : Nat) (hk : k < L.length) (s : ByteArray) :
    RRow (w.setCell ⟨g, k * 2 + 1, none⟩ (.string s)) base (.slice (some ⟨g, 0, none⟩) L.length c) (L.set k (L[k].1, s)) := by
  have hrow : w.ownsRow base 44 2 (.slice (some ⟨g, 0, none⟩) L.length c) L.length (fcells L) := h
  have := (World.ownsRow.stored hrow (k * 2 + 1) (.string s)).1
  rw [fcells_snd L k hk s] at this
  unfold RRow
  rw [List.length_set]
  exact this
theorem RRow.two {w : World} {base g c : Nat} {L : List (ByteArray × ByteArray)} (h : RRow w base (.slice (some ⟨g, 0, none⟩) L.length c) L) (k : Nat) (hk : k < L.length) :
    w.cell? ⟨g, k * 2, none⟩ = some (.string L[k].1) ∧ w.cell? ⟨g, k * 2 + 1, none⟩ = some (.string L[k].2) ∧ w.frozen? ⟨g, k * 2, none⟩ = false ∧ w.frozen? ⟨g, k * 2 + 1, none⟩ = false := by
  have hrow : w.ownsRow base 44 2 (.slice (some ⟨g, 0, none⟩) L.length c) L.length (fcells L) := h
  have hat := fcells_at L k hk
  exact ⟨by rw [World.ownsRow.cellAt hrow (k * 2) (by omega)]; exact hat.1, by rw [World.ownsRow.cellAt hrow (k * 2 + 1) (by omega)]; exact hat.2, World.ownsRow.frozenAt hrow _, World.ownsRow.frozenAt hrow _⟩

def RRowBad (W : World) (base r N : Nat) (e : Ending) (w' : World) : Prop := ∃ (v' : Value) (L' : List (ByteArray × ByteArray)), e = .returned v' ∧ RRow w' base v' L' ∧ L'.length ≤ 31 ∧ SmallR 30 L' ∧ Sg W w' r N
set_option maxHeartbeats 4000000 in
set_option maxRecDepth 100000 in
theorem l6BadRules_sg (W w : World) (r N base : Nat) (v : Value) (L : List (ByteArray × ByteArray)) (h : Sg W w r N) (hN : N ≤ 80000) (hrow : RRow w base v L) (hrb : r < base) (hbW : W.heap.size ≤ base) (hl : L.length ≤ 10) (hs : SmallR 8 L) :
    Calls Try.prog 23 #[.pointer (some ⟨r, 0, none⟩), v] w (RRowBad W base r (N + 5)) := by
  have hr := h.1.lt
  have HS := Lib.hid hs
  have HSW := Lib.hid (hs.mono (z' := 30) (by omega))
  by_cases h0 : L.length = 0
  · obtain ⟨a, c, rfl, _, _⟩ := hrow.form
    rw [h0]
    rw [h0] at hrow
    have HR := Lib.hid hrow
    have SG := Lib.hid h
    clear hrow h hs
    go_enter Try.func23, Try.ntmps23
    go_wp2
    go_ret
    exact ⟨_, L, rfl, HR, by omega, HSW, SG.out.mono (by omega) (by omega)⟩
  rcases hrow.cases with ⟨rfl, rfl⟩ | ⟨g, c, rfl, hbg, hgl⟩
  · exact absurd rfl h0
  have HR := Lib.hid hrow
  have SG := Lib.hid h
  have hz : ((L.length : Int) == 0) = false := by rw [beq_eq_false_iff_ne]; omega
  have hpos : 0 < L.length := by omega
  clear hrow h hs
  go_enter Try.func23, Try.ntmps23
  go_wp2_with fail
  refine (pick_sg _ _ _ r _ (Sg.start SG.out.1) (by omega) (by omega) (by omega)).mono ?_
  rintro e w2 ⟨k0, rfl, k0a, k0b, sg2⟩
  obtain ⟨k, rfl⟩ := Int.eq_ofNat_of_zero_le k0a
  have hk : k < L.length := by omega
  have R2 := Lib.hid (HR.out.rsg sg2 hrb)
  have S2 := Lib.hid (SG.out.trans sg2)
  clear sg2 SG
  go_wp2_with fail
  refine (pick_sg _ _ _ r _ (Sg.start S2.out.1) (by omega) (by omega) (by omega)).mono ?_
  rintro e w3 ⟨t, rfl, t0, t1, sg3⟩
  have R3 := Lib.hid (R2.out.rsg sg3 hrb)
  have S3 := Lib.hid (S2.out.trans sg3)
  have hr3 := sg3.1.lt
  have hs3 : base ≤ w3.heap.size := by have := (R3.out.lt g rfl).2; omega
  clear sg3 S2 R2 HR
  cases e0 : (t == 0)
  · cases e1 : (t == 1)
    · cases e2 : (t == 2)
      · go_wp2
        go_ret
        exact ⟨_, L, rfl, R3.out, by omega, HSW.out, S3.out.mono (by omega) (by omega)⟩
      · go_wp2
        go_loopw [1] (fun u wr => ∃ Z : List (ByteArray × ByteArray), Z.length ≤ 31 ∧ Hid (SmallR 30 Z) ∧ Hid (RRow wr base u Z) ∧ Hid (Sg W wr r (N + 2)) ∧ base ≤ wr.heap.size ∧ (∃ a c, u = .slice a Z.length c)) (fun u _ => 31 - rLen u)
        case atStart => exact ⟨L, by omega, HSW, R3, S3, hs3, _, _, rfl⟩
        case round =>
          obtain ⟨Z, hZ, hsm, hrow, hsg, hbs, a, c', rfl⟩ := hrel
          by_cases hlt : Z.length < 21
          · have hlti : (Z.length : Int) < 21 := by omega
            go_wp2_with (first
              | (go_at_call 38; refine (l1Show_any (Z.length : Int) 3 _ (by omega) (by omega) (by omega)).mono ?_; rintro e w4 ⟨S, rfl, hM0, hM, hb4⟩; have R4 := Lib.hid (hrow.out.on hb4); have S4 := Lib.hid (hsg.out.below hb4); have hz4 := hb4.size; clear hb4)
              | (at_builtin; refine wpList_append_rule _ rfl _ _ rfl base _ _ rfl (R4.out.alloc _) _ S ⟨#[97]⟩ rfl ?_ (by omega) (by simp; omega) ?_))
            · simp [go_sem]
            · intro v' w5 hr5 hg5 ho5
              have S5 := Lib.hid ((S4.out.alloc _).rgrown (R4.out.alloc _) hbW hrb hg5)
              have R5 := Lib.hid hr5
              have hz5 := hg5.size
              simp at hz5
              obtain ⟨a5, c5, hv5, _, _⟩ := R5.out.form
              subst hv5
              clear hr5 hg5 ho5
              go_wp2
              go_roundw
              case rel => exact ⟨Z ++ [(S, ⟨#[97]⟩)], by simp; omega, hsm.out.more (by omega) (by decide), R5, S5, by omega, _, _, rfl⟩
              case measure => simp [rLen]; omega
          · have hlti : ¬ (Z.length : Int) < 21 := by omega
            go_wp2
            go_ret
            exact ⟨_, Z, rfl, hrow.out, hZ, hsm.out, hsg.out.mono (by omega) (by omega)⟩
    · go_wp2_with fail
      refine (of_sg _ [⟨#[]⟩, ⟨#[65]⟩, ⟨#[97, 98, 99, 100, 101, 102, 103, 104, 105]⟩] w3.heap.size _ r _ (Sg.start (S3.out.1.below (below_alloc0 w3 _))) (by omega) (by decide) (by decide) (by omega) (cells_str [⟨#[]⟩, ⟨#[65]⟩, ⟨#[97, 98, 99, 100, 101, 102, 103, 104, 105]⟩] _ w3)).mono ?_
      rintro e w4 ⟨s, rfl, hm, sg4⟩
      have hs9 := (show ∀ x ∈ [(⟨#[]⟩ : ByteArray), ⟨#[65]⟩, ⟨#[97, 98, 99, 100, 101, 102, 103, 104, 105]⟩], x.size ≤ 30 from by decide) s hm
      have R4 := Lib.hid ((R3.out.alloc (.cells #[.string ⟨#[]⟩, .string ⟨#[65]⟩, .string ⟨#[97, 98, 99, 100, 101, 102, 103, 104, 105]⟩] 9)).rsg sg4 hrb)
      have S4 := Lib.hid ((S3.out.alloc (.cells #[.string ⟨#[]⟩, .string ⟨#[65]⟩, .string ⟨#[97, 98, 99, 100, 101, 102, 103, 104, 105]⟩] 9)).trans sg4)
      obtain ⟨d0, d1, f0, f1⟩ := R4.out.two k hk
      have R5 := Lib.hid (R4.out.snd k hk s)
      have S5 := Lib.hid (S4.out.put ⟨g, k * 2 + 1, none⟩ (.string s) (by show r < g; omega) (by show W.heap.size ≤ g; omega))
      have SM := Lib.hid (HSW.out.set k (x := L[k].1) (y := s) (HSW.out _ (List.getElem_mem hk)).1 hs9)
      have hgl4 : g < w4.heap.size := (R4.out.lt g rfl).2
      generalize L[k] = P at d0 d1 R5 SM
      clear sg4 hm
      go_wp2
      go_ret
      exact ⟨_, _, rfl, R5.out, by rw [List.length_set]; omega, SM.out, S5.out.mono (by omega) (by omega)⟩
  · obtain ⟨x0, _, _, _⟩ := R3.out.two 0 hpos
    simp only [Nat.zero_mul] at x0
    have hsm0 := (HSW.out _ (List.getElem_mem hpos)).1
    generalize hP0 : L[0] = P0 at x0 hsm0
    have HP := Lib.hid hP0
    clear hP0
    go_wp2_with fail
    refine (of_sg _ [⟨#[120]⟩, ⟨#[49, 50, 48, 48, 49, 48, 49, 49]⟩, P0.1] w3.heap.size _ r _ (Sg.start (S3.out.1.below (below_alloc0 w3 _))) (by omega) (by simp) (by simp) (by omega) (cells_str [⟨#[120]⟩, ⟨#[49, 50, 48, 48, 49, 48, 49, 49]⟩, P0.1] _ w3)).mono ?_
    rintro e w4 ⟨s, rfl, hm, sg4⟩
    have hs9 : s.size ≤ 30 := by
      simp at hm
      rcases hm with rfl | rfl | rfl
      · decide
      · decide
      · exact hsm0
    have R4 := Lib.hid ((R3.out.alloc (.cells #[.string ⟨#[120]⟩, .string ⟨#[49, 50, 48, 48, 49, 48, 49, 49]⟩, .string P0.1] 9)).rsg sg4 hrb)
    have S4 := Lib.hid ((S3.out.alloc (.cells #[.string ⟨#[120]⟩, .string ⟨#[49, 50, 48, 48, 49, 48, 49, 49]⟩, .string P0.1] 9)).trans sg4)
    obtain ⟨d0, d1, f0, f1⟩ := R4.out.two k hk
    have R5 := Lib.hid (R4.out.fst k hk s)
    have S5 := Lib.hid (S4.out.put ⟨g, k * 2, none⟩ (.string s) (by show r < g; omega) (by show W.heap.size ≤ g; omega))
    have SM := Lib.hid (HSW.out.set k (x := s) (y := L[k].2) hs9 (HSW.out _ (List.getElem_mem hk)).2)
    have hgl4 : g < w4.heap.size := (R4.out.lt g rfl).2
    generalize L[k] = P at d0 d1 R5 SM
    clear sg4 hm
    go_wp2
    go_ret
    exact ⟨_, _, rfl, R5.out, by rw [List.length_set]; omega, SM.out, S5.out.mono (by omega) (by omega)⟩

/-- Rules that the law may read. -/
def RlsOut (w w' : World) (v : Value) : Prop := ∃ (a : Option Addr) (c : Nat) (L : List (ByteArray × ByteArray)), v = .slice a L.length c ∧ Fws w' a L.length (nF L) (nT L) ∧ FFits L.length (nF L) (nT L) ∧ L.length ≤ 31 ∧ SmallR 30 L ∧ Below w.heap.size w w'
theorem SmallR.fits {z : Nat} {L : List (ByteArray × ByteArray)} (h : SmallR z L) (hz : z ≤ 1000) : FFits L.length (nF L) (nT L) := fun i hi => by
  have := h _ (List.getElem_mem hi)
  rw [nF_at hi, nT_at hi]
  exact ⟨by unfold maxLen; omega, by unfold maxLen; omega⟩
theorem rls_of {w w' : World} {base : Nat} {v : Value} {L : List (ByteArray × ByteArray)} (h : RRow w' base v L) (hl : L.length ≤ 31) (hs : SmallR 30 L) (hb : Below w.heap.size w w') : RlsOut w w' v := by
  obtain ⟨a, c, rfl, _, hL⟩ := h.form
  exact ⟨a, c, L, rfl, hL, hs.fits (by omega), hl, hs, hb⟩
def RlsStr (w : World) (e : Ending) (w' : World) : Prop := ∃ (v : Value) (s : ByteArray), e = .returned (.tuple #[v, .string s]) ∧ s.size ≤ 30 ∧ RlsOut w w' v
/-- The same, with the row of rules itself. -/
def RlsRow (w : World) (e : Ending) (w' : World) : Prop := ∃ (v : Value) (s : ByteArray) (L : List (ByteArray × ByteArray)) (B : Nat), e = .returned (.tuple #[v, .string s]) ∧ s.size ≤ 30 ∧ RRow w' B v L ∧ w.heap.size ≤ B ∧ L.length ≤ 31 ∧ SmallR 30 L ∧ Below w.heap.size w w'
set_option maxHeartbeats 2000000 in
theorem DrawLookUp_row (a : Option Addr) (l k : Nat) (z : List Int) (w : World) (h : IsRow .u8 w a l k z) :
    Calls Try.prog 13 #[.slice a l k] w (RlsRow w) := by
  go_enter Try.func13, Try.ntmps13
  go_wp2_with fail
  refine (open_any a l k z w h).mono ?_
  rintro e w1 ⟨r, rfl, rd1, b1, hwr⟩
  have hr1 := rd1.lt
  have B1 := Lib.hid b1
  have RD1 := Lib.hid rd1
  have hm := Lib.hid (show NmIs (w1.alloc (.cells #[.string ⟨#[97]⟩, .string ⟨#[98]⟩, .string ⟨#[104, 101, 114, 101]⟩] 9)) (.slice (some ⟨w1.heap.size, 0, none⟩) 3 3) r (w1.alloc (.cells #[.string ⟨#[97]⟩, .string ⟨#[98]⟩, .string ⟨#[104, 101, 114, 101]⟩] 9)).heap.size from
    ⟨w1.heap.size, 3, [⟨#[97]⟩, ⟨#[98]⟩, ⟨#[104, 101, 114, 101]⟩], rfl, by decide, by decide, by omega, by simp, by decide, cells_str [⟨#[97]⟩, ⟨#[98]⟩, ⟨#[104, 101, 114, 101]⟩] _ w1⟩)
  clear b1 rd1 h
  go_wp2_with fail
  refine (l6Rules_any _ _ r _ (RD1.out.below (below_alloc0 w1 _)) (by omega) hm.out).mono ?_
  rintro e w2 ⟨v, L, rfl, R2, l2, S2, sg2⟩
  have sg1 := (Sg.start RD1.out).alloc (.cells #[.string ⟨#[97]⟩, .string ⟨#[98]⟩, .string ⟨#[104, 101, 114, 101]⟩] 9)
  have SG2 := Lib.hid (sg1.trans sg2)
  have R2 := Lib.hid R2
  have S2 := Lib.hid S2
  clear sg1 sg2 hm
  go_wp2_with fail
  refine (l6BadRules_sg w1 _ r _ _ v L SG2.out (by omega) R2.out (by simp; omega) (by simp) (by omega) S2.out).mono ?_
  rintro e w3 ⟨v', L', rfl, R3, l3, S3, sg3⟩
  have R3 := Lib.hid R3
  have SG3 := Lib.hid sg3
  have S3 := Lib.hid S3
  clear SG2 R2 S2 sg3
  go_wp2_with fail
  refine (l6Head_sg _ _ r _ (Sg.start SG3.out.1) (by omega)).mono ?_
  rintro e w4 ⟨s, rfl, s0, s1, sg4⟩
  have R4 := Lib.hid (R3.out.rsg sg4 (by simp; omega))
  have SG4 := Lib.hid (SG3.out.trans sg4)
  clear sg4 R3 SG3
  go_wp2_with fail
  refine (l1Bad_sg _ _ r _ _ (Sg.start SG4.out.1) (by omega) (by omega) (by omega)).mono ?_
  rintro e w5 ⟨s', rfl, q0, q1, sg5⟩
  have R5 := Lib.hid (R4.out.rsg sg5 (by simp; omega))
  have SG5 := Lib.hid (SG4.out.trans sg5)
  clear sg5 R4 SG4
  have B5 := Lib.hid (B1.out.trans ((SG5.out.below_r hr1).mono hwr))
  go_wp2
  go_ret2
  exact ⟨_, _, _, _, rfl, by omega, R5.out, by simp; omega, l3, S3.out, B5.out⟩
theorem DrawLookUp_any (a : Option Addr) (l k : Nat) (z : List Int) (w : World) (h : IsRow .u8 w a l k z) :
    Calls Try.prog 13 #[.slice a l k] w (RlsStr w) :=
  (DrawLookUp_row a l k z w h).mono fun e w' hp => by
    obtain ⟨v, s, L, B, he, hs, hr, _, hl, hm, hb⟩ := hp
    exact ⟨v, s, he, hs, rls_of hr hl hm hb⟩
end Go.Proofs.Ytkbebpadbdhnhaa
