/-
  Two drawn lists of orders.
-/
import Derived.Test.YtekkajgifgnklaaDrawF2
import Derived.Test.YtekkajgifgnklaaDir2
import Derived.Test.YtekkajgifgnklaaDirE
namespace Go.Proofs.Ytekkajgifgnklaa
open Go.RowKit
open Go.PlainAid (bt get_bt bt_nonneg bt_le)
set_option linter.unusedVariables false

/-- What a call may write that was there before: the reader, and one slice's own block. -/
def Sr (r : Nat) (V : Value) : Nat → Prop := fun k => k = r ∨ V.ownBlock = some k
def OwnOk (w : World) (V u : Value) : Prop := u.ownBlock = V.ownBlock ∨ ∃ j, u.ownBlock = some j ∧ w.heap.size ≤ j
theorem only_sg {w w' : World} {r N : Nat} (h : Sg w w' r N) (V : Value) : Only w w' (Sr r V) := (Only.of_grown h.2).mono fun x _ e => Or.inl (by injection e)
theorem only_below {w w1 w2 : World} {S : Nat → Prop} (h : Only w w1 S) (hb : Below w1.heap.size w1 w2) : Only w w2 S := h.trans (Only.new (S := fun _ => False) hb) fun _ _ h => h.elim
theorem only_grow {w w1 w2 : World} {r : Nat} {V u : Value} (h : Only w w1 (Sr r V)) (hu : OwnOk w V u) (hg : w1.grownBy w2 u.ownBlock) : Only w w2 (Sr r V) :=
  h.trans (Only.of_grown hg) fun x hx e => by
    rcases hu with hu | ⟨j, hj, hs⟩
    · exact Or.inr (hu.symm.trans e.symm)
    · rw [hj] at e
      injection e with e
      omega
theorem own_grow {w : World} {m : Nat} {V u v : Value} (hu : OwnOk w V u) (hs : w.heap.size ≤ m) (h : v.ownBlock = u.ownBlock ∨ v.ownBlock = some m) : OwnOk w V v := by
  rcases h with h | h
  · unfold OwnOk
    rw [h]
    exact hu
  · exact Or.inr ⟨_, h, hs⟩

def FRowBad2 (w : World) (base r N : Nat) (V : Value) (e : Ending) (w' : World) : Prop := ∃ (v' : Value) (L' : List (ByteArray × ByteArray)), e = .returned v' ∧ FRow w' base v' L' ∧ L'.length ≤ 31 ∧ SmallF 30 L' ∧ Rd w' r (N + 20) ∧ Below r w w' ∧ Only w w' (Sr r V) ∧ OwnOk w V v'
set_option maxHeartbeats 2000000 in
set_option maxRecDepth 100000 in
theorem l4Bad_own (w : World) (r N base : Nat) (v : Value) (L : List (ByteArray × ByteArray)) (h : Rd w r N) (hN : N ≤ 80000) (hrow : FRow w base v L) (hrb : r < base) (hl : L.length ≤ 20) (hs : SmallF 7 L) (hbw : base ≤ w.heap.size) :
    Calls Try.prog 37 #[.pointer (some ⟨r, 0, none⟩), v] w (FRowBad2 w base r N v) := by
  have hr := h.lt
  have HS := Lib.hid hs
  have HSW := Lib.hid (hs.mono (z' := 30) (by omega))
  by_cases h0 : L.length = 0
  · obtain ⟨a, c, rfl, _, _⟩ := hrow.form
    rw [h0]
    rw [h0] at hrow
    have HR := Lib.hid hrow
    have RD := Lib.hid h
    clear hrow h hs
    go_enter Try.func37, Try.ntmps37
    go_wp2
    go_ret
    exact ⟨_, L, rfl, HR, by omega, HSW, RD.out.mono (by omega) (by omega), Below.refl _ _, Only.refl _ _, Or.inl rfl⟩
  rcases hrow.cases with ⟨rfl, rfl⟩ | ⟨g, c, rfl, hbg, hgl⟩
  · exact absurd rfl h0
  have HR := Lib.hid hrow
  have SG := Lib.hid (Sg.start h)
  have hz : ((L.length : Int) == 0) = false := by rw [beq_eq_false_iff_ne]; omega
  have h0L : 0 < L.length := by omega
  clear hrow h hs
  go_enter Try.func37, Try.ntmps37
  go_wp2_with fail
  refine (pick_sg _ _ _ r _ SG.out (by omega) (by omega) (by omega)).mono ?_
  rintro e w2 ⟨t, rfl, t0, t1, sg2⟩
  have SG2 := Lib.hid sg2
  have R2 := Lib.hid (HR.out.sg sg2 hrb)
  have B2 := Lib.hid (sg2.below_r hr)
  have O2 : Hid (Only w w2 (Sr r (.slice (some ⟨g, 0, none⟩) L.length c))) := only_sg sg2 _
  have hr2 := sg2.1.lt
  have hs2 := sg2.2.size
  clear sg2 SG
  have hrow2 : w2.ownsRow base 45 2 (.slice (some ⟨g, 0, none⟩) L.length c) L.length (fcells L) := R2.out
  have hat := fcells_at L 0 h0L
  have c0 : w2.cell? ⟨g, 0, none⟩ = some (.string L[0].1) := by rw [World.ownsRow.cellAt hrow2 0 (by omega)]; exact hat.1
  have c1 : w2.cell? ⟨g, 1, none⟩ = some (.string L[0].2) := by rw [World.ownsRow.cellAt hrow2 1 (by omega)]; exact hat.2
  have hsm0 := HS.out L[0] (List.getElem_mem h0L)
  generalize hP0 : L[0] = P at c0 c1 hsm0
  clear hat hrow2
  cases e0 : (t == 0)
  · cases e1 : (t == 1)
    · cases e2 : (t == 2)
      · go_wp2
        go_ret
        exact ⟨_, L, rfl, R2.out, by omega, HSW.out, SG2.out.1.mono (by omega) (by omega), B2.out, O2.out, Or.inl rfl⟩
      · go_wp2
        go_loopw [1] (fun u wr => ∃ Z : List (ByteArray × ByteArray), Z.length ≤ 31 ∧ Hid (SmallF 30 Z) ∧ Hid (FRow wr base u Z) ∧ Hid (Rd wr r (N + 1)) ∧ Hid (Below r w wr) ∧ Hid (Only w wr (Sr r (.slice (some ⟨g, 0, none⟩) L.length c))) ∧ Hid (OwnOk w (.slice (some ⟨g, 0, none⟩) L.length c) u) ∧ (∃ a c, u = .slice a Z.length c)) (fun u _ => 31 - fLen u)
        case atStart => exact ⟨L, by omega, HSW, R2, SG2.out.1, B2, O2, Or.inl rfl, _, _, rfl⟩
        case round =>
          obtain ⟨Z, hZ, hsm, hrow, hrd, hb, hon, how, a, c', rfl⟩ := hrel
          have hzs := hb.out.size
          by_cases hlt : Z.length < 31
          · have hlti : (Z.length : Int) < 31 := by omega
            go_wp2_with (first
              | (go_at_call 56; refine (l1Show_any (5000 + (Z.length : Int)) 7 _ (by omega) (by omega) (by omega)).mono ?_; rintro e w3 ⟨S, rfl, hM0, hM, hb3⟩; have R3 := Lib.hid (hrow.out.on hb3); have RD3 := Lib.hid (hrd.out.below hb3); have B3 : Hid (Below r w w3) := hb.out.trans (hb3.mono (by have := hrd.out.lt; omega)); have O3 : Hid (Only w w3 (Sr r (.slice (some ⟨g, 0, none⟩) L.length c))) := only_below hon.out hb3; have hz3 := B3.out.size; clear hb3)
              | (at_builtin; refine wpList_append_forward _ rfl _ _ rfl base _ _ rfl (R3.out.alloc _) _ S ⟨#[49, 50, 48, 48, 49, 48, 48]⟩ rfl ?_ (by omega) (by simp; omega) ?_))
            · simp [go_sem]
            · intro v' w4 hr4 hg4 ho4
              have RD4 := Lib.hid ((RD3.out.below (below_alloc0 _ _)).fgrown (R3.out.alloc _) hrb hg4)
              have B4 : Hid (Below r w w4) := (B3.out.trans ((below_alloc0 w3 _).mono (by have := RD3.out.lt; omega))).trans (grown_r hg4 (fun j e => by have := ((R3.out.alloc (.cells #[.string S, .string ⟨#[49, 50, 48, 48, 49, 48, 48]⟩] 45)).lt j e).1; omega) (by have := RD3.out.lt; simp; omega))
              have O4 : Hid (Only w w4 (Sr r (.slice (some ⟨g, 0, none⟩) L.length c))) := only_grow (only_below O3.out (below_alloc0 w3 _)) how.out hg4
              have W4 : Hid (OwnOk w (.slice (some ⟨g, 0, none⟩) L.length c) v') := own_grow how.out (by have := O3.out.size; omega) ho4
              have R4 := Lib.hid hr4
              obtain ⟨a4, c4, hv4, _, _⟩ := R4.out.form
              subst hv4
              clear hr4 hg4 ho4
              go_wp2
              go_roundw
              case rel => exact ⟨Z ++ [(S, ⟨#[49, 50, 48, 48, 49, 48, 48]⟩)], by simp; omega, hsm.out.more (by omega) (by decide), R4, RD4, B4, O4, W4, _, _, rfl⟩
              case measure => simp [fLen]; omega
          · have hlti : ¬ (Z.length : Int) < 31 := by omega
            go_wp2
            go_ret
            exact ⟨_, Z, rfl, hrow.out, hZ, hsm.out, hrd.out.mono (by omega) (by omega), hb.out, hon.out, how.out⟩
    · go_wp2_with (at_builtin; refine wpList_append_forward _ rfl _ _ rfl base _ _ rfl (R2.out.alloc _) _ P.1 P.2 rfl ?_ (by omega) (by simp; omega) ?_)
      · simp [go_sem]
      · intro v' w4 hr4 hg4 ho4
        have RD4 := Lib.hid ((SG2.out.1.below (below_alloc0 _ _)).fgrown (R2.out.alloc _) hrb hg4)
        have B4 : Hid (Below r w w4) := (B2.out.trans ((below_alloc0 w2 _).mono (by omega))).trans (grown_r hg4 (fun j e => by have := ((R2.out.alloc (.cells #[.string P.1, .string P.2] 45)).lt j e).1; omega) (by simp; omega))
        have O4 : Hid (Only w w4 (Sr r (.slice (some ⟨g, 0, none⟩) L.length c))) := only_grow (only_below O2.out (below_alloc0 w2 _)) (Or.inl rfl) hg4
        have W4 : Hid (OwnOk w (.slice (some ⟨g, 0, none⟩) L.length c) v') := own_grow (Or.inl rfl) (by have := O2.out.size; omega) ho4
        have R4 := Lib.hid hr4
        clear hr4 hg4 ho4
        go_wp2
        go_ret
        exact ⟨_, _, rfl, R4.out, by simp; omega, HSW.out.more (by omega) (by omega), RD4.out.mono (by omega) (by omega), B4.out, O4.out, W4.out⟩
  · have hpz : (P.2 ++ (⟨#[49]⟩ : ByteArray)).size = P.2.size + 1 := by rw [ByteArray.size_append]; rfl
    go_wp2_with fail
    refine (l1Bad_sg _ _ r _ _ (Sg.start SG2.out.1) (by omega) (by omega) (by omega)).mono ?_
    rintro e w3 ⟨s, rfl, s0, s1, sg3⟩
    have R3 := R2.out.sg sg3 hrb
    have hrow3 : w3.ownsRow base 45 2 (.slice (some ⟨g, 0, none⟩) L.length c) L.length (fcells L) := R3
    have d1 : w3.cell? ⟨g, 1, none⟩ = some (.string P.2) := by rw [World.ownsRow.cellAt hrow3 1 (by omega), ← hP0]; exact (fcells_at L 0 h0L).2
    have f1 := World.ownsRow.frozenAt hrow3 1
    obtain ⟨st, g1⟩ := World.ownsRow.stored hrow3 1 (.string s)
    have hset : (fcells L).set 1 (.string s) = fcells (L.set 0 (P.1, s)) := by
      have := fcells_set L 0 P.1 s
      rw [← this]
      congr 1
      apply List.ext_getElem?
      intro j
      by_cases hj : j = 0
      · subst hj
        rw [List.getElem?_set_self (by rw [fcells_length]; omega), ← hP0]
        exact (fcells_at L 0 h0L).1
      · rw [List.getElem?_set_ne (by omega)]
    rw [hset] at st
    have R4 : Hid (FRow (w3.setCell ⟨g, 1, none⟩ (.string s)) base (.slice (some ⟨g, 0, none⟩) L.length c) (L.set 0 (P.1, s))) := by
      unfold Hid FRow
      rw [List.length_set]
      exact st
    have RD4 := Lib.hid (sg3.1.fgrown R3 hrb g1)
    have B4 : Hid (Below r w (w3.setCell ⟨g, 1, none⟩ (.string s))) := (B2.out.trans (sg3.below_r hr2)).trans (grown_r g1 (fun j e => by have := (R3.lt j e).1; omega) (by have := sg3.1.lt; omega))
    have hsm4 : Hid (SmallF 30 (L.set 0 (P.1, s))) := fun p hp => by
      rcases List.mem_or_eq_of_mem_set hp with hp | hp
      · exact HSW.out p hp
      · subst hp
        exact ⟨show P.1.size ≤ 30 by omega, show s.size ≤ 30 by omega⟩
    have hgl3 : g < w3.heap.size := (R3.lt g rfl).2
    have O4 : Hid (Only w (w3.setCell ⟨g, 1, none⟩ (.string s)) (Sr r (.slice (some ⟨g, 0, none⟩) L.length c))) := only_grow (O2.out.trans (only_sg sg3 (.slice (some ⟨g, 0, none⟩) L.length c)) (fun x _ h => h)) (Or.inl rfl) g1
    clear st g1 hset R3 hrow3 sg3
    go_wp2
    go_ret
    exact ⟨_, _, rfl, R4.out, by rw [List.length_set]; omega, hsm4.out, RD4.out.mono (by omega) (by omega), B4.out, O4.out, Or.inl rfl⟩
/-- Two lists of orders that the law may read. -/
def FwsTwo (w : World) (e : Ending) (w' : World) : Prop := ∃ (v v' : Value), e = .returned (.tuple #[v, v']) ∧ FwsOut w w' v ∧ FwsOut w w' v'
theorem bad_two (w : World) (r N b1 b2 : Nat) (v1 v2 : Value) (L1 L2 : List (ByteArray × ByteArray)) (rd : Rd w r N) (hN : N ≤ 1000) (R1 : FRow w b1 v1 L1) (R2 : FRow w b2 v2 L2) (r1 : r < b1) (r2 : r < b2) (l1 : L1.length ≤ 20) (s1 : SmallF 7 L1) (h1 : b1 ≤ w.heap.size) (hap : ∀ k, v1.ownBlock = some k → v2.ownBlock ≠ some k) :
    Calls Try.prog 37 #[.pointer (some ⟨r, 0, none⟩), v1] w (fun e w' => ∃ v1' L1', e = .returned v1' ∧ FRow w' b1 v1' L1' ∧ L1'.length ≤ 31 ∧ SmallF 30 L1' ∧ Rd w' r (N + 20) ∧ Below r w w' ∧ FRow w' b2 v2 L2 ∧ w.heap.size ≤ w'.heap.size ∧ ∀ k, v1'.ownBlock = some k → v2.ownBlock ≠ some k) :=
  (l4Bad_own w r N b1 v1 L1 rd (by omega) R1 r1 l1 s1 h1).mono fun e w' hp => by
    obtain ⟨v', L', he, hr, hl, hs, hrd, hb, ho, hw⟩ := hp
    refine ⟨v', L', he, hr, hl, hs, hrd, hb, R2.only ho (fun k hk hS => ?_), ho.size, fun k hk e2 => ?_⟩
    · rcases hS with e | e
      · have := (R2.lt k hk).1; omega
      · exact hap k e hk
    · rcases hw with e | ⟨j, e, hj⟩
      · rw [e] at hk; exact hap k hk e2
      · rw [e] at hk
        injection hk with hk
        have := (R2.lt k e2).2
        omega
theorem small_direct (F T : Nat → ByteArray) (n : Nat) : SmallF 7 (M.direct F T n) := fun p hp => by
  cases h : M.fwd n F T
  · rw [M.direct_no h] at hp; cases hp
  · obtain ⟨i, hi, e⟩ := List.mem_iff_getElem.1 hp
    have hc := (M.fwd_yes (M.direct_fwd h)).2 i hi
    have h1 := (M.code_yes hc.1).2
    have h2 := (M.code_yes hc.2.1).2
    rw [nF_at hi, e] at h1
    rw [nT_at hi, e] at h2
    omega
set_option maxHeartbeats 4000000 in
set_option maxRecDepth 100000 in
theorem DrawSameForwards_any (a : Option Addr) (l k : Nat) (z : List Int) (w : World) (h : IsRow .u8 w a l k z) :
    Calls Try.prog 12 #[.slice a l k] w (FwsTwo w) := by
  go_enter Try.func12, Try.ntmps12
  go_wp2_with fail
  refine (open_any a l k z w h).mono ?_
  rintro e w1 ⟨r, rfl, rd1, b1, hwr⟩
  have hr1 := rd1.lt
  go_wp2_with fail
  refine (l4Some_any _ r _ rd1 (by omega)).mono ?_
  rintro e w2 ⟨v, L, rfl, R2, l2, S2, sg2⟩
  have B2 := Lib.hid (b1.trans ((sg2.below_r hr1).mono hwr))
  have RD2 := Lib.hid sg2.1
  have z12 := sg2.2.size
  clear h b1 rd1 sg2
  obtain ⟨a2, c2, rfl, _, lt2⟩ := R2.form
  have HR2 := Lib.hid R2
  have HS2 := Lib.hid S2
  have hf2 : FFits L.length (nF L) (nT L) := fun i hi => by
    have := S2 _ (List.getElem_mem hi)
    rw [nF_at hi, nT_at hi]
    exact ⟨by unfold maxLen; omega, by unfold maxLen; omega⟩
  have HD := Lib.hid (spec_DirectForwards w2 a2 L.length c2 (nF L) (nT L) lt2 hf2 (by omega))
  clear R2 S2 lt2 hf2
  go_wp2_with fail
  refine HD.out.mono ?_
  rintro e w3 ⟨u3, rfl, r3, b3⟩
  have l3 := M.direct_le (nF L) (nT L) L.length
  have s3 := small_direct (nF L) (nT L) L.length
  obtain ⟨D, hD⟩ : ∃ D, M.direct (nF L) (nT L) L.length = D := ⟨_, rfl⟩
  rw [hD] at r3 l3 s3
  have RA := Lib.hid (HR2.out.on b3)
  have RB := Lib.hid r3
  have SB := Lib.hid s3
  have B3 := Lib.hid (step B2.out b3)
  have RD3 := Lib.hid (RD2.out.below b3)
  have z23 := b3.size
  have hap : ∀ k, (Value.slice a2 L.length c2).ownBlock = some k → k < w2.heap.size := fun k hk => (HR2.out.lt k hk).2
  have HAP := Lib.hid hap
  clear HD HR2 hD r3 s3 b3 B2 RD2 hap
  go_wp2_with fail
  refine (pick_sg _ _ _ r _ (Sg.start RD3.out) (by omega) (by omega) (by omega)).mono ?_
  rintro e w4 ⟨t, rfl, t0, t1, sg4⟩
  have RA4 := Lib.hid (RA.out.sg sg4 hr1)
  have RB4 := Lib.hid (RB.out.sg sg4 (by omega))
  have RD4 := Lib.hid sg4.1
  have B4 := Lib.hid (B3.out.trans ((sg4.below_r (by omega)).mono hwr))
  have z34 := sg4.2.size
  clear sg4 RA RB RD3 B3
  cases e0 : (t == 0)
  · cases e1 : (t == 1)
    · go_wp2_with fail
      refine (bad_two w4 r _ w1.heap.size w2.heap.size (.slice a2 L.length c2) u3 L D RD4.out (by omega) RA4.out RB4.out hr1 (by omega) (by omega) HS2.out (by omega) (fun k hk e => by
        have h1 := HAP.out k hk
        have h2 := (RB4.out.lt k e).1
        omega)).mono ?_
      rintro e w7 ⟨u7, L7, rfl, ra7, l7, s7, rd7, b7, rb7, z7, hap7⟩
      have RA7 := Lib.hid ra7
      have S7 := Lib.hid s7
      have B7 := Lib.hid (B4.out.trans (b7.mono hwr))
      have RB7 := Lib.hid rb7
      have HA7 := Lib.hid (fun k (hk : Value.ownBlock u3 = some k) (e : u7.ownBlock = some k) => hap7 k e hk)
      have RD7 := Lib.hid rd7
      clear ra7 s7 b7 rb7 rd7 hap7 RA4 RB4 RD4 B4
      go_wp2_with fail
      refine (bad_two w7 r _ w2.heap.size w1.heap.size u3 u7 D L7 RD7.out (by omega) RB7.out RA7.out (by omega) hr1 (by omega) SB.out (by omega) HA7.out).mono ?_
      rintro e w8 ⟨u8, L8, rfl, rb8, l8, s8, rd8, b8, ra8, z8, _⟩
      have B8 := Lib.hid (B7.out.trans (b8.mono hwr))
      have Q1 := Lib.hid (fws_of ra8 l7 S7.out B8.out)
      have Q2 := Lib.hid (fws_of rb8 l8 s8 B8.out)
      clear rb8 s8 rd8 b8 ra8
      go_wp2
      go_ret2
      exact ⟨_, _, rfl, Q1.out, Q2.out⟩
    · rcases RB4.out.cases with ⟨rfl, rfl⟩ | ⟨g, c, rfl, hbg, hgl⟩
      · have h00 : ¬ (0 : Int) < 0 := by omega
        go_wp2_with fail
        refine (bad_two w4 r _ w1.heap.size w2.heap.size (.slice a2 L.length c2) (.slice none 0 0) L [] RD4.out (by omega) RA4.out RB4.out hr1 (by omega) (by omega) HS2.out (by omega) (fun k hk e => by
          have h1 := HAP.out k hk
          have h2 := (RB4.out.lt k e).1
          omega)).mono ?_
        rintro e w7 ⟨u7, L7, rfl, ra7, l7, s7, rd7, b7, rb7, z7, hap7⟩
        have RA7 := Lib.hid ra7
        have S7 := Lib.hid s7
        have B7 := Lib.hid (B4.out.trans (b7.mono hwr))
        have RB7 := Lib.hid rb7
        have HA7 := Lib.hid (fun k (hk : Value.ownBlock (.slice none 0 0) = some k) (e : u7.ownBlock = some k) => hap7 k e hk)
        have RD7 := Lib.hid rd7
        clear ra7 s7 b7 rb7 rd7 hap7 RA4 RB4 RD4 B4
        go_wp2_with fail
        refine (bad_two w7 r _ w2.heap.size w1.heap.size (.slice none 0 0) u7 [] L7 RD7.out (by omega) RB7.out RA7.out (by omega) hr1 (by omega) SB.out (by omega) HA7.out).mono ?_
        rintro e w8 ⟨u8, L8, rfl, rb8, l8, s8, rd8, b8, ra8, z8, _⟩
        have B8 := Lib.hid (B7.out.trans (b8.mono hwr))
        have Q1 := Lib.hid (fws_of ra8 l7 S7.out B8.out)
        have Q2 := Lib.hid (fws_of rb8 l8 s8 B8.out)
        clear rb8 s8 rd8 b8 ra8
        go_wp2
        go_ret2
        exact ⟨_, _, rfl, Q1.out, Q2.out⟩
      · by_cases h0 : D.length = 0
        · rw [h0] at RB4 ⊢
          go_wp2_with fail
          refine (bad_two w4 r _ w1.heap.size w2.heap.size (.slice a2 L.length c2) (.slice (some ⟨g, 0, none⟩) 0 c) L D RD4.out (by omega) RA4.out RB4.out hr1 (by omega) (by omega) HS2.out (by omega) (fun k hk e => by
            have h1 := HAP.out k hk
            have h2 := (RB4.out.lt k e).1
            omega)).mono ?_
          rintro e w7 ⟨u7, L7, rfl, ra7, l7, s7, rd7, b7, rb7, z7, hap7⟩
          have RA7 := Lib.hid ra7
          have S7 := Lib.hid s7
          have B7 := Lib.hid (B4.out.trans (b7.mono hwr))
          have RB7 := Lib.hid rb7
          have HA7 := Lib.hid (fun k (hk : Value.ownBlock (.slice (some ⟨g, 0, none⟩) 0 c) = some k) (e : u7.ownBlock = some k) => hap7 k e hk)
          have RD7 := Lib.hid rd7
          clear ra7 s7 b7 rb7 rd7 hap7 RA4 RB4 RD4 B4
          go_wp2_with fail
          refine (bad_two w7 r _ w2.heap.size w1.heap.size (.slice (some ⟨g, 0, none⟩) 0 c) u7 D L7 RD7.out (by omega) RB7.out RA7.out (by omega) hr1 (by omega) SB.out (by omega) HA7.out).mono ?_
          rintro e w8 ⟨u8, L8, rfl, rb8, l8, s8, rd8, b8, ra8, z8, _⟩
          have B8 := Lib.hid (B7.out.trans (b8.mono hwr))
          have Q1 := Lib.hid (fws_of ra8 l7 S7.out B8.out)
          have Q2 := Lib.hid (fws_of rb8 l8 s8 B8.out)
          clear rb8 s8 rd8 b8 ra8
          go_wp2
          go_ret2
          exact ⟨_, _, rfl, Q1.out, Q2.out⟩
        · have h0L : 0 < D.length := by omega
          have h0i : (0 : Int) < (D.length : Int) := by omega
          go_wp2_with fail
          refine (l4Code_sg _ _ r _ (Sg.start RD4.out) (by omega)).mono ?_
          rintro e w5 ⟨s, rfl, q0, q1, sg5⟩
          have RA5 := Lib.hid (RA4.out.sg sg5 hr1)
          have R5 := RB4.out.sg sg5 (by omega)
          have hrow5 : w5.ownsRow w2.heap.size 45 2 (.slice (some ⟨g, 0, none⟩) D.length c) D.length (fcells D) := R5
          have hat := fcells_at D 0 h0L
          have d1 : w5.cell? ⟨g, 1, none⟩ = some (.string D[0].2) := by rw [World.ownsRow.cellAt hrow5 1 (by omega)]; exact hat.2
          have hsm0 := SB.out D[0] (List.getElem_mem h0L)
          have f1 := World.ownsRow.frozenAt hrow5 1
          obtain ⟨st, g1⟩ := World.ownsRow.stored hrow5 1 (.string s)
          generalize hP0 : D[0] = P at d1 hsm0
          have hset : (fcells D).set 1 (.string s) = fcells (D.set 0 (P.1, s)) := by
            have := fcells_set D 0 P.1 s
            rw [← this]
            congr 1
            apply List.ext_getElem?
            intro j
            by_cases hj : j = 0
            · subst hj
              rw [List.getElem?_set_self (by rw [fcells_length]; omega), ← hP0]
              exact hat.1
            · rw [List.getElem?_set_ne (by omega)]
          rw [hset] at st
          have R6 : Hid (FRow (w5.setCell ⟨g, 1, none⟩ (.string s)) w2.heap.size (.slice (some ⟨g, 0, none⟩) D.length c) (D.set 0 (P.1, s))) := by
            unfold Hid FRow
            rw [List.length_set]
            exact st
          have RD6 := Lib.hid (sg5.1.fgrown R5 (by omega) g1)
          have B6 : Hid (Below w.heap.size w (w5.setCell ⟨g, 1, none⟩ (.string s))) := (B4.out.trans ((sg5.below_r (by omega)).mono hwr)).trans ((grown_r g1 (fun j e => by have := (R5.lt j e).1; omega) (by have := sg5.1.lt; omega)).mono hwr)
          have RA6 : Hid (FRow (w5.setCell ⟨g, 1, none⟩ (.string s)) w1.heap.size (.slice a2 L.length c2) L) := RA5.out.kept g1 (fun b hb e => by
            have e' : some g = some b := e
            injection e' with e'
            have := HAP.out b hb
            omega)
          have SM6 : Hid (SmallF 7 (D.set 0 (P.1, s))) := fun p hp => by
            rcases List.mem_or_eq_of_mem_set hp with hp | hp
            · exact SB.out p hp
            · subst hp
              exact ⟨show P.1.size ≤ 7 by omega, show s.size ≤ 7 by omega⟩
          have hgl5 : g < w5.heap.size := (R5.lt g rfl).2
          have z45 := sg5.2.size
          have l6 : (D.set 0 (P.1, s)).length ≤ 8 := by rw [List.length_set]; omega
          clear st g1 hset R5 hrow5 sg5 hP0 RA5 RA4 RB4 RD4 B4
          have z56 : (w5.setCell ⟨g, 1, none⟩ (.string s)).heap.size = w5.heap.size := by simp
          go_wp2_with fail
          refine (bad_two (w5.setCell ⟨g, 1, none⟩ (.string s)) r _ w1.heap.size w2.heap.size (.slice a2 L.length c2) (.slice (some ⟨g, 0, none⟩) D.length c) L (D.set 0 (P.1, s)) RD6.out (by omega) RA6.out R6.out hr1 (by omega) (by omega) HS2.out (by omega) (fun k hk e => by
            have h1 := HAP.out k hk
            have h2 := (R6.out.lt k e).1
            omega)).mono ?_
          rintro e w7 ⟨u7, L7, rfl, ra7, l7, s7, rd7, b7, rb7, z7, hap7⟩
          have RA7 := Lib.hid ra7
          have S7 := Lib.hid s7
          have B7 := Lib.hid (B6.out.trans (b7.mono hwr))
          have RB7 := Lib.hid rb7
          have HA7 := Lib.hid (fun k (hk : Value.ownBlock (.slice (some ⟨g, 0, none⟩) D.length c) = some k) (e : u7.ownBlock = some k) => hap7 k e hk)
          have RD7 := Lib.hid rd7
          clear ra7 s7 b7 rb7 rd7 hap7 RA6 R6 RD6 B6
          go_wp2_with fail
          refine (bad_two w7 r _ w2.heap.size w1.heap.size (.slice (some ⟨g, 0, none⟩) D.length c) u7 (D.set 0 (P.1, s)) L7 RD7.out (by omega) RB7.out RA7.out (by omega) hr1 (by omega) SM6.out (by omega) HA7.out).mono ?_
          rintro e w8 ⟨u8, L8, rfl, rb8, l8, s8, rd8, b8, ra8, z8, _⟩
          have B8 := Lib.hid (B7.out.trans (b8.mono hwr))
          have Q1 := Lib.hid (fws_of ra8 l7 S7.out B8.out)
          have Q2 := Lib.hid (fws_of rb8 l8 s8 B8.out)
          clear rb8 s8 rd8 b8 ra8
          go_wp2
          go_ret2
          exact ⟨_, _, rfl, Q1.out, Q2.out⟩
  · go_wp2_with fail
    refine (l4Some_any _ r _ RD4.out (by omega)).mono ?_
    rintro e w5 ⟨u5, E, rfl, r5, l5, s5, sg5⟩
    have RB5 := Lib.hid r5
    have SB5 := Lib.hid s5
    have RA5 := Lib.hid (RA4.out.sg sg5 hr1)
    have RD5 := Lib.hid sg5.1
    have B5 := Lib.hid (B4.out.trans ((sg5.below_r (by omega)).mono hwr))
    have z45 := sg5.2.size
    clear r5 s5 sg5 RA4 RB4 RD4 B4
    go_wp2_with fail
    refine (bad_two w5 r _ w1.heap.size w4.heap.size (.slice a2 L.length c2) u5 L E RD5.out (by omega) RA5.out RB5.out hr1 (by omega) (by omega) HS2.out (by omega) (fun k hk e => by
      have h1 := HAP.out k hk
      have h2 := (RB5.out.lt k e).1
      omega)).mono ?_
    rintro e w7 ⟨u7, L7, rfl, ra7, l7, s7, rd7, b7, rb7, z7, hap7⟩
    have RA7 := Lib.hid ra7
    have S7 := Lib.hid s7
    have B7 := Lib.hid (B5.out.trans (b7.mono hwr))
    have RB7 := Lib.hid rb7
    have HA7 := Lib.hid (fun k (hk : Value.ownBlock u5 = some k) (e : u7.ownBlock = some k) => hap7 k e hk)
    have RD7 := Lib.hid rd7
    clear ra7 s7 b7 rb7 rd7 hap7 RA5 RB5 RD5 B5
    go_wp2_with fail
    refine (bad_two w7 r _ w4.heap.size w1.heap.size u5 u7 E L7 RD7.out (by omega) RB7.out RA7.out (by omega) hr1 (by omega) SB5.out (by omega) HA7.out).mono ?_
    rintro e w8 ⟨u8, L8, rfl, rb8, l8, s8, rd8, b8, ra8, z8, _⟩
    have B8 := Lib.hid (B7.out.trans (b8.mono hwr))
    have Q1 := Lib.hid (fws_of ra8 l7 S7.out B8.out)
    have Q2 := Lib.hid (fws_of rb8 l8 s8 B8.out)
    clear rb8 s8 rd8 b8 ra8
    go_wp2
    go_ret2
    exact ⟨_, _, rfl, Q1.out, Q2.out⟩
end Go.Proofs.Ytekkajgifgnklaa
