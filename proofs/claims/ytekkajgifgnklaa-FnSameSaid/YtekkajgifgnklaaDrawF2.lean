/-
  Drawn orders, and codes beside them.
-/
import Derived.Test.YtekkajgifgnklaaDrawG
import Derived.Test.YtekkajgifgnklaaDrawB
import Derived.Test.YtekkajgifgnklaaFRow
import Derived.Test.YtekkajgifgnklaaFwdV
namespace Go.Proofs.Ytekkajgifgnklaa
open Go.RowKit
open Go.PlainAid (bt get_bt bt_nonneg bt_le)
set_option linter.unusedVariables false

def fLen : Value → Nat
  | .slice _ n _ => n
  | _ => 0
def SmallF (z : Nat) (L : List (ByteArray × ByteArray)) : Prop := ∀ p ∈ L, p.1.size ≤ z ∧ p.2.size ≤ z
theorem SmallF.mono {z z' : Nat} {L : List (ByteArray × ByteArray)} (h : SmallF z L) (hz : z ≤ z') : SmallF z' L := fun p hp => ⟨Nat.le_trans (h p hp).1 hz, Nat.le_trans (h p hp).2 hz⟩
theorem SmallF.more {z : Nat} {L : List (ByteArray × ByteArray)} (h : SmallF z L) {x y : ByteArray} (hx : x.size ≤ z) (hy : y.size ≤ z) : SmallF z (L ++ [(x, y)]) := fun p hp => by
  rcases List.mem_append.1 hp with hp | hp
  · exact h p hp
  · have := List.mem_singleton.1 hp
    subst this
    exact ⟨hx, hy⟩
theorem FRow.sg {w w' : World} {base r N : Nat} {v : Value} {L : List (ByteArray × ByteArray)} (h : FRow w base v L) (hs : Sg w w' r N) (hr : r < base) : FRow w' base v L :=
  h.kept hs.2 (fun b hb e => by have := (h.lt b hb).1; injection e with e; omega)
theorem Rd.fgrown {w w' : World} {base r N : Nat} {v : Value} {L : List (ByteArray × ByteArray)} (h : Rd w r N) (hr : FRow w base v L) (hrb : r < base) (hg : w.grownBy w' v.ownBlock) : Rd w' r N := by
  have hlt := h.lt
  have hne : ∀ b, b ≤ r → some b ≠ v.ownBlock := fun b hb e => by have := (hr.lt b e.symm).1; omega
  obtain ⟨p, a, l, k, hp, hN, h0, h1, hf, hlk, hk, hl, hB⟩ := h
  refine ⟨p, a, l, k, hp, hN, hg.cell h0 (hne r (Nat.le_refl _)), hg.cell h1 (hne r (Nat.le_refl _)), (World.frozen?_of_block (a := ⟨r, 1, none⟩) (hg.block r hlt (hne r (Nat.le_refl _)))).trans hf, hlk, hk, hl, ?_⟩
  rcases hB with hB | ⟨b, off, rfl, hbr, hB⟩
  · exact Or.inl hB
  · refine Or.inr ⟨b, off, rfl, hbr, fun i hi => ?_⟩
    obtain ⟨x, hx, x0, x1⟩ := hB i hi
    exact ⟨x, hg.cell hx (hne b (by omega)), x0, x1⟩
theorem Sg.fgrown {W w w' : World} {base r N : Nat} {v : Value} {L : List (ByteArray × ByteArray)} (h : Sg W w r N) (hr : FRow w base v L) (hb : W.heap.size ≤ base) (hrb : r < base) (hg : w.grownBy w' v.ownBlock) : Sg W w' r N :=
  ⟨h.1.fgrown hr hrb hg, h.2.andThen hg fun j e => Or.inl (Nat.le_trans hb (hr.lt j e).1)⟩

set_option maxHeartbeats 1000000 in
theorem l4Code_sg (W w : World) (r N : Nat) (h : Sg W w r N) (hN : N ≤ 90000) :
    Calls Try.prog 36 #[.pointer (some ⟨r, 0, none⟩)] w (StrSg W 7 7 r (N + 1)) := by
  go_enter Try.func36, Try.ntmps36
  go_wp2_with fail
  refine (pick_sg W _ _ r _ h (by omega) (by omega) (by omega)).mono ?_
  rintro e w1 ⟨v, rfl, v0, v1, sg1⟩
  go_wp2_with fail
  refine (l1Show_any v 2 _ v0 (by omega) (by omega)).mono ?_
  rintro e w2 ⟨s, rfl, q0, q1, hb2⟩
  have sg2 := sg1.below hb2
  have hz : ((⟨#[49, 50, 48, 48, 49]⟩ : ByteArray) ++ s).size = 5 + s.size := by rw [ByteArray.size_append]; rfl
  go_wp2
  go_ret
  exact ⟨_, rfl, by rw [hz]; omega, by rw [hz]; omega, sg2⟩

def FRowSg (W : World) (base m r N : Nat) (e : Ending) (w' : World) : Prop := ∃ (v : Value) (L : List (ByteArray × ByteArray)), e = .returned v ∧ FRow w' base v L ∧ L.length ≤ m ∧ SmallF 7 L ∧ Sg W w' r N
set_option maxHeartbeats 2000000 in
theorem l4Some_any (w : World) (r N : Nat) (h : Rd w r N) (hN : N ≤ 80000) :
    Calls Try.prog 33 #[.pointer (some ⟨r, 0, none⟩)] w (FRowSg w w.heap.size 8 r (N + 50)) := by
  have hr := h.lt
  have he := one_frow w
  have sg := ((Sg.start h).alloc (.cells #[] 45)).alloc (.cells #[.int .i64 4, .int .i64 3, .int .i64 6, .int .i64 2, .int .i64 8, .int .i64 0] 3)
  have hc := cells_int [4, 3, 6, 2, 8, 0] 3 (w.alloc (.cells #[] 45))
  simp only [World.size_alloc] at hc
  have HC := Lib.hid hc
  have HE := Lib.hid (he.alloc (.cells #[.int .i64 4, .int .i64 3, .int .i64 6, .int .i64 2, .int .i64 8, .int .i64 0] 3))
  have SG := Lib.hid sg
  have RD := Lib.hid sg.1
  clear sg h he hc
  go_enter Try.func33, Try.ntmps33
  go_wp2_with fail
  refine (num_sg _ [4, 3, 6, 2, 8, 0] (w.heap.size + 1) _ r _ (Sg.start RD.out) (by omega) (by decide) (by decide) (by omega) HC.out).mono ?_
  rintro e w1 ⟨v, rfl, hm, sg1⟩
  have hv := (show ∀ x ∈ [(4 : Int), 3, 6, 2, 8, 0], 0 ≤ x ∧ x ≤ 8 from by decide) v hm
  obtain ⟨n, rfl⟩ := Int.eq_ofNat_of_zero_le hv.1
  have hn : n ≤ 8 := by omega
  have R1 := Lib.hid (HE.out.sg sg1 hr)
  have S1 := Lib.hid (SG.out.trans sg1)
  clear hm hv sg1 HE SG RD HC
  go_wp2
  go_loopw [3, 4] (fun u i wr => ∃ (k : Nat) (L : List (ByteArray × ByteArray)), i = .int .i64 k ∧ L.length + k ≤ 8 ∧ k ≤ n ∧ Hid (SmallF 7 L) ∧ Hid (FRow wr w.heap.size u L) ∧ Hid (Sg w wr r (N + 1 + 2 * (n - k)))) (fun _ i _ => (intOf i).toNat)
  case atStart => exact ⟨n, [], rfl, by simpa using hn, Nat.le_refl _, (fun _ h => by cases h), R1, by rw [Nat.sub_self]; exact S1⟩
  case round =>
    obtain ⟨k, L, rfl, hk, hkn, hsm, hrow, hsg⟩ := hrel
    by_cases h0 : 0 < k
    · have hk0 : (0 : Int) < (k : Int) := by omega
      go_wp2_with fail
      refine (l4Code_sg _ _ r _ (Sg.start hsg.out.1) (by omega)).mono ?_
      rintro e w3 ⟨s, rfl, s0, s1, sg3⟩
      have R3 := Lib.hid (hrow.out.sg sg3 hr)
      have S3 := Lib.hid (hsg.out.trans sg3)
      clear sg3 hrow hsg
      go_wp2_with fail
      refine (l4Code_sg _ _ r _ (Sg.start S3.out.1) (by omega)).mono ?_
      rintro e w4 ⟨t, rfl, t0, t1, sg4⟩
      have R4 := Lib.hid (R3.out.sg sg4 hr)
      have S4 := Lib.hid (S3.out.trans sg4)
      have hw4 := S4.out.2.size
      clear sg4 R3 S3
      obtain ⟨a, c, hv, hlc, hst⟩ := R4.out.form
      have hx := Lib.hid (spec_l4Index (w4.alloc (.cells #[.string s, .string t] 45)) a L.length c (nF L) (nT L) (hst.on (below_alloc0 _ _)) (by omega) s)
      have hrk := M.rank_bd (nF L) s L.length
      obtain ⟨q, hq⟩ : ∃ q, M.rankTo (nF L) s L.length = q := ⟨_, rfl⟩
      rw [hq] at hrk hx
      subst hv
      clear hst hq
      by_cases hneg : q < 0
      · go_wp2_with (first
          | (go_at_call 47; refine (hx.out).mono ?_; rintro e w5 ⟨rfl, rfl⟩)
          | (at_builtin; refine wpList_append_forward _ rfl _ _ rfl w.heap.size _ _ rfl ((R4.out.alloc _).alloc _) _ s t rfl ?_ (by omega) (by simp; omega) ?_))
        · simp [go_sem]
        · intro v' w5 hr5 hg5 ho5
          have S5 := Lib.hid (((S4.out.alloc _).alloc _).fgrown ((R4.out.alloc _).alloc _) (Nat.le_refl _) hr hg5)
          have R5 := Lib.hid hr5
          clear hr5 hg5 ho5
          go_wp2
          go_roundw
          case rel => exact ⟨k - 1, L ++ [(s, t)], by go_num, by simp; omega, by omega, hsm.out.more (by omega) (by omega), R5, S5.out.mono (by omega) (by omega)⟩
          case measure => simp [intOf]; omega
      · go_wp2_with (go_at_call 47; refine (hx.out).mono ?_; rintro e w5 ⟨rfl, rfl⟩)
        go_roundw
        case rel => exact ⟨k - 1, L, by go_num, by omega, by omega, hsm, R4.out.alloc _, (S4.out.alloc _).mono (by omega) (by omega)⟩
        case measure => simp [intOf]; omega
    · obtain rfl : k = 0 := by omega
      go_wp2
      go_ret
      exact ⟨_, _, rfl, hrow, by omega, hsm.out, hsg.out.mono (by omega) (by omega)⟩

def FRowBad (w : World) (base r N : Nat) (e : Ending) (w' : World) : Prop := ∃ (v' : Value) (L' : List (ByteArray × ByteArray)), e = .returned v' ∧ FRow w' base v' L' ∧ L'.length ≤ 31 ∧ SmallF 30 L' ∧ Rd w' r (N + 20) ∧ Below r w w'
set_option maxHeartbeats 2000000 in
set_option maxRecDepth 100000 in
theorem l4Bad_any (w : World) (r N base : Nat) (v : Value) (L : List (ByteArray × ByteArray)) (h : Rd w r N) (hN : N ≤ 80000) (hrow : FRow w base v L) (hrb : r < base) (hl : L.length ≤ 20) (hs : SmallF 7 L) (hbw : base ≤ w.heap.size) :
    Calls Try.prog 37 #[.pointer (some ⟨r, 0, none⟩), v] w (FRowBad w base r N) := by
  have hr := h.lt
  have HS := Lib.hid hs
  have HSW := Lib.hid (hs.mono (z' := 30) (by omega))
  by_cases h0 : L.length = 0
  · obtain ⟨a, c, rfl, _, _⟩ := hrow.form
    rw [h0]
    rw [h0] at hrow
    have HR := Lib.hid hrow
    have RD := Lib.hid h
    clear hrow h hs
    go_enter Try.func37, Try.ntmps37
    go_wp2
    go_ret
    exact ⟨_, L, rfl, HR, by omega, HSW, RD.out.mono (by omega) (by omega), Below.refl _ _⟩
  rcases hrow.cases with ⟨rfl, rfl⟩ | ⟨g, c, rfl, hbg, hgl⟩
  · exact absurd rfl h0
  have HR := Lib.hid hrow
  have SG := Lib.hid (Sg.start h)
  have hz : ((L.length : Int) == 0) = false := by rw [beq_eq_false_iff_ne]; omega
  have h0L : 0 < L.length := by omega
  clear hrow h hs
  go_enter Try.func37, Try.ntmps37
  go_wp2_with fail
  refine (pick_sg _ _ _ r _ SG.out (by omega) (by omega) (by omega)).mono ?_
  rintro e w2 ⟨t, rfl, t0, t1, sg2⟩
  have SG2 := Lib.hid sg2
  have R2 := Lib.hid (HR.out.sg sg2 hrb)
  have B2 := Lib.hid (sg2.below_r hr)
  have hr2 := sg2.1.lt
  have hs2 := sg2.2.size
  clear sg2 SG
  have hrow2 : w2.ownsRow base 45 2 (.slice (some ⟨g, 0, none⟩) L.length c) L.length (fcells L) := R2.out
  have hat := fcells_at L 0 h0L
  have c0 : w2.cell? ⟨g, 0, none⟩ = some (.string L[0].1) := by rw [World.ownsRow.cellAt hrow2 0 (by omega)]; exact hat.1
  have c1 : w2.cell? ⟨g, 1, none⟩ = some (.string L[0].2) := by rw [World.ownsRow.cellAt hrow2 1 (by omega)]; exact hat.2
  have hsm0 := HS.out L[0] (List.getElem_mem h0L)
  generalize hP0 : L[0] = P at c0 c1 hsm0
  clear hat hrow2
  cases e0 : (t == 0)
  · cases e1 : (t == 1)
    · cases e2 : (t == 2)
      · go_wp2
        go_ret
        exact ⟨_, L, rfl, R2.out, by omega, HSW.out, SG2.out.1.mono (by omega) (by omega), B2.out⟩
      · go_wp2
        go_loopw [1] (fun u wr => ∃ Z : List (ByteArray × ByteArray), Z.length ≤ 31 ∧ Hid (SmallF 30 Z) ∧ Hid (FRow wr base u Z) ∧ Hid (Rd wr r (N + 1)) ∧ Hid (Below r w wr) ∧ (∃ a c, u = .slice a Z.length c)) (fun u _ => 31 - fLen u)
        case atStart => exact ⟨L, by omega, HSW, R2, SG2.out.1, B2, _, _, rfl⟩
        case round =>
          obtain ⟨Z, hZ, hsm, hrow, hrd, hb, a, c', rfl⟩ := hrel
          have hzs := hb.out.size
          by_cases hlt : Z.length < 31
          · have hlti : (Z.length : Int) < 31 := by omega
            go_wp2_with (first
              | (go_at_call 56; refine (l1Show_any (5000 + (Z.length : Int)) 7 _ (by omega) (by omega) (by omega)).mono ?_; rintro e w3 ⟨S, rfl, hM0, hM, hb3⟩; have R3 := Lib.hid (hrow.out.on hb3); have RD3 := Lib.hid (hrd.out.below hb3); have B3 : Hid (Below r w w3) := hb.out.trans (hb3.mono (by have := hrd.out.lt; omega)); have hz3 := B3.out.size; clear hb3)
              | (at_builtin; refine wpList_append_forward _ rfl _ _ rfl base _ _ rfl (R3.out.alloc _) _ S ⟨#[49, 50, 48, 48, 49, 48, 48]⟩ rfl ?_ (by omega) (by simp; omega) ?_))
            · simp [go_sem]
            · intro v' w4 hr4 hg4 ho4
              have RD4 := Lib.hid ((RD3.out.below (below_alloc0 _ _)).fgrown (R3.out.alloc _) hrb hg4)
              have B4 : Hid (Below r w w4) := (B3.out.trans ((below_alloc0 w3 _).mono (by have := RD3.out.lt; omega))).trans (grown_r hg4 (fun j e => by have := ((R3.out.alloc (.cells #[.string S, .string ⟨#[49, 50, 48, 48, 49, 48, 48]⟩] 45)).lt j e).1; omega) (by have := RD3.out.lt; simp; omega))
              have R4 := Lib.hid hr4
              obtain ⟨a4, c4, hv4, _, _⟩ := R4.out.form
              subst hv4
              clear hr4 hg4 ho4
              go_wp2
              go_roundw
              case rel => exact ⟨Z ++ [(S, ⟨#[49, 50, 48, 48, 49, 48, 48]⟩)], by simp; omega, hsm.out.more (by omega) (by decide), R4, RD4, B4, _, _, rfl⟩
              case measure => simp [fLen]; omega
          · have hlti : ¬ (Z.length : Int) < 31 := by omega
            go_wp2
            go_ret
            exact ⟨_, Z, rfl, hrow.out, hZ, hsm.out, hrd.out.mono (by omega) (by omega), hb.out⟩
    · go_wp2_with (at_builtin; refine wpList_append_forward _ rfl _ _ rfl base _ _ rfl (R2.out.alloc _) _ P.1 P.2 rfl ?_ (by omega) (by simp; omega) ?_)
      · simp [go_sem]
      · intro v' w4 hr4 hg4 ho4
        have RD4 := Lib.hid ((SG2.out.1.below (below_alloc0 _ _)).fgrown (R2.out.alloc _) hrb hg4)
        have B4 : Hid (Below r w w4) := (B2.out.trans ((below_alloc0 w2 _).mono (by omega))).trans (grown_r hg4 (fun j e => by have := ((R2.out.alloc (.cells #[.string P.1, .string P.2] 45)).lt j e).1; omega) (by simp; omega))
        have R4 := Lib.hid hr4
        clear hr4 hg4 ho4
        go_wp2
        go_ret
        exact ⟨_, _, rfl, R4.out, by simp; omega, HSW.out.more (by omega) (by omega), RD4.out.mono (by omega) (by omega), B4.out⟩
  · have hpz : (P.2 ++ (⟨#[49]⟩ : ByteArray)).size = P.2.size + 1 := by rw [ByteArray.size_append]; rfl
    go_wp2_with fail
    refine (l1Bad_sg _ _ r _ _ (Sg.start SG2.out.1) (by omega) (by omega) (by omega)).mono ?_
    rintro e w3 ⟨s, rfl, s0, s1, sg3⟩
    have R3 := R2.out.sg sg3 hrb
    have hrow3 : w3.ownsRow base 45 2 (.slice (some ⟨g, 0, none⟩) L.length c) L.length (fcells L) := R3
    have d1 : w3.cell? ⟨g, 1, none⟩ = some (.string P.2) := by rw [World.ownsRow.cellAt hrow3 1 (by omega), ← hP0]; exact (fcells_at L 0 h0L).2
    have f1 := World.ownsRow.frozenAt hrow3 1
    obtain ⟨st, g1⟩ := World.ownsRow.stored hrow3 1 (.string s)
    have hset : (fcells L).set 1 (.string s) = fcells (L.set 0 (P.1, s)) := by
      have := fcells_set L 0 P.1 s
      rw [← this]
      congr 1
      apply List.ext_getElem?
      intro j
      by_cases hj : j = 0
      · subst hj
        rw [List.getElem?_set_self (by rw [fcells_length]; omega), ← hP0]
        exact (fcells_at L 0 h0L).1
      · rw [List.getElem?_set_ne (by omega)]
    rw [hset] at st
    have R4 : Hid (FRow (w3.setCell ⟨g, 1, none⟩ (.string s)) base (.slice (some ⟨g, 0, none⟩) L.length c) (L.set 0 (P.1, s))) := by
      unfold Hid FRow
      rw [List.length_set]
      exact st
    have RD4 := Lib.hid (sg3.1.fgrown R3 hrb g1)
    have B4 : Hid (Below r w (w3.setCell ⟨g, 1, none⟩ (.string s))) := (B2.out.trans (sg3.below_r hr2)).trans (grown_r g1 (fun j e => by have := (R3.lt j e).1; omega) (by have := sg3.1.lt; omega))
    have hsm4 : Hid (SmallF 30 (L.set 0 (P.1, s))) := fun p hp => by
      rcases List.mem_or_eq_of_mem_set hp with hp | hp
      · exact HSW.out p hp
      · subst hp
        exact ⟨show P.1.size ≤ 30 by omega, show s.size ≤ 30 by omega⟩
    have hgl3 : g < w3.heap.size := (R3.lt g rfl).2
    clear st g1 hset R3 hrow3 sg3
    go_wp2
    go_ret
    exact ⟨_, _, rfl, R4.out, by rw [List.length_set]; omega, hsm4.out, RD4.out.mono (by omega) (by omega), B4.out⟩
end Go.Proofs.Ytekkajgifgnklaa
namespace Go.Proofs.Ytekkajgifgnklaa
open Go.RowKit
open Go.PlainAid (bt get_bt bt_nonneg bt_le)
set_option linter.unusedVariables false

def FRowOpen (w : World) (r N : Nat) (e : Ending) (w' : World) : Prop := ∃ (base : Nat) (v' : Value) (L' : List (ByteArray × ByteArray)), e = .returned v' ∧ r < base ∧ FRow w' base v' L' ∧ L'.length ≤ 31 ∧ SmallF 30 L' ∧ Rd w' r N ∧ Below r w w'
set_option maxHeartbeats 1000000 in
theorem l4Open_any (w : World) (r N : Nat) (h : Rd w r N) (hN : N ≤ 70000) :
    Calls Try.prog 19 #[.pointer (some ⟨r, 0, none⟩)] w (FRowOpen w r (N + 100)) := by
  have hr := h.lt
  go_enter Try.func19, Try.ntmps19
  go_wp2_with fail
  refine (l4Some_any _ r _ h (by omega)).mono ?_
  rintro e w2 ⟨v, L, rfl, R2, l2, S2, sg2⟩
  have B2 := Lib.hid (sg2.below_r hr)
  have hz := sg2.2.size
  go_wp2_with fail
  refine (l4Bad_any _ r _ _ v L sg2.1 (by omega) R2 hr (by omega) S2 hz).mono ?_
  rintro e w3 ⟨v', L', rfl, R3, l3, S3, rd3, B3⟩
  have B4 := B2.out.trans B3
  clear R2 S2 sg2 B2 B3
  go_wp2
  go_ret
  exact ⟨_, _, _, rfl, hr, R3, l3, S3, rd3.mono (by omega) (by omega), B4⟩
/-- Orders that the law may read. -/
def FwsOut (w w' : World) (v : Value) : Prop := ∃ (a : Option Addr) (n c : Nat) (F T : Nat → ByteArray), v = .slice a n c ∧ Fws w' a n F T ∧ FFits n F T ∧ n ≤ 31 ∧ Below w.heap.size w w'
theorem fws_of {w w' : World} {base : Nat} {v : Value} {L : List (ByteArray × ByteArray)} (h : FRow w' base v L) (hl : L.length ≤ 31) (hs : SmallF 30 L) (hb : Below w.heap.size w w') : FwsOut w w' v := by
  obtain ⟨a, c, rfl, _, hL⟩ := h.form
  refine ⟨a, _, c, _, _, rfl, hL, fun i hi => ?_, hl, hb⟩
  have := hs _ (List.getElem_mem hi)
  rw [nF_at hi, nT_at hi]
  exact ⟨by unfold maxLen; omega, by unfold maxLen; omega⟩
def FwsOne (w : World) (e : Ending) (w' : World) : Prop := ∃ v : Value, e = .returned v ∧ FwsOut w w' v
def FwsStr (w : World) (e : Ending) (w' : World) : Prop := ∃ (v : Value) (s : ByteArray), e = .returned (.tuple #[v, .string s]) ∧ s.size ≤ 30 ∧ FwsOut w w' v
def FwsStr2 (w : World) (e : Ending) (w' : World) : Prop := ∃ (v : Value) (s t : ByteArray), e = .returned (.tuple #[v, .string s, .string t]) ∧ s.size ≤ 30 ∧ t.size ≤ 30 ∧ FwsOut w w' v
end Go.Proofs.Ytekkajgifgnklaa
