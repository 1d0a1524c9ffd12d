/-
  Letters drawn for a plan.
-/
import Derived.Test.YtekfjheaffkakaaMgR6
import Derived.Test.YtekfjheaffkakaaMgR7
import Derived.Test.YtekfjheaffkakaaPPass
import Derived.Test.YtekfjheaffkakaaMark
import Derived.Test.YtekfjheaffkakaaMgR2
import Derived.Test.YtekfjheaffkakaaMgR17
import Derived.Test.YtekfjheaffkakaaTry2
import Derived.Test.YtekfjheaffkakaaMgR8
import Derived.Test.YtekfjheaffkakaaMgR13
namespace Go.Proofs.Ytekfjheaffkakaa
open Go.RowKit
set_option linter.unusedVariables false

theorem Sg.of_only {W w : World} {r N : Nat} (h : Rd w r N) (ho : Only W w (fun k => k = r)) : Sg W w r N := ⟨h, ho.os, ho.tape, ho.output, ho.size, fun i hi hn => ho.block i hi (fun e => hn (by rw [e]))⟩
set_option maxHeartbeats 4000000 in
set_option maxRecDepth 100000 in
theorem l3Mail_any (w : World) (r N : Nat) (b p : Int) (a : Option Addr) (n c : Nat) (S : Nat → ByteArray) (h : Rd w r N) (hN : N ≤ 70000) (hs : Strs w a n S) (hn : 1 ≤ n ∧ n ≤ 13) (h7 : ∀ i, i < n → (S i).size ≤ 7) (har : ∀ b' o', a = some ⟨b', o', none⟩ → b' ≠ r) :
    Calls Try.prog 20 #[.pointer (some ⟨r, 0, none⟩), .agg #[.int .i64 b, .int .i64 p, .slice a n c]] w (RowSg w w.heap.size 14 r (N + 300)) := by
  have hr := h.lt
  obtain ⟨b9, o9, ha9, _⟩ := hs 0 (by omega)
  have HA9 := Lib.hid ha9
  clear ha9
  obtain ⟨W0, hW0⟩ : ∃ W0, w.alloc (.cells #[.int .i64 b, .int .i64 p, .slice a n c] 25) = W0 := ⟨_, rfl⟩
  have b0 := below_alloc0 w (.cells #[.int .i64 b, .int .i64 p, .slice a n c] 25)
  have SG0 := Lib.hid ((Sg.start h).alloc (.cells #[.int .i64 b, .int .i64 p, .slice a n c] 25))
  have X0 := Lib.hid (tri_made w (.int .i64 b) (.int .i64 p) (.slice a n c) 25)
  rw [hW0] at b0 SG0 X0
  have z0 : W0.heap.size = w.heap.size + 1 := by rw [← hW0]; simp
  have HS0 := Lib.hid (hs.on b0)
  have HAR := Lib.hid har
  have H7 := Lib.hid h7
  have hal : Hid (∀ b' o', a = some ⟨b', o', none⟩ → 0 < n → b' < w.heap.size) := fun b' o' e h0 => hs.lt e h0
  have HW0 := Lib.hid hW0
  clear h hs har h7 b0 hW0
  go_enter Try.func20, Try.ntmps20
  go_wp2_with fail
  rw [HW0.out]
  refine (pick_sg W0 _ _ r _ (Sg.start SG0.out.1) (by omega) (by omega) (by omega)).mono ?_
  rintro e w1 ⟨t, rfl, t0, t1, sg1⟩
  have sk : IntKind.i64.wrap (1 + t) = 1 + t := IntWalk.i64_in _ (by omega)
  have z1 := sg1.2.size
  have SG1 := Lib.hid (SG0.out.trans sg1)
  have X1 := Lib.hid (X0.out.sg sg1 (by omega))
  have S1 := Lib.hid (strsOnly HS0.out sg1.only (fun b' o' e h0 hbad => HAR.out b' o' e hbad))
  clear sg1 SG0 X0 HS0 HW0
  go_wp2_with fail
  refine (l2Some_any _ r _ (1 + t) SG1.out.1 (by omega) (by omega) (by omega)).mono ?_
  rintro e w2 ⟨v, L, rfl, R2, l2, M2, sg2⟩
  have z2 := sg2.2.size
  have SG2 := Lib.hid (SG1.out.trans sg2)
  have X2 := Lib.hid (X1.out.sg sg2 (by omega))
  have S2 := Lib.hid (strsOnly S1.out sg2.only (fun b' o' e h0 hbad => HAR.out b' o' e hbad))
  obtain ⟨a2, c2, rfl, _, _⟩ := R2.form
  obtain ⟨m, hm⟩ : ∃ m, L.length = m := ⟨_, rfl⟩
  have HM := Lib.hid hm
  have RR := R2.lower (base' := w1.heap.size) (Nat.le_refl _)
  rw [hm] at RR l2 ⊢
  have HR := Lib.hid RR
  have HM2 := Lib.hid M2
  clear sg2 SG1 X1 S1 R2 M2 hm RR
  go_wp2
  go_loopw [6] (fun i wr => ∃ (j : Nat) (L' : List (Int × ByteArray)), j ≤ m ∧ i = .int .i64 j ∧ Hid (L'.length = m) ∧ Hid (Small 7 L') ∧ Hid (Row wr w1.heap.size (.slice a2 m c2) L') ∧ Hid (Sg w wr r (N + 201 + 2 * j)) ∧ Hid (Tri wr w.heap.size (.int .i64 b) (.int .i64 p) (.slice a n c)) ∧ Hid (Strs wr a n S) ∧ w2.heap.size ≤ wr.heap.size) (fun i _ => m - (intOf i).toNat)
  case atStart => exact ⟨0, L, Nat.zero_le _, rfl, HM, HM2, HR, SG2.out.mono (by omega) (by omega), X2, S2, Nat.le_refl _⟩
  case round =>
    obtain ⟨j, L', hj, rfl, hlen, hsm, hrow, hsg, hx, hst, hz⟩ := hrel
    obtain ⟨⟨d0, d1, d2⟩, g0, g1, g2⟩ := hx.out
    have lx := hx.out.lt
    by_cases hlt : j < m
    · have hji : (j : Int) < (m : Int) := by omega
      have hj0 : (0 : Int) ≤ (j : Int) := by omega
      have hni : (0 : Int) < (n : Int) := by omega
      have hrl := hsg.out.1.lt
      go_wp2_with fail
      refine (pick_sg wr _ _ r _ (Sg.start hsg.out.1) (by omega) (by omega) (by omega)).mono ?_
      rintro e w3 ⟨t3, rfl, t30, t31, sg3⟩
      have z3 := sg3.2.size
      have SG3 := Lib.hid (hsg.out.trans sg3)
      have X3 := Lib.hid (hx.out.sg sg3 (by omega))
      have S3 := Lib.hid (strsOnly hst.out sg3.only (fun b' o' e h0 hbad => HAR.out b' o' e hbad))
      have R3 := Lib.hid (hrow.out.sg sg3 (by omega))
      clear sg3 d0 d1 d2 g0 g1 g2
      obtain ⟨⟨d0, d1, d2⟩, g0, g1, g2⟩ := X3.out
      have lx3 := X3.out.lt
      by_cases ht : 0 < t3
      · have ha9 := HA9.out
        subst ha9
        obtain ⟨g, rfl⟩ : ∃ g, a2 = some ⟨g, 0, none⟩ := by
          rcases R3.out.cases with ⟨e, e'⟩ | ⟨g, c', e, _, _⟩
          · have := hlen.out; rw [e'] at this; simp at this; omega
          · injection e with e1 e2 e3; exact ⟨g, e1⟩
        have hgb := (R3.out.lt g rfl)
        have hR3' : Row w3 w1.heap.size (.slice (some ⟨g, 0, none⟩) L'.length c2) L' := by rw [hlen.out]; exact R3.out
        have hjl : j < L'.length := by rw [hlen.out]; exact hlt
        obtain ⟨x1, P1⟩ : ∃ x, w3.cell? ⟨g, j * 2 + 1, none⟩ = some x := ⟨_, (hR3'.cells j hjl).2.1⟩
        have P3 := (hR3'.cells j hjl).2.2.2
        have hgw : g ≠ w.heap.size := by omega
        have hgw2 : w.heap.size ≠ g := by omega
        clear hR3'
        go_wp2
        go_region_with (go_at_call 21; refine (pick_sg _ _ _ r _ (Sg.start (Rd.below SG3.out.1 (by go_grown))) (by omega) (by omega) (by omega)).mono ?_; rintro e w4 ⟨q, rfl, q0, q1, sg4⟩; have o4 : Only w3 w4 (fun k => k = r) := (by first | exact sg4.only | exact (Only.new (by go_grown)).trans sg4.only (fun _ _ h => h)); have R4 := Lib.hid (R3.out.only o4 (fun k hk => by have := (R3.out.lt k hk).1; omega)); have X4 := Lib.hid (X3.out.only o4 (by omega)); have S4 := Lib.hid (strsOnly S3.out o4 (fun b' o' e h0 hbad => HAR.out b' o' e hbad)); have SG4 := Lib.hid (Sg.of_only sg4.1 (SG3.out.only.trans o4 (fun _ _ e => e))); have z4 := o4.size; clear o4 sg4; obtain ⟨⟨dd0, dd1, dd2⟩, gg0, gg1, gg2⟩ := X4.out; obtain ⟨q, rfl⟩ := Int.eq_ofNat_of_zero_le q0; have hq : q < n := (by omega); obtain ⟨b8, o8, e8, c8⟩ := S4.out q hq; cases e8; have hs8 := H7.out q hq; obtain ⟨sy, hsy⟩ : ∃ s, S q = s := ⟨_, rfl⟩; rw [hsy] at c8 hs8; clear hsy; have hR4' : Row w4 w1.heap.size (.slice (some ⟨g, 0, none⟩) L'.length c2) L' := (by rw [hlen.out]; exact R4.out); obtain ⟨y1, Q1⟩ : ∃ x, w4.cell? ⟨g, j * 2 + 1, none⟩ = some x := ⟨_, (hR4'.cells j hjl).2.1⟩; have Q3 := (hR4'.cells j hjl).2.2.2; have RW := Lib.hid (Row.code hR4' j hjl sy); clear hR4')
        all_goals
          have hl4 : (L'.set j (L'[j].1, sy)).length = m := by rw [List.length_set]; exact hlen.out
          have HL4 := Lib.hid hl4
          have SM : Hid (Small 7 (L'.set j (L'[j].1, sy))) := hsm.out.set j _ (Nat.le_refl _) ⟨(hsm.out.at j hjl).1, hs8⟩
          have R6 : Hid (Row (w4.setCell ⟨g, j * 2 + 1, none⟩ (.string sy)) w1.heap.size (.slice (some ⟨g, 0, none⟩) m c2) (L'.set j (L'[j].1, sy))) := by have := RW.out.1; rw [hlen.out] at this; exact this
          have sW := Only.of_grown RW.out.2
          have X6 := Lib.hid (X4.out.only sW (fun e => by injection e with e; omega))
          have S6 := Lib.hid (strsOnly S4.out sW (fun b' o' e h0 hbad => by injection hbad with e2; have := hal.out b' o' e h0; omega))
          have SG6 : Hid (Sg w (w4.setCell ⟨g, j * 2 + 1, none⟩ (.string sy)) r (N + 201 + 2 * j + 1 + 1)) := Sg.of_only (SG4.out.1.only sW (fun k hk e => by injection e with e; omega)) (SG4.out.only.trans sW (fun k hk e => by injection e with e; omega))
          clear hl4 sW RW
          generalize L'.set j (L'[j].1, sy) = L2 at HL4 SM R6
          go_wp2
          go_roundw
          case rel => exact ⟨j + 1, L2, by omega, by go_num, HL4, SM, R6, SG6.out.mono (by omega) (by omega), X6, S6, by simp; omega⟩
          case measure => simp [intOf]; omega
      · go_wp2
        go_roundw
        case rel => exact ⟨j + 1, L', by omega, by go_num, hlen, hsm, R3, SG3.out.mono (by omega) (by omega), X3, S3, by omega⟩
        case measure => simp [intOf]; omega
    · obtain rfl : j = m := by omega
      go_wp2
      go_ret
      exact ⟨_, L', rfl, hrow.out.lower (by omega), by rw [hlen.out]; omega, hsm.out, hsg.out.mono (by omega) (by omega)⟩
end Go.Proofs.Ytekfjheaffkakaa

/-
  Letters that are compared one by one; where the letters with a prefix stand.
-/
namespace Go.Proofs.Ytekfjheaffkakaa
open Go.RowKit

set_option maxHeartbeats 1000000 in
theorem soBatch_same (w : World) (a a' : Option Addr) (n c c' : Nat) (I : Nat → Int) (C : Nat → ByteArray) (h : Lts w a n I C) (h' : Lts w a' n I C) (hn : n ≤ 1048576) :
    Calls Try.prog 7 #[.slice a n c, .slice a' n c'] w fun e w' => e = .returned (.bool true) ∧ Below w.heap.size w w' := by
  have HL := Lib.hid h
  have HL' := Lib.hid h'
  clear h h'
  go_enter Try.func7, Try.ntmps7
  go_wp2
  go_loopw [5] (fun i wr => ∃ k : Nat, k ≤ n ∧ i = .int .i64 k ∧ Below w.heap.size w wr) (fun i _ => n - (intOf i).toNat)
  case atStart => exact ⟨0, Nat.zero_le _, rfl, Below.refl _ _⟩
  case round =>
    obtain ⟨k, hk, rfl, hb⟩ := hrel
    have hz := hb.size
    by_cases hlt : k < n
    · obtain ⟨b, o, rfl, c0, c1⟩ := (HL.out.on hb) k hlt
      obtain ⟨b', o', rfl, c0', c1'⟩ := (HL'.out.on hb) k hlt
      go_wp2
      go_region
      all_goals
        go_wp2
        exact ⟨⟨k + 1, by omega, by go_num, by go_grown⟩, by simp [intOf]; omega⟩
    · obtain rfl : k = n := by omega
      go_wp2
      go_ret
      exact ⟨rfl, hb⟩
theorem soBatch_row (w : World) (b1 b2 : Nat) (v v' : Value) (L : List (Int × ByteArray)) (h : Row w b1 v L) (h' : Row w b2 v' L) (hn : L.length ≤ 1048576) :
    Calls Try.prog 7 #[v, v'] w fun e w' => e = .returned (.bool true) ∧ Below w.heap.size w w' := by
  obtain ⟨a, c, rfl, _, hL⟩ := h.form
  obtain ⟨a', c', rfl, _, hL'⟩ := h'.form
  exact soBatch_same w a a' L.length c c' _ _ hL hL' hn
theorem lst_cut (I : Nat → Int) (C : Nat → ByteArray) (j : Nat) : ∀ n, j < n → ∃ R, M.lst I C n = M.lst I C j ++ (I j, C j) :: R
  | 0, h => absurd h (by omega)
  | n + 1, h => by
    by_cases e : j = n
    · subst e; exact ⟨[], M.lst_succ I C j⟩
    · obtain ⟨R, hR⟩ := lst_cut I C j n (by omega)
      exact ⟨R ++ [(I n, C n)], by rw [M.lst_succ, hR, List.append_assoc, List.cons_append]⟩
theorem withP_at {p : ByteArray} {I : Nat → Int} {C : Nat → ByteArray} {j n : Nat} (hj : j < n) (h : M.begins (C j) p = true) :
    (M.withP p (M.lst I C j)).length < (M.withP p (M.lst I C n)).length ∧ nI (M.withP p (M.lst I C n)) (M.withP p (M.lst I C j)).length = I j ∧ nC (M.withP p (M.lst I C n)) (M.withP p (M.lst I C j)).length = C j := by
  obtain ⟨R, hR⟩ := lst_cut I C j n hj
  have e : M.withP p (M.lst I C n) = M.withP p (M.lst I C j) ++ (I j, C j) :: M.withP p R := by
    rw [hR]; unfold M.withP; rw [List.filter_append, List.filter_cons, h]; rfl
  rw [e]
  refine ⟨by simp, ?_, ?_⟩
  · rw [nI_at (by simp)]; simp
  · rw [nC_at (by simp)]; simp
theorem sansP_at {p : ByteArray} {I : Nat → Int} {C : Nat → ByteArray} {j n : Nat} (hj : j < n) (h : M.begins (C j) p = false) :
    (M.sansP p (M.lst I C j)).length < (M.sansP p (M.lst I C n)).length ∧ nI (M.sansP p (M.lst I C n)) (M.sansP p (M.lst I C j)).length = I j ∧ nC (M.sansP p (M.lst I C n)) (M.sansP p (M.lst I C j)).length = C j := by
  obtain ⟨R, hR⟩ := lst_cut I C j n hj
  have e : M.sansP p (M.lst I C n) = M.sansP p (M.lst I C j) ++ (I j, C j) :: M.sansP p R := by
    rw [hR]; unfold M.sansP; rw [List.filter_append, List.filter_cons, h]; rfl
  rw [e]
  refine ⟨by simp, ?_, ?_⟩
  · rw [nI_at (by simp)]; simp
  · rw [nC_at (by simp)]; simp
end Go.Proofs.Ytekfjheaffkakaa

/-
  Letters turned round: what the laws' soTurned returns; and the label of letters that are turned.
-/
namespace Go.Proofs.Ytekfjheaffkakaa
open Go.RowKit
set_option linter.unusedVariables false

theorem drop_rev {T : Type} (L : List T) (j : Nat) (h : j < L.length) : (L.drop j).reverse = (L.drop (j + 1)).reverse ++ [L[j]] := by
  rw [List.drop_eq_getElem_cons h, List.reverse_cons]
theorem row_empty (w : World) : Row (w.alloc (.cells #[] 33)) w.heap.size (.slice (some ⟨w.heap.size, 0, none⟩) 0 0) [] := by
  unfold Row
  exact ⟨rfl, Or.inr ⟨w.heap.size, 0, #[], rfl, Nat.le_refl _, (show (w.heap.push (.cells #[] 33))[w.heap.size]? = some (.cells #[] 33) by simp), Nat.le_refl _, by unfold maxLen; omega, by simp, by simp [lcells]⟩⟩
/-- The label of letters that are turned. -/
theorem label_turned {n : Nat} {I : Nat → Int} {C : Nat → ByteArray} (h : M.batch n I C = true) (h0 : 0 < n) : label (M.lst I C n).reverse.length (nI (M.lst I C n).reverse) (nC (M.lst I C n).reverse) = C (n - 1) ++ ⟨#[45]⟩ ++ C 0 := by
  have hb := (batchL_list _).2 (((batchL_iff n I C).1 h).perm (List.reverse_perm _).symm)
  have hl : (M.lst I C n).reverse.length = n := by rw [List.length_reverse, lst_len]
  rw [label_yes hb (by omega)]
  have e : ∀ i (hi : i < n), nC (M.lst I C n).reverse i = C (n - 1 - i) := fun i hi => by
    rw [nC_at (by omega), List.getElem_reverse, lst_get, lst_len]
  rw [e 0 h0, hl, e (n - 1) (by omega)]
  rw [Nat.sub_zero, Nat.sub_self]
theorem fits_turned {n : Nat} {I : Nat → Int} {C : Nat → ByteArray} (h : Fits n I C) : Fits (M.lst I C n).reverse.length (nI (M.lst I C n).reverse) (nC (M.lst I C n).reverse) := fun i hi => by
  have hl : (M.lst I C n).reverse.length = n := by rw [List.length_reverse, lst_len]
  rw [nI_at hi, nC_at hi, List.getElem_reverse, lst_get]
  rw [hl] at hi
  exact h _ (by rw [lst_len]; omega)
/-- Letters that the call has made. -/
def LetsOut (w : World) (L : List (Int × ByteArray)) (e : Ending) (w' : World) : Prop := ∃ v, e = .returned v ∧ Row w' w.heap.size v L ∧ Below w.heap.size w w'
end Go.Proofs.Ytekfjheaffkakaa
