/-
  Drawn plans with letters: DrawRunPlan, DrawTreatCount, DrawInOrder.
-/
import Derived.Test.YtbcoklognedffaaMailW
import Derived.Test.YtbcoklognedffaaRun
import Derived.Test.YtbcoklognedffaaRadA
namespace Go.Proofs.Ytbcoklognedffaa
open Go.RowKit
set_option linter.unusedVariables false

/-- A drawn plan and letters that a call hands on through its result's block. -/
theorem PLd.handed {w w1 : World} {b p : Int} {a : Option Addr} {n : Nat} {S : Nat → ByteArray} {a2 : Option Addr} {m : Nat} {I : Nat → Int} {C : Nat → ByteArray} {W : World} (h : PLd W w1 b p a n S a2 m I C) (hW : w.heap.size < W.heap.size) {w2 : World} (hb : Below w1.heap.size w1 w2) (u0 u1 u2 : Value) : PLd w (((w2.setCell ⟨w.heap.size, 0, none⟩ u0).setCell ⟨w.heap.size, 1, none⟩ u1).setCell ⟨w.heap.size, 2, none⟩ u2) b p a n S a2 m I C :=
  ((h.on hb).only (((Only.set w2 ⟨w.heap.size, 0, none⟩ u0 (S := fun k => k = w.heap.size) rfl).trans (Only.set _ ⟨w.heap.size, 1, none⟩ u1 (S := fun k => k = w.heap.size) rfl) (fun _ _ h => h)).trans (Only.set _ ⟨w.heap.size, 2, none⟩ u2 (S := fun k => k = w.heap.size) rfl) (fun _ _ h => h)) (fun k hk e => by omega)).old (by omega)
theorem below_three {w w2 : World} (h : Below w.heap.size w w2) (u0 u1 u2 : Value) : Below w.heap.size w (((w2.setCell ⟨w.heap.size, 0, none⟩ u0).setCell ⟨w.heap.size, 1, none⟩ u1).setCell ⟨w.heap.size, 2, none⟩ u2) := ((h.setCell (Nat.le_refl _) _).setCell (Nat.le_refl _) _).setCell (Nat.le_refl _) _

set_option maxHeartbeats 2000000 in
theorem DrawRunPlan_any (a : Option Addr) (l k : Nat) (z : List Int) (w : World) (h : IsRow .u8 w a l k z) :
    Calls Try.prog 20 #[.slice a l k] w (PlanLets w) := by
  have h' := Lib.hid (h.below (below_alloc0 w (.cells #[.int .i64 0, .int .i64 0, .slice none 0 0] 25)))
  have BY0 := Lib.hid (tri_made w (.int .i64 0) (.int .i64 0) (.slice none 0 0) 25)
  clear h
  go_enter Try.func20, Try.ntmps20
  go_wp2_with fail
  refine (DrawPlanPass_any _ _ _ _ _ h'.out).mono ?_
  rintro e w1 ⟨b, p, a2, n, c, S, a3, m, c3, I, C, x, rfl, hpl, hx, bl, hcp⟩
  have HCP := Lib.hid hcp
  clear hcp
  have HP := Lib.hid hpl
  have ba := below_alloc0 w1 (.cells #[.int .i64 b, .int .i64 p, .slice a2 n c] 25)
  have Y1 := (BY0.out.on bl).on ba
  have B1 := Lib.hid (sstep (sstep (below_alloc0 w _) bl) ba)
  have BA := Lib.hid ba
  have zz := bl.size
  simp at zz
  have hne1 : w1.heap.size ≠ w.heap.size := by omega
  have hne2 : w.heap.size ≠ w1.heap.size := by omega
  have ly := Y1.lt
  obtain ⟨⟨e0, e1, e2⟩, f0, f1, f2⟩ := Y1
  clear hpl bl ba
  go_wp2
  refine bodyPost_ret (v := .tuple #[.agg #[.int .i64 b, .int .i64 p, .slice a2 n c], .slice a3 m c3]) (by simp [results, Try.results20, go_sem, e0, e1, e2]) rfl ?_
  exact ⟨b, p, a2, n, c, S, a3, m, c3, I, C, rfl, HP.out.handed (by simp) BA.out _ _ _, below_three B1.out _ _ _, HCP.out⟩
set_option maxHeartbeats 1000000 in
theorem DrawTreatCount_any (a : Option Addr) (l k : Nat) (z : List Int) (w : World) (h : IsRow .u8 w a l k z) :
    Calls Try.prog 28 #[.slice a l k] w (PlanLets w) := by
  have h' := Lib.hid (h.below (below_alloc0 w (.cells #[.int .i64 0, .int .i64 0, .slice none 0 0] 25)))
  have BY0 := Lib.hid (tri_made w (.int .i64 0) (.int .i64 0) (.slice none 0 0) 25)
  clear h
  go_enter Try.func28, Try.ntmps28
  go_wp2_with fail
  refine (DrawRunPlan_any _ _ _ _ _ h'.out).mono ?_
  rintro e w1 ⟨b, p, a2, n, c, S, a3, m, c3, I, C, rfl, hpl, bl, hcp⟩
  have HCP := Lib.hid hcp
  clear hcp
  have HP := Lib.hid hpl
  have Y1 := BY0.out.on bl
  have B1 := Lib.hid (sstep (below_alloc0 w _) bl)
  have ly := Y1.lt
  obtain ⟨⟨e0, e1, e2⟩, f0, f1, f2⟩ := Y1
  clear hpl bl
  go_wp2
  refine bodyPost_ret (v := .tuple #[.agg #[.int .i64 b, .int .i64 p, .slice a2 n c], .slice a3 m c3]) (by simp [results, Try.results28, go_sem, e0, e1, e2]) rfl ?_
  exact ⟨b, p, a2, n, c, S, a3, m, c3, I, C, rfl, HP.out.handed (by simp) (Below.refl _ _) _ _ _, below_three B1.out _ _ _, HCP.out⟩

theorem runList_batch {b p : Int} {n : Nat} {S : Nat → ByteArray} {m : Nat} {I : Nat → Int} {C : Nat → ByteArray} (h : runOk b p n S m I C = true) : BatchL (runList b p n S m I C) := by
  rw [runList_srt h]
  exact (((batchL_iff m I C).1 (runOk_yes h).2).perm (srt_perm n S m I C).symm).left
set_option maxHeartbeats 4000000 in
set_option maxRecDepth 100000 in
theorem DrawInOrder_any (a : Option Addr) (l k : Nat) (z : List Int) (w : World) (h : IsRow .u8 w a l k z) :
    Calls Try.prog 26 #[.slice a l k] w (PlanLets w) := by
  have h0 := h.below (below_alloc0 w (.cells #[.int .i64 0, .int .i64 0, .slice none 0 0] 25))
  have h' := Lib.hid h0
  have BY0 := Lib.hid (tri_made w (.int .i64 0) (.int .i64 0) (.slice none 0 0) 25)
  clear h h0
  go_enter Try.func26, Try.ntmps26
  go_wp2_with fail
  refine (open_any _ _ _ _ _ h'.out).mono ?_
  rintro e w1 ⟨r, rfl, rd1, bl1, hr1⟩
  have h1 := Lib.hid (h'.out.below bl1)
  have BY1 := Lib.hid (BY0.out.on bl1)
  have B1 : Hid (Below w.heap.size w w1) := sstep (below_alloc0 w _) bl1
  have hrw : w.heap.size < r := by simp at hr1; omega
  have RD1 := Lib.hid rd1
  have hrl := rd1.lt
  clear BY0 h' rd1 bl1 hr1
  go_wp2_with fail
  refine (DrawRunPlan_any _ _ _ _ _ h1.out).mono ?_
  rintro e w2 ⟨b, p, a2, n, c, S, a3, m, c3, I, C, rfl, hpl, bl2, hcp⟩
  have HCP := Lib.hid hcp
  clear hcp
  have ba := below_alloc0 w2 (.cells #[.int .i64 b, .int .i64 p, .slice a2 n c] 25)
  have X3 := Lib.hid (tri_made w2 (.int .i64 b) (.int .i64 p) (.slice a2 n c) 25)
  have Y3 := Lib.hid ((BY1.out.on bl2).on ba)
  have RD3 := Lib.hid ((RD1.out.below bl2).below ba)
  have P3 := Lib.hid (hpl.on ba)
  have B3 := Lib.hid (sstep (sstep B1.out bl2) ba)
  have z2 := bl2.size
  obtain ⟨W3, hW3⟩ : ∃ W3, w2.alloc (.cells #[.int .i64 b, .int .i64 p, .slice a2 n c] 25) = W3 := ⟨_, rfl⟩
  have zW : W3.heap.size = w2.heap.size + 1 := by rw [← hW3]; simp
  rw [hW3] at X3 Y3 RD3 P3 B3
  have HW3 := Lib.hid hW3
  clear hW3 hpl bl2 ba BY1 B1 RD1 h1
  have hne1 : w2.heap.size ≠ w.heap.size := by omega
  have hne2 : w.heap.size ≠ w2.heap.size := by omega
  obtain ⟨⟨d0, d1, d2⟩, g0, g1, g2⟩ := X3.out
  go_wp2_with fail
  rw [HW3.out]
  refine (spec_RunPlan W3 b p a2 n c S P3.out.ps P3.out.pf (by have := P3.out.pn; omega) a3 m c3 I C P3.out.ls P3.out.lf (by have := P3.out.ln; omega)).mono ?_
  rintro e w4 ⟨v4, v5, rfl, r4, _, _, k4⟩
  obtain ⟨a4, c4, rfl, hcl, _⟩ := r4.form
  have HCL := Lib.hid hcl
  clear hcl
  have R4 := Lib.hid r4
  have X4 := Lib.hid (X3.out.on k4)
  have Y4 := Lib.hid (Y3.out.on k4)
  have RD4 := Lib.hid (RD3.out.below k4)
  have P4 := Lib.hid (P3.out.on k4)
  have B4 := Lib.hid (sstep B3.out k4)
  have z4 := k4.size
  clear k4 r4 X3 Y3 RD3 P3 B3 d0 d1 d2 g0 g1 g2
  cases hok : runOk b p n S m I C
  · obtain ⟨⟨d0, d1, d2⟩, g0, g1, g2⟩ := X4.out
    obtain ⟨⟨e0, e1, e2⟩, f0, f1, f2⟩ := Y4.out
    have lx := X4.out.lt
    have ly := Y4.out.lt
    clear hok
    go_wp2
    refine bodyPost_ret (v := .tuple #[.agg #[.int .i64 b, .int .i64 p, .slice a2 n c], .slice a3 m c3]) (by simp [results, Try.results26, go_sem, e0, e1, e2]) rfl ?_
    exact ⟨b, p, a2, n, c, S, a3, m, c3, I, C, rfl, P4.out.handed (by omega) (Below.refl _ _) _ _ _, below_three B4.out _ _ _, HCP.out⟩
  · have HBL := Lib.hid (runList_batch hok)
    obtain ⟨LL, hLL⟩ : ∃ LL, runList b p n S m I C = LL := ⟨_, rfl⟩
    rw [hLL] at R4 HBL HCL
    rw [hLL]
    clear hok hLL
    obtain ⟨⟨d0, d1, d2⟩, g0, g1, g2⟩ := X4.out
    go_wp2_with fail
    refine (pick_sg _ _ _ r _ (Sg.start RD4.out) (by omega) (by omega) (by omega)).mono ?_
    rintro e w5 ⟨t, rfl, t0, t1, sg5⟩
    have o5 := sg5.only
    have X5 := Lib.hid (X4.out.only o5 (by omega))
    have Y5 := Lib.hid (Y4.out.only o5 (by omega))
    have P5 := Lib.hid (P4.out.only o5 (fun k hk e => by omega))
    have R5 := Lib.hid (R4.out.only o5 (fun k hk e => by have := (R4.out.lt k hk).1; omega))
    have B5 := Lib.hid (B4.out.trans (o5.below (B := w.heap.size) (fun k hk hk2 => by omega) (by omega)))
    clear sg5 o5 X4 Y4 P4 R4 B4 d0 d1 d2 g0 g1 g2
    obtain ⟨⟨d0, d1, d2⟩, g0, g1, g2⟩ := X5.out
    obtain ⟨⟨e0, e1, e2⟩, f0, f1, f2⟩ := Y5.out
    have lx := X5.out.lt
    have ly := Y5.out.lt
    cases ct : (t == 0)
    · go_wp2
      refine bodyPost_ret (v := .tuple #[.agg #[.int .i64 b, .int .i64 p, .slice a2 n c], .slice a3 m c3]) (by simp [results, Try.results26, go_sem, e0, e1, e2]) rfl ?_
      exact ⟨b, p, a2, n, c, S, a3, m, c3, I, C, rfl, P5.out.handed (by omega) (Below.refl _ _) _ _ _, below_three B5.out _ _ _, HCP.out⟩
    · have P6 : Hid (PLd w1 w5 b p a2 n S a4 LL.length (nI LL) (nC LL)) := by
        obtain ⟨a9, c9, e9, _, l9⟩ := R5.out.form
        injection e9 with q1 q2 q3
        subst q1
        exact ⟨P5.out.bd, P5.out.pd, P5.out.ps, P5.out.pf, P5.out.pn, l9, HBL.out.fits, by have := HBL.out.2.2; omega, P5.out.pnew, fun k o e _ => by have := (R5.out.lt k (by rw [e]; rfl)).1; omega⟩
      go_wp2
      refine bodyPost_ret (v := .tuple #[.agg #[.int .i64 b, .int .i64 p, .slice a2 n c], .slice a4 LL.length c4]) (by simp [results, Try.results26, go_sem, e0, e1, e2]) rfl ?_
      exact ⟨b, p, a2, n, c, S, a4, LL.length, c4, nI LL, nC LL, rfl, P6.out.handed (by omega) (Below.refl _ _) _ _ _, below_three B5.out _ _ _, HCL.out⟩
set_option maxHeartbeats 1000000 in
theorem DrawKeptLetters_any (a : Option Addr) (l k : Nat) (z : List Int) (w : World) (h : IsRow .u8 w a l k z) :
    Calls Try.prog 42 #[.slice a l k] w (PlanLets w) := by
  have h' := Lib.hid (h.below (below_alloc0 w (.cells #[.int .i64 0, .int .i64 0, .slice none 0 0] 25)))
  have BY0 := Lib.hid (tri_made w (.int .i64 0) (.int .i64 0) (.slice none 0 0) 25)
  clear h
  go_enter Try.func42, Try.ntmps42
  go_wp2_with fail
  refine (DrawInOrder_any _ _ _ _ _ h'.out).mono ?_
  rintro e w1 ⟨b, p, a2, n, c, S, a3, m, c3, I, C, rfl, hpl, bl, hcp⟩
  have HCP := Lib.hid hcp
  clear hcp
  have HP := Lib.hid hpl
  have Y1 := BY0.out.on bl
  have B1 := Lib.hid (sstep (below_alloc0 w _) bl)
  have ly := Y1.lt
  obtain ⟨⟨e0, e1, e2⟩, f0, f1, f2⟩ := Y1
  clear hpl bl
  go_wp2
  refine bodyPost_ret (v := .tuple #[.agg #[.int .i64 b, .int .i64 p, .slice a2 n c], .slice a3 m c3]) (by simp [results, Try.results42, go_sem, e0, e1, e2]) rfl ?_
  exact ⟨b, p, a2, n, c, S, a3, m, c3, I, C, rfl, HP.out.handed (by simp) (Below.refl _ _) _ _ _, below_three B1.out _ _ _, HCP.out⟩
set_option maxHeartbeats 1000000 in
theorem DrawMovedLetters_any (a : Option Addr) (l k : Nat) (z : List Int) (w : World) (h : IsRow .u8 w a l k z) :
    Calls Try.prog 47 #[.slice a l k] w (PlanLets w) := by
  have h' := Lib.hid (h.below (below_alloc0 w (.cells #[.int .i64 0, .int .i64 0, .slice none 0 0] 25)))
  have BY0 := Lib.hid (tri_made w (.int .i64 0) (.int .i64 0) (.slice none 0 0) 25)
  clear h
  go_enter Try.func47, Try.ntmps47
  go_wp2_with fail
  refine (DrawInOrder_any _ _ _ _ _ h'.out).mono ?_
  rintro e w1 ⟨b, p, a2, n, c, S, a3, m, c3, I, C, rfl, hpl, bl, hcp⟩
  have HCP := Lib.hid hcp
  clear hcp
  have HP := Lib.hid hpl
  have Y1 := BY0.out.on bl
  have B1 := Lib.hid (sstep (below_alloc0 w _) bl)
  have ly := Y1.lt
  obtain ⟨⟨e0, e1, e2⟩, f0, f1, f2⟩ := Y1
  clear hpl bl
  go_wp2
  refine bodyPost_ret (v := .tuple #[.agg #[.int .i64 b, .int .i64 p, .slice a2 n c], .slice a3 m c3]) (by simp [results, Try.results47, go_sem, e0, e1, e2]) rfl ?_
  exact ⟨b, p, a2, n, c, S, a3, m, c3, I, C, rfl, HP.out.handed (by simp) (Below.refl _ _) _ _ _, below_three B1.out _ _ _, HCP.out⟩
/-- The letters as a list. -/
theorem PLd.list {w w' : World} {b p : Int} {a : Option Addr} {n : Nat} {S : Nat → ByteArray} {a2 : Option Addr} {m : Nat} {I : Nat → Int} {C : Nat → ByteArray} (h : PLd w w' b p a n S a2 m I C) : ∃ L : List (Int × ByteArray), m = L.length ∧ PLd w w' b p a n S a2 L.length (nI L) (nC L) :=
  ⟨M.lst I C m, (M.lst_length I C m).symm, h.bd, h.pd, h.ps, h.pf, h.pn,
    fun i hi => by rw [M.lst_length] at hi; rw [(lst_at hi).1, (lst_at hi).2]; exact h.ls i hi,
    fun i hi => by rw [M.lst_length] at hi; rw [(lst_at hi).1, (lst_at hi).2]; exact h.lf i hi,
    by rw [M.lst_length]; exact h.ln, h.pnew, fun k o e h0 => by rw [M.lst_length] at h0; exact h.lnew k o e h0⟩
end Go.Proofs.Ytbcoklognedffaa
