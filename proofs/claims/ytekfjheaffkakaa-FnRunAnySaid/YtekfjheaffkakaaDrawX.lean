/-
  Drawn plans with letters: DrawRunPlan, DrawTreatCount, DrawInOrder.
-/
import Derived.Test.YtekfjheaffkakaaDrawW
import Derived.Test.YtekfjheaffkakaaRun
import Derived.Test.YtekfjheaffkakaaRadM
namespace Go.Proofs.Ytekfjheaffkakaa
open Go.RowKit
set_option linter.unusedVariables false

/-- A drawn plan and letters that a call hands on through its result's block. -/
theorem PLd.handed {w w1 : World} {b p : Int} {a : Option Addr} {n : Nat} {S : Nat → ByteArray} {a2 : Option Addr} {m : Nat} {I : Nat → Int} {C : Nat → ByteArray} {W : World} (h : PLd W w1 b p a n S a2 m I C) (hW : w.heap.size < W.heap.size) {w2 : World} (hb : Below w1.heap.size w1 w2) (u0 u1 u2 : Value) : PLd w (((w2.setCell ⟨w.heap.size, 0, none⟩ u0).setCell ⟨w.heap.size, 1, none⟩ u1).setCell ⟨w.heap.size, 2, none⟩ u2) b p a n S a2 m I C :=
  ((h.on hb).only (((Only.set w2 ⟨w.heap.size, 0, none⟩ u0 (S := fun k => k = w.heap.size) rfl).trans (Only.set _ ⟨w.heap.size, 1, none⟩ u1 (S := fun k => k = w.heap.size) rfl) (fun _ _ h => h)).trans (Only.set _ ⟨w.heap.size, 2, none⟩ u2 (S := fun k => k = w.heap.size) rfl) (fun _ _ h => h)) (fun k hk e => by omega)).old (by omega)
theorem below_three {w w2 : World} (h : Below w.heap.size w w2) (u0 u1 u2 : Value) : Below w.heap.size w (((w2.setCell ⟨w.heap.size, 0, none⟩ u0).setCell ⟨w.heap.size, 1, none⟩ u1).setCell ⟨w.heap.size, 2, none⟩ u2) := ((h.setCell (Nat.le_refl _) _).setCell (Nat.le_refl _) _).setCell (Nat.le_refl _) _

set_option maxHeartbeats 2000000 in
theorem DrawRunPlan_any (a : Option Addr) (l k : Nat) (z : List Int) (w : World) (h : IsRow .u8 w a l k z) :
    Calls Try.prog 4 #[.slice a l k] w (PlanLets w) := by
  have h' := Lib.hid (h.below (below_alloc0 w (.cells #[.int .i64 0, .int .i64 0, .slice none 0 0] 25)))
  have BY0 := Lib.hid (tri_made w (.int .i64 0) (.int .i64 0) (.slice none 0 0) 25)
  clear h
  go_enter Try.func4, Try.ntmps4
  go_wp2_with fail
  refine (DrawPlanPass_any _ _ _ _ _ h'.out).mono ?_
  rintro e w1 ⟨b, p, a2, n, c, S, a3, m, c3, I, C, x, rfl, hpl, hx, bl, hcp⟩
  have HCP := Lib.hid hcp
  clear hcp
  have HP := Lib.hid hpl
  have ba := below_alloc0 w1 (.cells #[.int .i64 b, .int .i64 p, .slice a2 n c] 25)
  have Y1 := (BY0.out.on bl).on ba
  have B1 := Lib.hid (sstep (sstep (below_alloc0 w _) bl) ba)
  have BA := Lib.hid ba
  have zz := bl.size
  simp at zz
  have hne1 : w1.heap.size ≠ w.heap.size := by omega
  have hne2 : w.heap.size ≠ w1.heap.size := by omega
  have ly := Y1.lt
  obtain ⟨⟨e0, e1, e2⟩, f0, f1, f2⟩ := Y1
  clear hpl bl ba
  go_wp2
  refine bodyPost_ret (v := .tuple #[.agg #[.int .i64 b, .int .i64 p, .slice a2 n c], .slice a3 m c3]) (by simp [results, Try.results4, go_sem, e0, e1, e2]) rfl ?_
  exact ⟨b, p, a2, n, c, S, a3, m, c3, I, C, rfl, HP.out.handed (by simp) BA.out _ _ _, below_three B1.out _ _ _, HCP.out⟩
theorem runList_batch {b p : Int} {n : Nat} {S : Nat → ByteArray} {m : Nat} {I : Nat → Int} {C : Nat → ByteArray} (h : runOk b p n S m I C = true) : BatchL (runList b p n S m I C) := by
  rw [runList_srt h]
  exact (((batchL_iff m I C).1 (runOk_yes h).2).perm (srt_perm n S m I C).symm).left
/-- The letters as a list. -/
theorem PLd.list {w w' : World} {b p : Int} {a : Option Addr} {n : Nat} {S : Nat → ByteArray} {a2 : Option Addr} {m : Nat} {I : Nat → Int} {C : Nat → ByteArray} (h : PLd w w' b p a n S a2 m I C) : ∃ L : List (Int × ByteArray), m = L.length ∧ PLd w w' b p a n S a2 L.length (nI L) (nC L) :=
  ⟨M.lst I C m, (M.lst_length I C m).symm, h.bd, h.pd, h.ps, h.pf, h.pn,
    fun i hi => by rw [M.lst_length] at hi; rw [(lst_at hi).1, (lst_at hi).2]; exact h.ls i hi,
    fun i hi => by rw [M.lst_length] at hi; rw [(lst_at hi).1, (lst_at hi).2]; exact h.lf i hi,
    by rw [M.lst_length]; exact h.ln, h.pnew, fun k o e h0 => by rw [M.lst_length] at h0; exact h.lnew k o e h0⟩
end Go.Proofs.Ytekfjheaffkakaa
