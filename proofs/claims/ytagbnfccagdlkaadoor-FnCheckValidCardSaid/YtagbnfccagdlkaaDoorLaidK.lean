/-
  What the condition on the listed package-level variables gives a walk: the cells of checkDigits (a place that holds FnCheckValid alone). And a world that meets it.
-/
import Derived.Test.YtagbnfccagdlkaaDoorRows
import Derived.Test.YtagbnfccagdlkaaDoorTab
namespace Go.Proofs.YtagbnfccagdlkaaDoor.Laid
open Go.RowKit

theorem of_checks {w : World} (h : laidMetH Tryd.prog Rows.fnCheckValidRow.laid w) : checks w := by
  rw [MakeChecks.laidMetH_plain _ _ _ (by kernel_rfl)] at h
  exact ints_of_head (t := 40) (e := 3) (by kernel_rfl) (by kernel_rfl) Tryd.underlying40 Tryd.underlying3 (by kernel_rfl) (by kernel_rfl) h
theorem named_checks : ∀ n ∈ Rows.fnCheckValidSpec.vars, ∀ g t, Tryd.prog.globalNamed n = some g → (Tryd.prog.globals[g]?).map (·.type) = some t → Tryd.prog.readableRec t = true ∧ t < Tryd.prog.types.size := by
  intro n hn g t h1 h2
  obtain rfl := List.mem_singleton.1 hn
  exact readable_of (g' := 0) (t' := 40) (by kernel_rfl) (by kernel_rfl) g t (by kernel_rfl) (of_decide_eq_true (by kernel_rfl)) h1 h2
theorem door_checks (os : Os) (args : Array Value) : laidMetH Tryd.prog Rows.fnCheckValidRow.laid ((World.doorLaid Tryd.prog 400 os).forCall (fun _ _ => 0) ⟨#[], args, []⟩).memory :=
  laidMetH_of_parts3 (fuel := 8) (laidMet_of_run' 8 (by kernel_rfl) (by kernel_rfl)) (by kernel_rfl) (by kernel_rfl)
end Go.Proofs.YtagbnfccagdlkaaDoor.Laid
