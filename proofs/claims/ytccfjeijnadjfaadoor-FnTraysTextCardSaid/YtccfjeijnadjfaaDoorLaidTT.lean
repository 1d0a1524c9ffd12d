/-
  What the condition on the listed package-level variables gives a walk that writes numbers (FormatTrays): the table of powers of ten. And a world that meets it.
-/
import Derived.Test.YtccfjeijnadjfaaDoorRows
import Derived.Test.YtccfjeijnadjfaaDoorMgT9
import Derived.LaidMore
import Derived.LaidHandle
import Derived.MakeChecks
import Derived.Lay
import Derived.Stop.LaidErr
import Derived.ProofKit
import Derived.Below
import Derived.Shelf.Vars
namespace Go.Proofs.YtccfjeijnadjfaaDoor.Laid
open Go.RowKit

def pows (w : World) : Prop := PowT w
theorem of_pows {w : World} (h : laidMetH Tryd.prog Rows.fnTraysTextRow.laid w) (_ : w.ShapedOpen Tryd.prog) : pows w := by
  rw [MakeChecks.laidMetH_plain _ _ _ (by kernel_rfl)] at h
  exact Lib.tabIs_of_head (g := 0) (t := 78) (e := 70) (by kernel_rfl) (by kernel_rfl) Tryd.underlying78 Tryd.underlying70 (by kernel_rfl) (by kernel_rfl) (show laidMet _ [("internal/strconv.uint64pow10", Lib.tabData .u64 Lib.pow10Tab)] w from laidMet.tail (laidMet.tail h))
theorem door_pows (os : Os) (args : Array Value) : laidMetH Tryd.prog Rows.fnTraysTextRow.laid ((World.laidAll Tryd.prog os Rows.fnTraysTextRow.laid).forCall (fun _ _ => 0) ⟨#[], args, []⟩).memory := by
  rw [MakeChecks.laidMetH_plain _ _ _ (by kernel_rfl)]
  exact laidMet_laidAll _ (by kernel_rfl) (by kernel_rfl)
end Go.Proofs.YtccfjeijnadjfaaDoor.Laid
