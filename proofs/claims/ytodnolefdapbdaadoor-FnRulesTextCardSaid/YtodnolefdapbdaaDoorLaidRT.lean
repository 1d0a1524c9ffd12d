/-
  What the condition on the listed package-level variables gives a walk that cuts strings (the text of rules): a number in the library's variable. And a world that meets it.
-/
import Derived.Test.YtodnolefdapbdaaDoorRows
import Derived.Test.YtodnolefdapbdaaDoorCut
import Derived.LaidMore
import Derived.LaidHandle
import Derived.MakeChecks
import Derived.Lay
import Derived.Stop.LaidErr
import Derived.ProofKit
import Derived.Below
import Derived.Shelf.Vars
namespace Go.Proofs.YtodnolefdapbdaaDoor.Laid
open Go.RowKit

def cuts (w : World) : Prop := MaxL w
theorem of_cuts {w : World} (_ : laidMetH Tryd.prog Rows.fnRulesTextRow.laid w) (hs : w.ShapedOpen Tryd.prog) : cuts w :=
  Go.Proofs.cell_of_shapedOpen_int (P := Tryd.prog) (g := 0) (t := 3) (zero := #[.int .i64 0]) hs (of_decide_eq_true (by kernel_rfl)) (by kernel_rfl) rfl (by kernel_rfl) (by kernel_rfl) Tryd.underlying3
theorem door_cuts (os : Os) (args : Array Value) : laidMetH Tryd.prog Rows.fnRulesTextRow.laid ((World.laidAll Tryd.prog os Rows.fnRulesTextRow.laid).forCall (fun _ _ => 0) ⟨#[], args, []⟩).memory := by
  rw [MakeChecks.laidMetH_plain _ _ _ (by kernel_rfl)]
  exact laidMet_laidAll _ (by kernel_rfl) (by kernel_rfl)
end Go.Proofs.YtodnolefdapbdaaDoor.Laid
