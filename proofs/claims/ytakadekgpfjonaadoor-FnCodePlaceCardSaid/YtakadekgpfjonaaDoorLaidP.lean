/-
  What the condition on the listed package-level variables gives a walk that writes numbers: the table of powers of ten. And a world that meets it.
-/
import Derived.Test.YtakadekgpfjonaaDoorRows
import Derived.Test.YtakadekgpfjonaaDoorParse
import Derived.Lib.LaidTab
import Derived.LaidMore
import Derived.LaidHandle
import Derived.MakeChecks
import Derived.Lay
import Derived.Stop.LaidErr
import Derived.ProofKit
import Derived.Below
import Derived.Shelf.Vars
namespace Go.Proofs.YtakadekgpfjonaaDoor.Laid
open Go.RowKit

theorem pow_of {w : World} {a b : String × DataW Unit} {r : List (String × DataW Unit)} (h : laidMet Tryd.prog (a :: b :: ("internal/strconv.uint64pow10", Rows.laid_internal_strconv_uint64pow10) :: r) w) : Pow w :=
  Lib.tabIs_of_head (g := 3) (t := 99) (e := 81) (by kernel_rfl) (by kernel_rfl) Tryd.underlying99 Tryd.underlying81 (by kernel_rfl) (by kernel_rfl) (show laidMet _ (("internal/strconv.uint64pow10", Lib.tabData .u64 Lib.pow10Tab) :: r) w from laidMet.tail (laidMet.tail h))
theorem of_code {w : World} (h : laidMetH Tryd.prog Rows.fnExactCodeOfRow.laid w) (_ : w.ShapedOpen Tryd.prog) : Pow w := by
  rw [MakeChecks.laidMetH_plain _ _ _ (by kernel_rfl)] at h
  exact pow_of h
/-- The table, and a number in the library's variable. -/
def parse (w : World) : Prop := Pow w ∧ Max w
theorem of_parse {w : World} (h : laidMetH Tryd.prog Rows.fnExactParsePlaceRow.laid w) (hs : w.ShapedOpen Tryd.prog) : parse w := by
  rw [MakeChecks.laidMetH_plain _ _ _ (by kernel_rfl)] at h
  exact ⟨pow_of h, Go.Proofs.cell_of_shapedOpen_int (P := Tryd.prog) (g := 0) (t := 3) (zero := #[.int .i64 0]) hs (of_decide_eq_true (by kernel_rfl)) (by kernel_rfl) rfl (by kernel_rfl) (by kernel_rfl) Tryd.underlying3⟩
def code (w : World) : Prop := Pow w
theorem door_code (os : Os) (args : Array Value) : laidMetH Tryd.prog Rows.fnExactCodeOfRow.laid ((World.laidAll Tryd.prog os Rows.fnExactCodeOfRow.laid).forCall (fun _ _ => 0) ⟨#[], args, []⟩).memory := by
  rw [MakeChecks.laidMetH_plain _ _ _ (by kernel_rfl)]
  exact laidMet_laidAll _ (by kernel_rfl) (by kernel_rfl)
theorem door_parse (os : Os) (args : Array Value) : laidMetH Tryd.prog Rows.fnExactParsePlaceRow.laid ((World.laidAll Tryd.prog os Rows.fnExactParsePlaceRow.laid).forCall (fun _ _ => 0) ⟨#[], args, []⟩).memory := by
  rw [MakeChecks.laidMetH_plain _ _ _ (by kernel_rfl)]
  exact laidMet_laidAll _ (by kernel_rfl) (by kernel_rfl)
end Go.Proofs.YtakadekgpfjonaaDoor.Laid
