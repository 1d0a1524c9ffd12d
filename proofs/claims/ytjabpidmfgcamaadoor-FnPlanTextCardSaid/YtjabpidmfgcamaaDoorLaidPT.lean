/-
  What the condition on the listed package-level variables gives a walk that cuts strings and reads numbers (ParsePlan): the table of powers of ten, the longest search, the two errors of numbers. And a world that meets it.
-/
import Derived.Test.YtjabpidmfgcamaaDoorRows
import Derived.Test.YtjabpidmfgcamaaDoorPlnP
import Derived.LaidMore
import Derived.LaidHandle
import Derived.MakeChecks
import Derived.Lay
import Derived.LaidLaws
import Derived.Stop.LaidErr
import Derived.RowKitTokens
import Derived.ProofKit
import Derived.Below
import Derived.Shelf.Vars
namespace Go.Proofs.YtjabpidmfgcamaaDoor.Laid
open Go.RowKit

theorem star : "*" ++ "errors.errorString" = "*errors.errorString" := by decide
theorem err_row (u : TypeId) (h : Tryd.prog.typeName? 3 u = some "*errors.errorString") : u = 112 :=
  typeName_ptr_named (nm := "errors.errorString") (by rw [star]; kernel_rfl) (by kernel_rfl) (by decide) u (by rw [star]; exact h)
theorem range_named : Tryd.prog.globalNamed "strconv.ErrRange" = some 1 := by kernel_rfl
theorem range_typed : (Tryd.prog.globals[1]?).map (·.type) = some 41 := by kernel_rfl
theorem syntax_named : Tryd.prog.globalNamed "strconv.ErrSyntax" = some 0 := by kernel_rfl
theorem syntax_typed : (Tryd.prog.globals[0]?).map (·.type) = some 41 := by kernel_rfl
structure nums (w : World) : Prop where
  pow : PowT w
  max : MaxL w
  err : ErrT w
theorem of_nums {w : World} (h : laidMetH Tryd.prog Rows.fnPlanTextRow.laid w) (hs : w.ShapedOpen Tryd.prog) : nums w := by
  rw [MakeChecks.laidMetH_plain _ _ _ (by kernel_rfl)] at h
  have h2 := laidMet.tail (laidMet.tail h)
  have h4 := laidMet.tail (laidMet.tail h2)
  obtain ⟨a0, s0, hv0, _⟩ := laid_sentinel h4 range_named range_typed Tryd.underlying41 err_row Tryd.underlying112 Tryd.underlying114 rfl rfl Tryd.underlying9 (by kernel_rfl) (by kernel_rfl)
  obtain ⟨a1, s1, hv1, _⟩ := laid_sentinel (laidMet.tail h4) syntax_named syntax_typed Tryd.underlying41 err_row Tryd.underlying112 Tryd.underlying114 rfl rfl Tryd.underlying9 (by kernel_rfl) (by kernel_rfl)
  exact ⟨Lib.tabIs_of_head (g := 2) (t := 103) (e := 84) (by kernel_rfl) (by kernel_rfl) Tryd.underlying103 Tryd.underlying84 (by kernel_rfl) (by kernel_rfl) (show laidMet _ (("internal/strconv.uint64pow10", Lib.tabData .u64 Lib.pow10Tab) :: _) w from h2),
    Go.Proofs.cell_of_shapedOpen_int (P := Tryd.prog) (g := 3) (t := 3) (zero := #[.int .i64 0]) hs (of_decide_eq_true (by kernel_rfl)) (by kernel_rfl) rfl (by kernel_rfl) (by kernel_rfl) Tryd.underlying3,
    ⟨_, _, hv1⟩, _, _, hv0⟩
theorem door_nums (os : Os) (args : Array Value) : laidMetH Tryd.prog Rows.fnPlanTextRow.laid ((World.laidAll Tryd.prog os Rows.fnPlanTextRow.laid).forCall (fun _ _ => 0) ⟨#[], args, []⟩).memory := by
  rw [MakeChecks.laidMetH_plain _ _ _ (by kernel_rfl)]
  exact laidMet_laidAll _ (by kernel_rfl) (by kernel_rfl)
end Go.Proofs.YtjabpidmfgcamaaDoor.Laid
