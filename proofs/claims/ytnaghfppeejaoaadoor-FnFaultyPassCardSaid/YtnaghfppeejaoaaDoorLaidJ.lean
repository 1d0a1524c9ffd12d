/-
  What the condition on the listed variable gives a walk: the program's sentinel, the jam. And a world that meets it.
-/
import Derived.Test.YtnaghfppeejaoaaDoorRows
import Derived.Test.YtnaghfppeejaoaaDoorJamA
import Derived.LaidMore
import Derived.LaidHandle
import Derived.MakeChecks
import Derived.Lay
import Derived.LaidLaws
import Derived.Stop.LaidErr
import Derived.ChangeSame
import Derived.ChangeVars
import Derived.JoinedOf
import Derived.RowKit
import Derived.RowKitTokens
import Derived.Lib.SmallJoins
import Derived.ProofKit
import Derived.Below
namespace Go.Proofs.YtnaghfppeejaoaaDoor.Laid
open Go.ChangeShapes Go.WideShapes Go.RowKit Go.Joins

theorem star : "*" ++ "errors.errorString" = "*errors.errorString" := by decide
theorem jam_row (u : TypeId) (h : Tryd.prog.typeName? 3 u = some "*errors.errorString") : u = 147 :=
  typeName_ptr_named (nm := "errors.errorString") (by rw [star]; kernel_rfl) (by kernel_rfl) (by decide) u (by rw [star]; exact h)
theorem jam_named : Tryd.prog.globalNamed "loop.example/sortingoffice/impl.errJam" = some 0 := by kernel_rfl
theorem jam_typed : (Tryd.prog.globals[0]?).map (·.type) = some 103 := by kernel_rfl
theorem of_jam {w : World} (h : laidMetH Tryd.prog [("loop.example/sortingoffice/impl.errJam", Rows.laid_loop_example_sortingoffice_impl_errJam)] w) : ∃ J, w.var? Tryd.prog "loop.example/sortingoffice/impl.errJam" = some #[JV J] ∧ Jam w J := by
  rw [MakeChecks.laidMetH_plain _ _ _ (by kernel_rfl)] at h
  obtain ⟨a0, s0, hv0, hc0, _⟩ := laid_sentinel h jam_named jam_typed Tryd.underlying103 jam_row Tryd.underlying147 Tryd.underlying174 rfl rfl Tryd.underlying9 (by kernel_rfl) (by kernel_rfl)
  exact ⟨a0, hv0, by have := World.var?_cell jam_named hv0 0; simpa [Jam, JV] using this⟩
theorem jam_read {H : Type} (enc : TypeId × Value → H) {w : World} {J : Addr} (h : w.var? Tryd.prog "loop.example/sortingoffice/impl.errJam" = some #[JV J]) (sp : Nat → Bool) :
    DataW.TrodVars enc Tryd.prog w sp ["loop.example/sortingoffice/impl.errJam"] [tok enc (JV J)] [.cell 0 0] :=
  vars_read1 enc jam_named jam_typed Tryd.underlying103 h trivial sp
theorem door_jam (os : Os) (args : Array Value) : laidMetH Tryd.prog [("loop.example/sortingoffice/impl.errJam", Rows.laid_loop_example_sortingoffice_impl_errJam)] ((World.laidAll Tryd.prog os [("loop.example/sortingoffice/impl.errJam", Rows.laid_loop_example_sortingoffice_impl_errJam)]).forCall (fun _ _ => 0) ⟨#[], args, []⟩).memory := by
  rw [MakeChecks.laidMetH_plain _ _ _ (by kernel_rfl)]
  exact laidMet_laidAll _ (by kernel_rfl) (by kernel_rfl)
end Go.Proofs.YtnaghfppeejaoaaDoor.Laid
