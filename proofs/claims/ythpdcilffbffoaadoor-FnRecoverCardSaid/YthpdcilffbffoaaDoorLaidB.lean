/-
  What the condition on the listed package-level variables gives the laws that read bars: the cells of checkDigits and of barsTable, and the table of powers of ten. And a world that meets it.
-/
import Derived.Test.YthpdcilffbffoaaDoorRows
import Derived.Test.YthpdcilffbffoaaDoorTab
import Derived.Test.YthpdcilffbffoaaDoorVars
import Derived.Lay
import Derived.Lib.ItoaNum
namespace Go.Proofs.YthpdcilffbffoaaDoor.Laid
open Go.RowKit

/-- The listed table of powers of ten. -/
def Pow (w : World) : Prop := Lib.TabIs Tryd.prog w "internal/strconv.uint64pow10" .u64 Lib.pow10Tab
theorem Pow.below {w w' : World} (h : Pow w) (hb : Below w.heap.size w w') : Pow w' := by
  have hg : Tryd.prog.globalNamed "internal/strconv.uint64pow10" = some 2 := by kernel_rfl
  unfold Pow Lib.TabIs at h ⊢
  exact Go.var?_below hb hg (Vars.var?_lt hg h) h
/-- All tables that the laws on bars read. -/
def read (w : World) : Prop := both w ∧ Pow w
theorem read.below {w w' : World} (h : read w) (hb : Below w.heap.size w w') : read w' := ⟨h.1.below hb, h.2.below hb⟩
theorem of_read {w : World} (h : laidMetH Tryd.prog Rows.fnExactReadBarsRow.laid w) (_ : w.ShapedOpen Tryd.prog) : read w := by
  rw [MakeChecks.laidMetH_plain _ _ _ (by kernel_rfl)] at h
  have h2 := laidMet.tail (laidMet.tail h)
  have h3 := laidMet.tail h2
  refine ⟨⟨?_, ?_⟩, ?_⟩
  · exact ints_of_head (zs := checkTable) (g := 1) (t := 48) (e := 3) (by kernel_rfl) (by kernel_rfl) Tryd.underlying48 Tryd.underlying3 (by kernel_rfl) (by kernel_rfl) h3
  · exact strs_of_head (zs := M.barTable) (g := 0) (t := 45) (e := 9) (by kernel_rfl) (by kernel_rfl) Tryd.underlying45 Tryd.underlying9 (by kernel_rfl) (by kernel_rfl) (laidMet.tail h3)
  · exact Lib.tabIs_of_head (g := 2) (t := 63) (e := 57) (by kernel_rfl) (by kernel_rfl) Tryd.underlying63 Tryd.underlying57 (by kernel_rfl) (by kernel_rfl) (show laidMet _ (("internal/strconv.uint64pow10", Lib.tabData .u64 Lib.pow10Tab) :: _) w from h2)
theorem named_bars : ∀ g t, Tryd.prog.globalNamed "loop.example/sortingoffice/impl.barsTable" = some g → (Tryd.prog.globals[g]?).map (·.type) = some t → Tryd.prog.readableRec t = true ∧ t < Tryd.prog.types.size := fun g t h1 h2 =>
  readable_of (g' := 0) (t' := 45) (by kernel_rfl) (by kernel_rfl) g t (by kernel_rfl) (of_decide_eq_true (by kernel_rfl)) h1 h2
theorem named_checks : ∀ g t, Tryd.prog.globalNamed "loop.example/sortingoffice/impl.checkDigits" = some g → (Tryd.prog.globals[g]?).map (·.type) = some t → Tryd.prog.readableRec t = true ∧ t < Tryd.prog.types.size := fun g t h1 h2 =>
  readable_of (g' := 1) (t' := 48) (by kernel_rfl) (by kernel_rfl) g t (by kernel_rfl) (of_decide_eq_true (by kernel_rfl)) h1 h2
theorem named_read : ∀ n ∈ Rows.fnExactReadBarsSpec.vars, ∀ g t, Tryd.prog.globalNamed n = some g → (Tryd.prog.globals[g]?).map (·.type) = some t → Tryd.prog.readableRec t = true ∧ t < Tryd.prog.types.size := by
  intro n hn g t h1 h2
  rcases List.mem_cons.1 hn with rfl | hn
  · exact named_bars g t h1 h2
  · obtain rfl := List.mem_singleton.1 hn
    exact named_checks g t h1 h2
theorem door_read (os : Os) (args : Array Value) : laidMetH Tryd.prog Rows.fnExactReadBarsRow.laid ((World.laidAll Tryd.prog os Rows.fnExactReadBarsRow.laid).forCall (fun _ _ => 0) ⟨#[], args, []⟩).memory := by
  rw [MakeChecks.laidMetH_plain _ _ _ (by kernel_rfl)]
  exact laidMet_laidAll _ (by kernel_rfl) (by kernel_rfl)
end Go.Proofs.YthpdcilffbffoaaDoor.Laid
