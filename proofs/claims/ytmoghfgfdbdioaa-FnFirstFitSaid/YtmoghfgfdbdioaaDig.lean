/-
  What DigitsValid and CodeValid return, in the program and in the model of the document.
-/
import Derived.Test.YtmoghfgfdbdioaaChecked
import Derived.Test.YtmoghfgfdbdioaaMath
import Derived.WalkKit
import Derived.Below
import Derived.Outline
import Derived.Lib.Hide
namespace Go.Proofs.Ytmoghfgfdbdioaa
open Go.RowKit
open Go.PlainAid (bt get_bt bt_nonneg bt_le)

theorem ret_bool {a b : Bool} (h : a = b) : Ending.returned (.bool a) = .returned (.bool b) := by rw [h]
theorem ret_int {k : IntKind} {a b : Int} (h : a = b) : Ending.returned (.int k a) = .returned (.int k b) := by rw [h]
theorem dec_seven (n : Nat) : ((n : Int) == 7) = decide (n = 7) := by
  by_cases h : n = 7
  · subst h; rfl
  · rw [decide_eq_false h]
    simp
    omega
/-- The world behind a range over s: as it was, or with one iterator more. -/
def Iters (s : ByteArray) (w w' : World) : Prop := w' = w ∨ ∃ k, w' = w.alloc (.stringIter s k)
theorem Iters.below {s : ByteArray} {w w' : World} (h : Iters s w w') : Below w.heap.size w w' := by
  rcases h with rfl | ⟨k, rfl⟩
  · exact Below.refl _ _
  · exact (Below.refl _ _).alloc (Nat.le_refl _) _
theorem below_iter (s : ByteArray) (p : Nat) (w : World) : Below w.heap.size w (w.iter s p) := (Below.refl _ _).alloc (Nat.le_refl _) _

/-- Behind a call that makes memory alone: all that was there reads as before. -/
theorem bcell {W w1 : World} (hb : Below W.heap.size W w1) : (∀ b o, b < W.heap.size → w1.cell? ⟨b, o, none⟩ = W.cell? ⟨b, o, none⟩) ∧ (∀ b o, b < W.heap.size → w1.frozen? ⟨b, o, none⟩ = W.frozen? ⟨b, o, none⟩) :=
  ⟨fun b o h => hb.cell (p := ⟨b, o, none⟩) h, fun b o h => hb.frozen (p := ⟨b, o, none⟩) h⟩

end Go.Proofs.Ytmoghfgfdbdioaa
