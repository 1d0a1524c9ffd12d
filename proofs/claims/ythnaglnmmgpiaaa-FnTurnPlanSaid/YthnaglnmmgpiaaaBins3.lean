/-
  What the model's BinPass leaves.
-/
import Derived.Test.YthnaglnmmgpiaaaBins2
import Derived.Test.YthnaglnmmgpiaaaMgN4
namespace Go.Proofs.Ythnaglnmmgpiaaa
open Go.RowKit
open Go.PlainAid (bt get_bt bt_nonneg bt_le)

/-- Bins, and whether there are any. -/
def BinsRes (w : World) (ok : Bool) (n : Nat) (M : Nat → List (Int × ByteArray)) (e : Ending) (w' : World) : Prop :=
  ∃ (v : Value) (V : Nat → Value), e = .returned (.tuple #[v, .bool ok]) ∧ Mat w' w.heap.size v n V M ∧ Below w.heap.size w w'
def M.binOk (n : Nat) (I : Nat → Int) (C : Nat → ByteArray) (x : Int) : Bool := M.batch n I C && decide (0 ≤ x ∧ x ≤ 6)
theorem M.binOk_yes {n : Nat} {I : Nat → Int} {C : Nat → ByteArray} {x : Int} (h : M.binOk n I C x = true) : M.batch n I C = true ∧ 0 ≤ x ∧ x ≤ 6 := by
  unfold M.binOk at h
  rw [Bool.and_eq_true] at h
  exact ⟨h.1, of_decide_eq_true h.2⟩

end Go.Proofs.Ythnaglnmmgpiaaa
