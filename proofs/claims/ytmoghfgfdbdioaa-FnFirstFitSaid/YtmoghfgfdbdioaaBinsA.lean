/-
  What the model's BinPass leaves, and the program's where there are no bins.
-/
import Derived.Test.YtmoghfgfdbdioaaBins
import Derived.Deep.RegionLaw
import Derived.Maps.AppendAt
import Derived.Test.YtmoghfgfdbdioaaCat
namespace Go.Proofs.Ytmoghfgfdbdioaa
open Go.RowKit
open Go.PlainAid (bt get_bt bt_nonneg bt_le)

end Go.Proofs.Ytmoghfgfdbdioaa

/-
  What the model's BinPass leaves.
-/
namespace Go.Proofs.Ytmoghfgfdbdioaa
open Go.RowKit
open Go.PlainAid (bt get_bt bt_nonneg bt_le)

def M.binOk (n : Nat) (I : Nat → Int) (C : Nat → ByteArray) (x : Int) : Bool := M.batch n I C && decide (0 ≤ x ∧ x ≤ 6)
theorem M.binOk_yes {n : Nat} {I : Nat → Int} {C : Nat → ByteArray} {x : Int} (h : M.binOk n I C x = true) : M.batch n I C = true ∧ 0 ≤ x ∧ x ≤ 6 := by
  unfold M.binOk at h
  rw [Bool.and_eq_true] at h
  exact ⟨h.1, of_decide_eq_true h.2⟩

end Go.Proofs.Ytmoghfgfdbdioaa
