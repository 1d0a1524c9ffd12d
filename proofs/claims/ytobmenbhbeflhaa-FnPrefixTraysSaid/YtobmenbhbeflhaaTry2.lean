/-
  What EmptyTrays, TrayOf and LabelOf return, in the program and in the model of the document.
-/
import Derived.Test.YtobmenbhbeflhaaTry
import Derived.Test.YtobmenbhbeflhaaFind
import Derived.BigQuiet
namespace Go.Proofs.Ytobmenbhbeflhaa
open Go.RowKit
set_option linter.unusedVariables false

/-- Letters, and whether there are any. -/
def RowFound (w : World) (ok : Bool) (L : List (Int × ByteArray)) (e : Ending) (w' : World) : Prop := ∃ v, e = .returned (.tuple #[v, .bool ok]) ∧ Row w' w.heap.size v L ∧ Below w.heap.size w w'
theorem empty_no {n : Nat} {MM : Nat → List (Int × ByteArray)} (h : traysOk n MM 20 = false) : empty n MM = [] := if_neg (by rw [h]; decide)
theorem empty_yes {n : Nat} {MM : Nat → List (Int × ByteArray)} (h : traysOk n MM 20 = true) : empty n MM = M.flat MM n := if_pos h

theorem label_yes {n : Nat} {I : Nat → Int} {C : Nat → ByteArray} (h : M.batch n I C = true) (h0 : 0 < n) : label n I C = C 0 ++ ⟨#[45]⟩ ++ C (n - 1) := if_pos ⟨h, h0⟩
theorem label_no {n : Nat} {I : Nat → Int} {C : Nat → ByteArray} (h : ¬ (M.batch n I C = true ∧ 0 < n)) : label n I C = ⟨#[]⟩ := if_neg h
theorem ret_string {a b : ByteArray} (h : a = b) : Ending.returned (.string a) = .returned (.string b) := by rw [h]

end Go.Proofs.Ytobmenbhbeflhaa
