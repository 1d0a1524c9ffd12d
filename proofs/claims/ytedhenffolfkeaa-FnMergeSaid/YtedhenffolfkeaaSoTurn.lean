/-
  Letters turned round: what the laws' soTurned returns; and the label of letters that are turned.
-/
import Derived.Test.YtedhenffolfkeaaDrawT
import Derived.Test.YtedhenffolfkeaaTry2
import Derived.Test.YtedhenffolfkeaaCat
import Derived.Test.YtedhenffolfkeaaPermM
namespace Go.Proofs.Ytedhenffolfkeaa
open Go.RowKit
set_option linter.unusedVariables false

theorem drop_rev {T : Type} (L : List T) (j : Nat) (h : j < L.length) : (L.drop j).reverse = (L.drop (j + 1)).reverse ++ [L[j]] := by
  rw [List.drop_eq_getElem_cons h, List.reverse_cons]
theorem row_empty (w : World) : Row (w.alloc (.cells #[] 29)) w.heap.size (.slice (some ⟨w.heap.size, 0, none⟩) 0 0) [] := by
  unfold Row
  exact ⟨rfl, Or.inr ⟨w.heap.size, 0, #[], rfl, Nat.le_refl _, (show (w.heap.push (.cells #[] 29))[w.heap.size]? = some (.cells #[] 29) by simp), Nat.le_refl _, by unfold maxLen; omega, by simp, by simp [lcells]⟩⟩
/-- The label of letters that are turned. -/
theorem label_turned {n : Nat} {I : Nat → Int} {C : Nat → ByteArray} (h : M.batch n I C = true) (h0 : 0 < n) : label (M.lst I C n).reverse.length (nI (M.lst I C n).reverse) (nC (M.lst I C n).reverse) = C (n - 1) ++ ⟨#[45]⟩ ++ C 0 := by
  have hb := (batchL_list _).2 (((batchL_iff n I C).1 h).perm (List.reverse_perm _).symm)
  have hl : (M.lst I C n).reverse.length = n := by rw [List.length_reverse, lst_len]
  rw [label_yes hb (by omega)]
  have e : ∀ i (hi : i < n), nC (M.lst I C n).reverse i = C (n - 1 - i) := fun i hi => by
    rw [nC_at (by omega), List.getElem_reverse, lst_get, lst_len]
  rw [e 0 h0, hl, e (n - 1) (by omega)]
  rw [Nat.sub_zero, Nat.sub_self]
theorem fits_turned {n : Nat} {I : Nat → Int} {C : Nat → ByteArray} (h : Fits n I C) : Fits (M.lst I C n).reverse.length (nI (M.lst I C n).reverse) (nC (M.lst I C n).reverse) := fun i hi => by
  have hl : (M.lst I C n).reverse.length = n := by rw [List.length_reverse, lst_len]
  rw [nI_at hi, nC_at hi, List.getElem_reverse, lst_get]
  rw [hl] at hi
  exact h _ (by rw [lst_len]; omega)
/-- Letters that the call has made. -/
def LetsOut (w : World) (L : List (Int × ByteArray)) (e : Ending) (w' : World) : Prop := ∃ v, e = .returned v ∧ Row w' w.heap.size v L ∧ Below w.heap.size w w'
end Go.Proofs.Ytedhenffolfkeaa
