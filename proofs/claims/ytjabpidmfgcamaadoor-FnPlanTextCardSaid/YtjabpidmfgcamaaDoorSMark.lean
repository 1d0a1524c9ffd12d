/-
  The marks that a law writes into strings, and reads again.
-/
import Derived.Test.YtjabpidmfgcamaaDoorMarkS
namespace Go.Proofs.YtjabpidmfgcamaaDoor
open Go.RowKit
open Go.PlainAid (bt get_bt bt_nonneg bt_le)
set_option linter.unusedVariables false

namespace M
def smarks (k n : Nat) : List ByteArray := (List.range n).map fun i => mark (k + i)
theorem smarks_length (k n : Nat) : (smarks k n).length = n := by simp [smarks]
def smarkTo (L : List ByteArray) (k : Nat) : Nat → List ByteArray
  | 0 => L
  | j + 1 => (smarkTo L k j).set j (mark (k + j))
theorem smarkTo_length (L : List ByteArray) (k : Nat) : ∀ j, (smarkTo L k j).length = L.length
  | 0 => rfl
  | j + 1 => by show ((smarkTo L k j).set j _).length = _; rw [List.length_set, smarkTo_length L k j]
theorem smarkTo_at (L : List ByteArray) (k : Nat) : ∀ j i, i < j → i < L.length → (smarkTo L k j)[i]? = some (mark (k + i))
  | 0, _, h, _ => absurd h (by omega)
  | j + 1, i, h, hl => by
    show ((smarkTo L k j).set j _)[i]? = _
    by_cases e : i = j
    · subst e
      rw [List.getElem?_set_self (by rw [smarkTo_length]; exact hl)]
    · rw [List.getElem?_set_ne (by omega)]
      exact smarkTo_at L k j i (by omega) hl
theorem smarkTo_end (L : List ByteArray) (k : Nat) : smarkTo L k L.length = smarks k L.length := by
  apply List.ext_getElem?
  intro i
  by_cases h : i < L.length
  · rw [smarkTo_at L k _ i h h]
    simp [smarks, h]
  · rw [List.getElem?_eq_none (by rw [smarkTo_length]; omega), List.getElem?_eq_none (by rw [smarks_length]; omega)]
end M
end Go.Proofs.YtjabpidmfgcamaaDoor
