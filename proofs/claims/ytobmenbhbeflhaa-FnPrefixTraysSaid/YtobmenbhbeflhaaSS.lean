/-
  Slices of slices of letters that came in: where they lie, their size, their copy.
-/
import Derived.Test.YtobmenbhbeflhaaMatL
import Derived.Test.YtobmenbhbeflhaaConcat
import Derived.Test.YtobmenbhbeflhaaPermM
namespace Go.Proofs.Ytobmenbhbeflhaa
open Go.RowKit
set_option linter.unusedVariables false

/-- n slices of letters, in a slice of slices. -/
def Lss (w : World) (a : Option Addr) (n : Nat) (MM : Nat → List (Int × ByteArray)) : Prop :=
  ∀ i, i < n → ∃ b o a' c, a = some ⟨b, o, none⟩ ∧ w.cell? ⟨b, o + i, none⟩ = some (.slice a' (MM i).length c) ∧ Lts w a' (MM i).length (nI (MM i)) (nC (MM i)) ∧ Fits (MM i).length (nI (MM i)) (nC (MM i)) ∧ (MM i).length ≤ maxLen
theorem Lss.on {w w' : World} {a : Option Addr} {n : Nat} {MM : Nat → List (Int × ByteArray)} (h : Lss w a n MM) (hb : Below w.heap.size w w') : Lss w' a n MM := by
  intro i hi
  obtain ⟨b, o, a', c, e, h1, h2, h3, h4⟩ := h i hi
  have hl := World.block_lt_of_cell? _ _ h1
  exact ⟨b, o, a', c, e, (hb.cell (p := ⟨b, o + i, none⟩) hl).trans h1, h2.on hb, h3, h4⟩
theorem tot_flat (MM : Nat → List (Int × ByteArray)) : ∀ n, (M.flat MM n).length = tot MM n
  | 0 => rfl
  | n + 1 => by show (M.flat MM n ++ MM n).length = tot MM n + _; rw [List.length_append, tot_flat MM n]

theorem upd_if {M : Nat → List (Int × ByteArray)} {k : Nat} : ∀ i, upd (fun i => if i < k then M i else []) k (M k) i = if i < k + 1 then M i else [] := by
  intro i
  show (if i = k then M k else if i < k then M i else []) = _
  by_cases e : i = k
  · subst e; rw [if_pos rfl, if_pos (by omega)]
  · rw [if_neg e]
    by_cases e2 : i < k
    · rw [if_pos e2, if_pos (by omega)]
    · rw [if_neg e2, if_neg (by omega)]

end Go.Proofs.Ytobmenbhbeflhaa
