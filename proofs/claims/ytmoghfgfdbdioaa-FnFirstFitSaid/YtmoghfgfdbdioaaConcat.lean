/-
  All letters of some slices, one behind the other: in the program's library and in the model.
-/
import Derived.Test.YtmoghfgfdbdioaaCat
import Derived.Test.YtmoghfgfdbdioaaPureA
import Derived.Lib.AppendZerosOnto
import Derived.Lib.SliceRun
namespace Go.Proofs.Ytmoghfgfdbdioaa
open Go.RowKit Go.Lib

theorem M.flat_mono (M' : Nat → List (Int × ByteArray)) {i : Nat} : ∀ {n : Nat}, i ≤ n → (M.flat M' i).length ≤ (M.flat M' n).length
  | 0, h => by have : i = 0 := by omega
               subst this; exact Nat.le_refl _
  | n + 1, h => by
    by_cases e : i = n + 1
    · subst e; exact Nat.le_refl _
    · have := M.flat_mono M' (i := i) (n := n) (by omega)
      show _ ≤ (M.flat M' n ++ M' n).length
      rw [List.length_append]
      omega

end Go.Proofs.Ytmoghfgfdbdioaa
