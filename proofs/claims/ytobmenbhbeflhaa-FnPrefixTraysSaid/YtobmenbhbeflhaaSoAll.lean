/-
  Where a letter stands; whether two batches have the same letters in any order.
-/
import Derived.Test.YtobmenbhbeflhaaFind
import Derived.Test.YtobmenbhbeflhaaMgF4
import Derived.Test.YtobmenbhbeflhaaPermM
import Derived.BigQuiet
namespace Go.Proofs.Ytobmenbhbeflhaa
open Go.RowKit
set_option linter.unusedVariables false

/-- Where a letter of a batch stands. -/
theorem find_at {L : List (Int × ByteArray)} (h : BatchL L) {k : Nat} (hk : k < L.length) : M.findLetter L.length (nI L) (nC L) (nI L k) = (k : Int) := by
  rw [M.findLetter_yes ((batchL_list L).2 h)]
  refine M.find_hit hk rfl fun j hj e => ?_
  have hd := (List.pairwise_map.1 h.2.1)
  have := List.pairwise_iff_getElem.1 hd j k (by omega) hk hj
  rw [nI_at (by omega), nI_at hk] at e
  exact this e
end Go.Proofs.Ytobmenbhbeflhaa
