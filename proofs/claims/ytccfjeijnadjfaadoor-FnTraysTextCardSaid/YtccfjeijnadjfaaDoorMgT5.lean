/-
  Drawn sizes of trays, and letters with one.
-/
import Derived.Test.YtccfjeijnadjfaaDoorDrawB
import Derived.Test.YtccfjeijnadjfaaDoorMgT2
import Derived.Test.YtccfjeijnadjfaaDoorMgT11
import Derived.Test.YtccfjeijnadjfaaDoorMgT9
import Derived.BigQuiet
namespace Go.Proofs.YtccfjeijnadjfaaDoor
open Go.RowKit
set_option linter.unusedVariables false

/-- A number that was drawn, and a reader. -/
def SizeSg (W : World) (r N : Nat) (e : Ending) (w' : World) : Prop := ∃ x : Int, e = .returned (.int .i64 x) ∧ (x ∈ [(0 : Int), 20, 21, -1, 9223372036854775807] ∨ (1 ≤ x ∧ x ≤ 6)) ∧ Sg W w' r N
/-- Drawn letters. -/
def LetsOnly (w : World) (e : Ending) (w' : World) : Prop := ∃ v : Value, e = .returned v ∧ Lets w w' v
/-- Two drawn numbers, and new memory alone. -/
def NumTwo (w : World) (e : Ending) (w' : World) : Prop := ∃ x y : Int, e = .returned (.tuple #[.int .i64 x, .int .i64 y]) ∧ Below w.heap.size w w'
end Go.Proofs.YtccfjeijnadjfaaDoor

/-
  Where a letter stands; whether two batches have the same letters in any order.
-/
namespace Go.Proofs.YtccfjeijnadjfaaDoor
open Go.RowKit
set_option linter.unusedVariables false

/-- Where a letter of a batch stands. -/
theorem find_at {L : List (Int × ByteArray)} (h : BatchL L) {k : Nat} (hk : k < L.length) : M.findLetter L.length (nI L) (nC L) (nI L k) = (k : Int) := by
  rw [M.findLetter_yes ((batchL_list L).2 h)]
  refine M.find_hit hk rfl fun j hj e => ?_
  have hd := (List.pairwise_map.1 h.2.1)
  have := List.pairwise_iff_getElem.1 hd j k (by omega) hk hj
  rw [nI_at (by omega), nI_at hk] at e
  exact this e
end Go.Proofs.YtccfjeijnadjfaaDoor
