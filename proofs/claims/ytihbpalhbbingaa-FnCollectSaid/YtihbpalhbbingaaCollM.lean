/-
  How many letters CollectBins returns.
-/
import Derived.Test.YtihbpalhbbingaaPass
namespace Go.Proofs.Ytihbpalhbbingaa
open Go.RowKit

theorem coll_le {n : Nat} {MM : Nat → List (Int × ByteArray)} : (M.coll n MM).length ≤ 60 := by
  unfold M.coll
  split
  · rename_i h
    unfold M.collOk at h
    rw [Bool.and_eq_true] at h
    exact (M.batch_yes h.2).1
  · exact Nat.zero_le _
end Go.Proofs.Ytihbpalhbbingaa
