/-
  What PlanRank, PlanBin and InOrder return, in the program and in the model of the document.
-/
import Derived.Test.YtihbpalhbbingaaPlan
namespace Go.Proofs.Ytihbpalhbbingaa
open Go.RowKit
open Go.PlainAid (bt get_bt bt_nonneg bt_le)

/-- Rank and digit as the walk has them. -/
theorem M.rankBin_t (b r : Int) (k : Nat) (b0 : 2 ≤ b) (b1 : b ≤ 16) (hk : k ≤ 4) (r0 : 0 ≤ r) : (r / M.pw b k).tmod b = M.rankBin b r k := by
  have := M.pw_pos b k b0 b1 hk
  unfold M.rankBin
  rw [Int.tmod_eq_emod_of_nonneg (Int.ediv_nonneg r0 (by omega))]

end Go.Proofs.Ytihbpalhbbingaa
