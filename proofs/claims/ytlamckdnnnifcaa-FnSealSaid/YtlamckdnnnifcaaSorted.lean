/-
  What SortedBatch and Inversions return, in the program and in the model of the document.
-/
import Derived.Test.YtlamckdnnnifcaaPureA
import Derived.Test.YtlamckdnnnifcaaBatch
import Derived.WalkLawsBesides
namespace Go.Proofs.Ytlamckdnnnifcaa
open Go.RowKit
open Go.PlainAid (bt get_bt bt_nonneg bt_le)

set_option maxHeartbeats 400000 in
theorem before_any (w : World) (a : Option Addr) (n c : Nat) (I : Nat → Int) (C : Nat → ByteArray) (h : Lts w a n I C) (x y : Int) (i j : Nat) (hx : x = i) (hy : y = j) (hi : i < n) (hj : j < n) :
    Calls Try.prog 55 #[.slice a n c, .int .i64 x, .int .i64 y] w fun e w' => e = .returned (.bool (M.less (C i) (C j))) ∧ Below w.heap.size w w' := by
  subst hx hy
  obtain ⟨b, o, rfl, c0, c1⟩ := h i hi
  obtain ⟨b2, o2, e2, d0, d1⟩ := h j hj
  cases e2
  go_enter Try.func55, Try.ntmps55
  go_wp2
  go_region
  all_goals
    go_wp2
    go_ret
    exact ⟨rfl, by go_grown⟩

end Go.Proofs.Ytlamckdnnnifcaa
