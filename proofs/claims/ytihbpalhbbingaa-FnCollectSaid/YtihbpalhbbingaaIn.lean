/-
  What l1In returns.
-/
import Derived.Test.YtihbpalhbbingaaDig
namespace Go.Proofs.Ytihbpalhbbingaa
open Go.RowKit

set_option maxHeartbeats 400000 in
theorem spec_l1In (x lo hi : Int) (w : World) :
    Calls Try.prog 51 #[.int .i64 x, .int .i64 lo, .int .i64 hi] w fun e w' => e = .returned (.bool (decide (lo ≤ x ∧ x ≤ hi))) ∧ w = w' := by
  by_cases h1 : lo ≤ x
  · by_cases h2 : x ≤ hi
    · have hv := Lib.hid (decide_eq_true (show lo ≤ x ∧ x ≤ hi from ⟨h1, h2⟩))
      go_enter Try.func51, Try.ntmps51
      go_wp2
      go_ret
      exact ⟨ret_bool hv.out.symm, rfl⟩
    · go_enter Try.func51, Try.ntmps51
      go_wp2
      go_ret
      exact ⟨ret_bool (decide_eq_false (by omega)).symm, rfl⟩
  · go_enter Try.func51, Try.ntmps51
    go_wp2
    go_ret
    exact ⟨ret_bool (by rw [decide_eq_false (show ¬ lo ≤ x by omega)]; rfl), rfl⟩

set_option maxHeartbeats 400000 in
theorem impl_within (x y : Int) (w : World) :
    Calls Try.prog 60 #[.int .i64 x, .int .i64 y] w fun e w' => e = .returned (.bool (decide (0 ≤ x ∧ x ≤ y))) ∧ w = w' := by
  by_cases h1 : 0 ≤ x
  · by_cases h2 : x ≤ y
    · have hv := Lib.hid (decide_eq_true (show 0 ≤ x ∧ x ≤ y from ⟨h1, h2⟩))
      go_enter Try.func60, Try.ntmps60
      go_wp2
      go_ret
      exact ⟨ret_bool hv.out.symm, rfl⟩
    · go_enter Try.func60, Try.ntmps60
      go_wp2
      go_ret
      exact ⟨ret_bool (decide_eq_false (show ¬ x ≤ y by omega)).symm, rfl⟩
  · go_enter Try.func60, Try.ntmps60
    go_wp2
    go_ret
    exact ⟨ret_bool (by rw [decide_eq_false (show ¬ 0 ≤ x by omega)]; rfl), rfl⟩

end Go.Proofs.Ytihbpalhbbingaa
