/-
  What l1In returns.
-/
import Derived.Test.YtkbebpadbdhnhaaDig
namespace Go.Proofs.Ytkbebpadbdhnhaa
open Go.RowKit

set_option maxHeartbeats 400000 in
theorem spec_l1In (x lo hi : Int) (w : World) :
    Calls Try.prog 41 #[.int .i64 x, .int .i64 lo, .int .i64 hi] w fun e w' => e = .returned (.bool (decide (lo ≤ x ∧ x ≤ hi))) ∧ w = w' := by
  by_cases h1 : lo ≤ x
  · by_cases h2 : x ≤ hi
    · have hv := Lib.hid (decide_eq_true (show lo ≤ x ∧ x ≤ hi from ⟨h1, h2⟩))
      go_enter Try.func41, Try.ntmps41
      go_wp2
      go_ret
      exact ⟨ret_bool hv.out.symm, rfl⟩
    · go_enter Try.func41, Try.ntmps41
      go_wp2
      go_ret
      exact ⟨ret_bool (decide_eq_false (by omega)).symm, rfl⟩
  · go_enter Try.func41, Try.ntmps41
    go_wp2
    go_ret
    exact ⟨ret_bool (by rw [decide_eq_false (show ¬ lo ≤ x by omega)]; rfl), rfl⟩

end Go.Proofs.Ytkbebpadbdhnhaa
