/-
  The least number of trays: room for all letters, and one less has not.
-/
import Derived.Test.YtbaoinbafkfciaaTrkA
namespace Go.Proofs.Ytbaoinbafkfciaa

theorem trays_enough (x y : Int) (x0 : 0 ≤ x) (x1 : x ≤ 60) (y0 : 1 ≤ y) (y1 : y ≤ 20) :
    x ≤ (x + y - 1) / y * y ∧ (x + y - 1) / y * y ≤ x + y - 1 ∧ 0 ≤ (x + y - 1) / y ∧ (x + y - 1) / y ≤ 60 := by
  have h1 := Int.emod_add_mul_ediv (x + y - 1) y
  have h2 := Int.emod_nonneg (x + y - 1) (show y ≠ 0 by omega)
  have h3 := Int.emod_lt_of_pos (x + y - 1) (show 0 < y by omega)
  have h4 : 0 ≤ (x + y - 1) / y := Int.ediv_nonneg (by omega) (by omega)
  have h5 : (x + y - 1) / y * y = y * ((x + y - 1) / y) := Int.mul_comm _ _
  rw [h5]
  refine ⟨by omega, by omega, h4, ?_⟩
  have h6 : (x + y - 1) / y < 61 := Int.ediv_lt_of_lt_mul (by omega) (by
    have : 61 * y = 60 * y + y := by omega
    have : 60 ≤ 60 * y := by omega
    omega)
  omega
end Go.Proofs.Ytbaoinbafkfciaa
