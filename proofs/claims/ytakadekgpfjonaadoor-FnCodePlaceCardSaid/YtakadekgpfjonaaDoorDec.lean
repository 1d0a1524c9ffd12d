/-
  What the model's numbers look like: one digit.
-/
import Derived.Test.YtakadekgpfjonaaDoorByte
import Derived.Handy
import Derived.Below
namespace Go.Proofs.YtakadekgpfjonaaDoor
open Go.RowKit

set_option maxHeartbeats 1000000 in
theorem spec_l9Dec (n : Int) (w : World) (n0 : 0 ≤ n) (n1 : n ≤ 9) :
    Calls Tryd.prog 42 #[.int .i64 n] w fun e w' => e = .returned (.string (M.dig n)) ∧ Below w.heap.size w w' := by
  have ha := byte_string w (48 + n) (by omega) (by omega)
  go_enter Tryd.func42, Tryd.ntmps42
  have hx : ¬ (9 < n) := by omega
  go_wp2
  go_rounds 1
  go_ret
  exact ⟨congrArg (fun s => Ending.returned (.string s)) (M.append_empty _), (Below.refl _ _).alloc (Nat.le_refl _) _⟩

end Go.Proofs.YtakadekgpfjonaaDoor
