/-
  What the model's pass of a plan leaves.
-/
import Derived.Test.YthnaglnmmgpiaaaPPass
import Derived.Test.YthnaglnmmgpiaaaBins3
namespace Go.Proofs.Ythnaglnmmgpiaaa
open Go.RowKit
open Go.PlainAid (bt get_bt bt_nonneg bt_le)

/-- Bins, and letters that have none. -/
def TwoOut (w : World) (N : Nat) (MM : Nat → List (Int × ByteArray)) (LL : List (Int × ByteArray)) (e : Ending) (w' : World) : Prop :=
  ∃ (G : Nat) (V : Nat → Value) (u : Value), e = .returned (.tuple #[.slice (some ⟨G, 0, none⟩) N N, u]) ∧ Mat w' w.heap.size (.slice (some ⟨G, 0, none⟩) N N) N V MM ∧ Row w' w.heap.size u LL ∧ (∀ k, u.ownBlock = some k → ¬ inM (.slice (some ⟨G, 0, none⟩) N N) N V k) ∧ Below w.heap.size w w'

end Go.Proofs.Ythnaglnmmgpiaaa
