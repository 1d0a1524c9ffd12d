/-
  What put leaves: one letter more in one of the pockets.
-/
import Derived.Test.YtmekhbekjfandaaMat
import Derived.Deep.AppendLies
import Derived.Deep.RegionLaw
namespace Go.Proofs.Ytmekhbekjfandaa
open Go.RowKit

/-- What put leaves of the world. -/
def Put (w : World) (base G c n : Nat) (V : Nat → Value) (M : Nat → List (Int × ByteArray)) (d : Nat) (i : Int) (s : ByteArray) (e : Ending) (w' : World) : Prop :=
  ∃ x : Value, e = .returned (.tuple #[]) ∧ Mat w' base (.slice (some ⟨G, 0, none⟩) n c) n (upd V d x) (upd M d (M d ++ [(i, s)])) ∧ Only w w' (inM (.slice (some ⟨G, 0, none⟩) n c) n V) ∧ (∀ k, x.ownBlock = some k → (V d).ownBlock = some k ∨ w.heap.size ≤ k)
end Go.Proofs.Ytmekhbekjfandaa
