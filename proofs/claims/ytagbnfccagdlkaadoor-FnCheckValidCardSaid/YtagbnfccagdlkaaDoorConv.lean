/-
  The bytes of a string in a block of their own. For every string.
-/
import Derived.Test.YtagbnfccagdlkaaDoorChecked
import Derived.Test.YtagbnfccagdlkaaDoorDig
import Derived.Lib.ConvBytes
import Derived.Laws.IdiomStrings
import Derived.WalkKit
import Derived.Below
namespace Go.Proofs.YtagbnfccagdlkaaDoor
open Go.RowKit

theorem below_bytesWorld (w : World) (e : TypeId) (s : ByteArray) : Below w.heap.size w (Lib.bytesWorld w e s) :=
  ⟨rfl, rfl, rfl, by rw [Lib.bytesWorld_size]; omega, fun k hk => Lib.bytesWorld_at_old w e s k hk⟩

theorem bytesWorld_frozen (w : World) (e : TypeId) (s : ByteArray) (k : Nat) (hk : k < s.size) : (Lib.bytesWorld w e s).frozen? ⟨w.heap.size, k, none⟩ = false := by
  have hs : s.size ≤ (Lib.bytesCells w e s).size := by
    unfold Lib.bytesCells
    simp
  unfold World.frozen?
  rw [Lib.bytesWorld_at_new]
  simp
  omega

end Go.Proofs.YtagbnfccagdlkaaDoor
