/-
  What CollectBins and SortPass leave, in the program and in the model of the document.
-/
import Derived.Test.YtobmenbhbeflhaaBins3
import Derived.Test.YtobmenbhbeflhaaConcat
import Derived.Test.YtobmenbhbeflhaaPermM
namespace Go.Proofs.Ytobmenbhbeflhaa
open Go.RowKit

/-- Letters, and whether there are any. -/
def RowRes (w : World) (ok : Bool) (L : List (Int × ByteArray)) (e : Ending) (w' : World) : Prop := ∃ v, e = .returned (.tuple #[v, .bool ok]) ∧ Row w' w.heap.size v L ∧ Below w.heap.size w w'
/-- The letters of bins are a batch, of which there are not too many. -/
def M.collOk (n : Nat) (MM : Nat → List (Int × ByteArray)) : Bool := decide (n ≤ 60) && M.batch (M.flat MM n).length (nI (M.flat MM n)) (nC (M.flat MM n))
def M.coll (n : Nat) (MM : Nat → List (Int × ByteArray)) : List (Int × ByteArray) := if M.collOk n MM = true then M.flat MM n else []
def FitsL (L : List (Int × ByteArray)) : Prop := Fits L.length (nI L) (nC L)

/-- The letters after a pass. -/
def M.passL (n : Nat) (I : Nat → Int) (C : Nat → ByteArray) (x : Int) : List (Int × ByteArray) := if M.binOk n I C x = true then M.flat (M.bins I C x.toNat n) 10 else []
theorem passL_ok {n : Nat} {I : Nat → Int} {C : Nat → ByteArray} {x : Int} (h : M.binOk n I C x = true) : M.passL n I C x = M.flat (M.bins I C x.toNat n) 10 ∧ BatchL (M.passL n I C x) ∧ M.collOk 10 (M.bins I C x.toNat n) = true ∧ M.coll 10 (M.bins I C x.toNat n) = M.passL n I C x := by
  obtain ⟨h1, h2, h3⟩ := M.binOk_yes h
  have e : M.passL n I C x = M.flat (M.bins I C x.toNat n) 10 := if_pos h
  have hb := pass_batch h1 (x := x.toNat) (by omega)
  have hk : M.collOk 10 (M.bins I C x.toNat n) = true := by
    unfold M.collOk
    rw [(batchL_list _).2 hb]; rfl
  exact ⟨e, by rw [e]; exact hb, hk, by unfold M.coll; rw [if_pos hk, e]⟩

end Go.Proofs.Ytobmenbhbeflhaa
