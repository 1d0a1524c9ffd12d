/-
  Letters for held codes, and the others. No program is named here.
-/
import Derived.Test.YtodnolefdapbdaaDoorSplitM
import Derived.Test.YtodnolefdapbdaaDoorPlanM
namespace Go.Proofs.YtodnolefdapbdaaDoor.M

/-- The first m strings are codes. -/
def allCodes (S : Nat → ByteArray) (m : Nat) : Bool := (List.range m).all fun i => code (S i)
theorem allCodes_iff (S : Nat → ByteArray) (m : Nat) : allCodes S m = true ↔ ∀ i, i < m → code (S i) = true := by
  unfold allCodes
  rw [List.all_eq_true]
  exact ⟨fun h i hi => h i (List.mem_range.2 hi), fun h i hi => h i (List.mem_range.1 hi)⟩
theorem allCodes_no {S : Nat → ByteArray} {m k : Nat} (hk : k < m) (h : code (S k) = false) : allCodes S m = false := by
  rw [Bool.eq_false_iff]
  intro e
  rw [(allCodes_iff S m).1 e k hk] at h
  cases h
theorem allCodes_succ (S : Nat → ByteArray) (k : Nat) : allCodes S (k + 1) = (allCodes S k && code (S k)) := by
  unfold allCodes
  rw [List.range_succ, List.all_append]
  simp
/-- A batch, and codes to hold. -/
def holdOk (n : Nat) (I : Nat → Int) (C : Nat → ByteArray) (m : Nat) (S : Nat → ByteArray) : Bool := batch n I C && (decide (m ≤ 30) && allCodes S m)
def heldF (S : Nat → ByteArray) (m : Nat) : ByteArray → Bool := fun c => decide (0 ≤ rankTo S c m)
def holdOut (n : Nat) (I : Nat → Int) (C : Nat → ByteArray) (m : Nat) (S : Nat → ByteArray) : List (Int × ByteArray) := if holdOk n I C m S = true then sansF (heldF S m) (lst I C n) else []
def holdKept (n : Nat) (I : Nat → Int) (C : Nat → ByteArray) (m : Nat) (S : Nat → ByteArray) : List (Int × ByteArray) := if holdOk n I C m S = true then withF (heldF S m) (lst I C n) else []
theorem holdOut_le (n : Nat) (I : Nat → Int) (C : Nat → ByteArray) (m : Nat) (S : Nat → ByteArray) : (holdOut n I C m S).length ≤ n := by
  unfold holdOut; split
  · exact sansF_le _ I C n
  · exact Nat.zero_le _
theorem holdKept_le (n : Nat) (I : Nat → Int) (C : Nat → ByteArray) (m : Nat) (S : Nat → ByteArray) : (holdKept n I C m S).length ≤ n := by
  unfold holdKept; split
  · exact withF_le _ I C n
  · exact Nat.zero_le _
theorem heldF_yes {S : Nat → ByteArray} {m : Nat} {c : ByteArray} (h : heldF S m c = true) : 0 ≤ rankTo S c m := of_decide_eq_true h
theorem heldF_no {S : Nat → ByteArray} {m : Nat} {c : ByteArray} (h : heldF S m c = false) : ¬ 0 ≤ rankTo S c m := of_decide_eq_false h
end Go.Proofs.YtodnolefdapbdaaDoor.M
