/-
  Letters in bins: each letter goes behind those that are already in the bin of its key. No program is named here.
-/
import Derived.Test.YtghgipcblhfceaaMath
namespace Go.Proofs.Ytghgipcblhfceaa.M
open Go.PlainAid (bt)

/-- The bins after k letters. -/
def binTo (key : Nat → Option Nat) (I : Nat → Int) (C : Nat → ByteArray) : Nat → Nat → List (Int × ByteArray)
  | 0 => fun _ => []
  | k + 1 => match key k with
    | none => binTo key I C k
    | some d => fun i => if i = d then binTo key I C k d ++ [(I k, C k)] else binTo key I C k i
theorem binTo_none {key : Nat → Option Nat} {k : Nat} (h : key k = none) (I : Nat → Int) (C : Nat → ByteArray) : binTo key I C (k + 1) = binTo key I C k := by
  show (match key k with | none => binTo key I C k | some d => _) = _
  rw [h]
theorem binTo_some {key : Nat → Option Nat} {k d : Nat} (h : key k = some d) (I : Nat → Int) (C : Nat → ByteArray) : binTo key I C (k + 1) = fun i => if i = d then binTo key I C k d ++ [(I k, C k)] else binTo key I C k i := by
  show (match key k with | none => binTo key I C k | some d => _) = _
  rw [h]
theorem binTo_len (key : Nat → Option Nat) (I : Nat → Int) (C : Nat → ByteArray) : ∀ k i, (binTo key I C k i).length ≤ k
  | 0, _ => Nat.le_refl 0
  | k + 1, i => by
    cases h : key k with
    | none => rw [binTo_none h]; have := binTo_len key I C k i; omega
    | some d =>
      rw [binTo_some h]
      simp only
      split
      · have := binTo_len key I C k d; simp; omega
      · have := binTo_len key I C k i; omega
/-- The digit of a code, as the number of its bin. -/
def dig1 (C : Nat → ByteArray) (x : Nat) (k : Nat) : Option Nat := some (bt (C k) x - 48).toNat
def bins (I : Nat → Int) (C : Nat → ByteArray) (x n : Nat) : Nat → List (Int × ByteArray) := binTo (dig1 C x) I C n
/-- The letters of n bins, one bin after the other. -/
def flat (M : Nat → List (Int × ByteArray)) : Nat → List (Int × ByteArray)
  | 0 => []
  | n + 1 => flat M n ++ M n
theorem flat_congr {M M' : Nat → List (Int × ByteArray)} : ∀ {n : Nat}, (∀ i, i < n → M i = M' i) → flat M n = flat M' n
  | 0, _ => rfl
  | n + 1, h => by show flat M n ++ M n = flat M' n ++ M' n; rw [flat_congr fun i hi => h i (by omega), h n (by omega)]
end Go.Proofs.Ytghgipcblhfceaa.M
