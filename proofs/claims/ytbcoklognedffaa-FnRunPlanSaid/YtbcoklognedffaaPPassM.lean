/-
  The bins of a pass of a plan, and the letters without a rank. No program is named here.
-/
import Derived.Test.YtbcoklognedffaaPlanM
import Derived.Test.YtbcoklognedffaaBinM
import Derived.Test.YtbcoklognedffaaSplitM
namespace Go.Proofs.Ytbcoklognedffaa.M

/-- The bin of a letter in a pass, if its code has a rank. -/
def planKey (b : Int) (n : Nat) (S : Nat → ByteArray) (C : Nat → ByteArray) (x : Nat) (k : Nat) : Option Nat := if rankTo S (C k) n < 0 then none else some (rankBin b (rankTo S (C k) n) x).toNat
/-- The letters that have no bin. -/
def restTo (key : Nat → Option Nat) (I : Nat → Int) (C : Nat → ByteArray) : Nat → List (Int × ByteArray)
  | 0 => []
  | k + 1 => match key k with
    | none => restTo key I C k ++ [(I k, C k)]
    | some _ => restTo key I C k
theorem restTo_none {key : Nat → Option Nat} {k : Nat} (h : key k = none) (I : Nat → Int) (C : Nat → ByteArray) : restTo key I C (k + 1) = restTo key I C k ++ [(I k, C k)] := by
  show (match key k with | none => restTo key I C k ++ [(I k, C k)] | some _ => restTo key I C k) = _
  rw [h]
theorem restTo_some {key : Nat → Option Nat} {k d : Nat} (h : key k = some d) (I : Nat → Int) (C : Nat → ByteArray) : restTo key I C (k + 1) = restTo key I C k := by
  show (match key k with | none => restTo key I C k ++ [(I k, C k)] | some _ => restTo key I C k) = _
  rw [h]
theorem restTo_len (key : Nat → Option Nat) (I : Nat → Int) (C : Nat → ByteArray) : ∀ k, (restTo key I C k).length ≤ k
  | 0 => Nat.le_refl 0
  | k + 1 => by
    have ih := restTo_len key I C k
    cases h : key k with
    | none => rw [restTo_none h, List.length_append]; simp; omega
    | some d => rw [restTo_some h]; omega
theorem planKey_none {b : Int} {n : Nat} {S C : Nat → ByteArray} {x k : Nat} (h : rankTo S (C k) n < 0) : planKey b n S C x k = none := if_pos h
theorem planKey_some {b : Int} {n : Nat} {S C : Nat → ByteArray} {x k : Nat} (h : 0 ≤ rankTo S (C k) n) : planKey b n S C x k = some (rankBin b (rankTo S (C k) n) x).toNat := if_neg (by omega)
/-- There are bins: the plan and the batch are valid, and there is such a pass. -/
def passOk (b p : Int) (n : Nat) (S : Nat → ByteArray) (m : Nat) (I : Nat → Int) (C : Nat → ByteArray) (x : Int) : Bool := (plan b p n S && batch m I C) && decide (0 ≤ x ∧ x < p)
end Go.Proofs.Ytbcoklognedffaa.M
