/-
  The digits in which codes differ. No program is named here.
-/
import Derived.Test.YtakjgajkalmleaaLetM
namespace Go.Proofs.Ytakjgajkalmleaa.M
open Go.PlainAid (bt)

/-- One of the first j codes has another digit at x than the first one. -/
def varyTo (C : Nat → ByteArray) (x j : Nat) : Bool := (List.range j).any fun i => decide (bt (C i) x ≠ bt (C 0) x)
theorem varyTo_zero (C : Nat → ByteArray) (x : Nat) : varyTo C x 0 = false := rfl
theorem varyTo_succ (C : Nat → ByteArray) (x j : Nat) : varyTo C x (j + 1) = (varyTo C x j || decide (bt (C j) x ≠ bt (C 0) x)) := by
  unfold varyTo
  rw [List.range_succ, List.any_append]
  simp
theorem varyTo_one (C : Nat → ByteArray) (x : Nat) : varyTo C x 1 = false := by
  rw [varyTo_succ, varyTo_zero, decide_eq_false (by simp)]; rfl
theorem varyTo_yes {C : Nat → ByteArray} {x j k : Nat} (hk : k < j) (h : bt (C k) x ≠ bt (C 0) x) : varyTo C x j = true := by
  unfold varyTo
  rw [List.any_eq_true]
  exact ⟨k, List.mem_range.2 hk, decide_eq_true h⟩
theorem varyTo_no {C : Nat → ByteArray} {x j : Nat} (h : ∀ k, k < j → ¬ bt (C k) x ≠ bt (C 0) x) : varyTo C x j = false := by
  rw [Bool.eq_false_iff]
  intro e
  unfold varyTo at e
  rw [List.any_eq_true] at e
  obtain ⟨k, hk, h2⟩ := e
  exact h k (List.mem_range.1 hk) (of_decide_eq_true h2)
/-- The digits below k in which n codes differ. -/
def vary (C : Nat → ByteArray) (n : Nat) : Nat → List Int
  | 0 => []
  | k + 1 => if varyTo C k n = true then vary C n k ++ [(k : Int)] else vary C n k
theorem vary_yes {C : Nat → ByteArray} {n k : Nat} (h : varyTo C k n = true) : vary C n (k + 1) = vary C n k ++ [(k : Int)] := if_pos h
theorem vary_no {C : Nat → ByteArray} {n k : Nat} (h : varyTo C k n = false) : vary C n (k + 1) = vary C n k := if_neg (by rw [h]; decide)
theorem vary_len (C : Nat → ByteArray) (n : Nat) : ∀ k, (vary C n k).length ≤ k
  | 0 => Nat.le_refl 0
  | k + 1 => by
    have := vary_len C n k
    cases h : varyTo C k n
    · rw [vary_no h]; omega
    · rw [vary_yes h, List.length_append]; simp; omega
/-- What VaryingDigits returns. -/
def varying (n : Nat) (I : Nat → Int) (C : Nat → ByteArray) : List Int := if batch n I C = true then vary C n 7 else []
theorem varying_len (n : Nat) (I : Nat → Int) (C : Nat → ByteArray) : (varying n I C).length ≤ 7 := by
  unfold varying; split
  · exact vary_len C n 7
  · exact Nat.zero_le _
end Go.Proofs.Ytakjgajkalmleaa.M
