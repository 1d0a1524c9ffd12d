/-
  Plain functions on lists of letters, given by index: numbers and codes. No program is named here.
-/
import Derived.Test.YtkbebpadbdhnhaaMath
namespace Go.Proofs.Ytkbebpadbdhnhaa.M
open Go.PlainAid (bt)

/-- The first m letters are letters of a batch: valid ones, of which no two have the same number. -/
def goodTo (I : Nat → Int) (C : Nat → ByteArray) (m : Nat) : Bool := (List.range m).all fun i => (code (C i) && decide (1 ≤ I i ∧ I i ≤ 9999)) && (List.range i).all fun k => decide (I k ≠ I i)
theorem goodTo_iff (I : Nat → Int) (C : Nat → ByteArray) (m : Nat) : goodTo I C m = true ↔ ∀ i, i < m → code (C i) = true ∧ (1 ≤ I i ∧ I i ≤ 9999) ∧ ∀ k, k < i → I k ≠ I i := by
  unfold goodTo
  rw [List.all_eq_true]
  constructor
  · intro h i hi
    have := h i (List.mem_range.2 hi)
    rw [Bool.and_eq_true, Bool.and_eq_true, List.all_eq_true] at this
    exact ⟨this.1.1, of_decide_eq_true this.1.2, fun k hk => of_decide_eq_true (this.2 k (List.mem_range.2 hk))⟩
  · intro h i hi
    obtain ⟨h1, h2, h3⟩ := h i (List.mem_range.1 hi)
    rw [Bool.and_eq_true, Bool.and_eq_true, List.all_eq_true]
    exact ⟨⟨h1, decide_eq_true h2⟩, fun k hk => decide_eq_true (h3 k (List.mem_range.1 hk))⟩
theorem goodTo_zero (I : Nat → Int) (C : Nat → ByteArray) : goodTo I C 0 = true := rfl
theorem goodTo_succ {I : Nat → Int} {C : Nat → ByteArray} {m : Nat} (h : goodTo I C m = true) (h1 : code (C m) = true) (h2 : 1 ≤ I m ∧ I m ≤ 9999) (h3 : ∀ k, k < m → I k ≠ I m) : goodTo I C (m + 1) = true :=
  (goodTo_iff I C (m + 1)).2 fun i hi => by
    by_cases e : i = m
    · subst e; exact ⟨h1, h2, h3⟩
    · exact (goodTo_iff I C m).1 h i (by omega)
/-- Letters are a batch. -/
def batch (n : Nat) (I : Nat → Int) (C : Nat → ByteArray) : Bool := goodTo I C n && decide (n ≤ 60)
theorem batch_long {n : Nat} {I : Nat → Int} {C : Nat → ByteArray} (h : 60 < n) : batch n I C = false := by
  unfold batch
  rw [decide_eq_false (show ¬ n ≤ 60 by omega), Bool.and_false]
theorem batch_end {n : Nat} {I : Nat → Int} {C : Nat → ByteArray} (h : goodTo I C n = true) : batch n I C = decide (n ≤ 60) := by
  unfold batch
  rw [h, Bool.true_and]
theorem batch_no {n : Nat} {I : Nat → Int} {C : Nat → ByteArray} {k : Nat} (hk : k < n) (h : code (C k) = false ∨ I k < 1 ∨ 9999 < I k ∨ ∃ j, j < k ∧ I j = I k) : batch n I C = false := by
  unfold batch
  have : goodTo I C n = false := by
    rw [Bool.eq_false_iff]
    intro e
    obtain ⟨h1, h2, h3⟩ := (goodTo_iff I C n).1 e k hk
    rcases h with h | h | h | ⟨j, hj, h⟩
    · rw [h] at h1; cases h1
    · omega
    · omega
    · exact h3 j hj h
  rw [this]; rfl
theorem batch_yes {n : Nat} {I : Nat → Int} {C : Nat → ByteArray} (h : batch n I C = true) : n ≤ 60 ∧ ∀ i, i < n → code (C i) = true ∧ (1 ≤ I i ∧ I i ≤ 9999) ∧ ∀ k, k < i → I k ≠ I i := by
  unfold batch at h
  rw [Bool.and_eq_true] at h
  exact ⟨of_decide_eq_true h.2, (goodTo_iff I C n).1 h.1⟩
/-- What is left of a number behind a string. -/
def rest (v : Int) (n : Nat) : Int := if v - n < 0 then -1 else v - n
theorem rest_neg {v : Int} {n : Nat} (h : v - n < 0) : rest v n = -1 := if_pos h
theorem rest_pos {v : Int} {n : Nat} (h : ¬ v - n < 0) : rest v n = v - n := if_neg h
end Go.Proofs.Ytkbebpadbdhnhaa.M
