/-
  Longest chains of letters in order: as the program counts them (for each rank) and as the model does (for each letter). No program is named here.
-/
import Derived.Test.YtolliagobjgjfaaPlanM
namespace Go.Proofs.Ytolliagobjgjfaa.M

/-- The greatest of f 0 .. f r. -/
def maxTo (f : Nat → Nat) : Nat → Nat
  | 0 => f 0
  | r + 1 => max (maxTo f r) (f (r + 1))
theorem maxTo_ge (f : Nat → Nat) : ∀ r i, i ≤ r → f i ≤ maxTo f r
  | 0, i, h => by obtain rfl : i = 0 := by omega
                  exact Nat.le_refl _
  | r + 1, i, h => by
    show f i ≤ max (maxTo f r) (f (r + 1))
    by_cases e : i = r + 1
    · subst e; omega
    · have := maxTo_ge f r i (by omega); omega
theorem maxTo_le (f : Nat → Nat) (b : Nat) : ∀ r, (∀ i, i ≤ r → f i ≤ b) → maxTo f r ≤ b
  | 0, h => h 0 (Nat.le_refl _)
  | r + 1, h => by
    show max (maxTo f r) (f (r + 1)) ≤ b
    have h1 := maxTo_le f b r fun i hi => h i (by omega)
    have h2 := h (r + 1) (Nat.le_refl _)
    omega
theorem maxTo_congr {f g : Nat → Nat} : ∀ r, (∀ i, i ≤ r → f i = g i) → maxTo f r = maxTo g r
  | 0, h => h 0 (Nat.le_refl _)
  | r + 1, h => by
    show max (maxTo f r) (f (r + 1)) = max (maxTo g r) (g (r + 1))
    rw [maxTo_congr r fun i hi => h i (by omega), h (r + 1) (Nat.le_refl _)]
/-- For each rank the greatest number of letters in order, of the first k, the last of which has this rank. -/
def most (K : Nat → Int) : Nat → Nat → Nat
  | 0, _ => 0
  | k + 1, r => if K k = (r : Int) then 1 + maxTo (most K k) r else most K k r
/-- The longest chain that ends at a letter. -/
def lng (K : Nat → Int) (k : Nat) : Nat := if K k < 0 then 0 else 1 + maxTo (most K k) (K k).toNat
theorem most_none {K : Nat → Int} {k : Nat} (h : K k < 0) : most K (k + 1) = most K k := by
  funext r
  show (if K k = (r : Int) then _ else _) = _
  rw [if_neg (by omega)]
theorem most_hit {K : Nat → Int} {k r : Nat} (h : K k = (r : Int)) : most K (k + 1) r = lng K k := by
  show (if K k = (r : Int) then _ else _) = _
  rw [if_pos h]
  unfold lng
  rw [if_neg (by omega), h, Int.toNat_natCast]
theorem most_miss {K : Nat → Int} {k r : Nat} (h : K k ≠ (r : Int)) : most K (k + 1) r = most K k r := by
  show (if K k = (r : Int) then _ else _) = _
  rw [if_neg h]
theorem lng_some {K : Nat → Int} {k r : Nat} (h : K k = (r : Int)) : lng K k = 1 + maxTo (most K k) r := by
  unfold lng
  rw [if_neg (by omega), h, Int.toNat_natCast]
theorem most_le (K : Nat → Int) : ∀ k r, most K k r ≤ k
  | 0, _ => Nat.le_refl _
  | k + 1, r => by
    show (if K k = (r : Int) then _ else _) ≤ _
    by_cases h : K k = (r : Int)
    · rw [if_pos h]
      have := maxTo_le (most K k) k r fun i _ => most_le K k i
      omega
    · rw [if_neg h]
      have := most_le K k r
      omega
theorem maxTo_most_le (K : Nat → Int) (k r : Nat) : maxTo (most K k) r ≤ k := maxTo_le _ _ _ fun i _ => most_le K k i
theorem lng_le (K : Nat → Int) (k : Nat) : lng K k ≤ k + 1 := by
  unfold lng
  have := maxTo_most_le K k (K k).toNat
  split <;> omega
theorem maxTo_most_succ {K : Nat → Int} {k r n : Nat} (h : K k = (r : Int)) (hr : r ≤ n) : maxTo (most K (k + 1)) n = max (maxTo (most K k) n) (lng K k) := by
  have hl := lng_some h
  apply Nat.le_antisymm
  · apply maxTo_le
    intro i hi
    by_cases e : K k = (i : Int)
    · rw [most_hit e]; omega
    · rw [most_miss e]
      have := maxTo_ge (most K k) n i hi
      omega
  · have h1 : lng K k ≤ maxTo (most K (k + 1)) n := by
      have := maxTo_ge (most K (k + 1)) n r hr
      rw [most_hit h] at this
      exact this
    have h2 : maxTo (most K k) n ≤ maxTo (most K (k + 1)) n := by
      apply maxTo_le
      intro i hi
      have h3 := maxTo_ge (most K (k + 1)) n i hi
      by_cases e : K k = (i : Int)
      · rw [most_hit e] at h3
        have h4 := maxTo_ge (most K k) r i (by omega)
        omega
      · rw [most_miss e] at h3
        exact h3
    omega
theorem maxTo_most_skip {K : Nat → Int} {k n : Nat} (h : K k < 0 ∨ (n : Int) < K k) : maxTo (most K (k + 1)) n = maxTo (most K k) n :=
  maxTo_congr n fun i hi => most_miss (by omega)
/-- The longest chain that ends at one of the first k letters whose rank is n at most. -/
def inTo (K : Nat → Int) (n : Int) : Nat → Nat
  | 0 => 0
  | k + 1 => if 0 ≤ K k ∧ K k ≤ n then max (inTo K n k) (lng K k) else inTo K n k
theorem maxTo_zero (n : Nat) : maxTo (fun _ => 0) n = 0 := Nat.le_zero.1 (maxTo_le _ _ _ fun _ _ => Nat.le_refl _)
theorem inTo_most (K : Nat → Int) (n : Nat) : ∀ k, inTo K n k = maxTo (most K k) n
  | 0 => (maxTo_zero n).symm
  | k + 1 => by
    show (if 0 ≤ K k ∧ K k ≤ (n : Int) then _ else _) = _
    by_cases h : 0 ≤ K k ∧ K k ≤ (n : Int)
    · obtain ⟨r, hr⟩ := Int.eq_ofNat_of_zero_le h.1
      rw [if_pos h, inTo_most K n k, maxTo_most_succ hr (by omega)]
    · rw [if_neg h, inTo_most K n k, maxTo_most_skip (by omega)]
theorem inTo_yes {K : Nat → Int} {n : Int} {k : Nat} (h : 0 ≤ K k) (h2 : K k ≤ n) : inTo K n (k + 1) = max (inTo K n k) (lng K k) := if_pos ⟨h, h2⟩
theorem inTo_no {K : Nat → Int} {n : Int} {k : Nat} (h : K k < 0 ∨ n < K k) : inTo K n (k + 1) = inTo K n k := if_neg (by omega)
theorem inTo_le (K : Nat → Int) (n : Int) : ∀ k, inTo K n k ≤ k
  | 0 => Nat.le_refl _
  | k + 1 => by
    have h1 := inTo_le K n k
    have h2 := lng_le K k
    show (if 0 ≤ K k ∧ K k ≤ n then _ else _) ≤ _
    split <;> omega
theorem lng_of_in {K : Nat → Int} {k r : Nat} (h : K k = (r : Int)) : lng K k = 1 + inTo K (r : Int) k := by rw [lng_some h, inTo_most]
theorem lng_pos {K : Nat → Int} {k : Nat} : 0 < lng K k ↔ 0 ≤ K k := by
  unfold lng
  by_cases h : K k < 0
  · rw [if_pos h]; omega
  · rw [if_neg h]; omega
theorem lng_none {K : Nat → Int} {k : Nat} (h : K k < 0) : lng K k = 0 := if_pos h
/-- The longest chain of the first k letters. -/
def best (K : Nat → Int) : Nat → Nat
  | 0 => 0
  | k + 1 => max (best K k) (lng K k)
theorem best_le (K : Nat → Int) : ∀ k, best K k ≤ k
  | 0 => Nat.le_refl _
  | k + 1 => by
    have h1 := best_le K k
    have h2 := lng_le K k
    show max _ _ ≤ _
    omega
theorem best_in {K : Nat → Int} {n : Int} : ∀ {k : Nat}, (∀ j, j < k → K j ≤ n) → best K k = inTo K n k
  | 0, _ => rfl
  | k + 1, h => by
    show max (best K k) (lng K k) = _
    rw [best_in fun j hj => h j (by omega)]
    by_cases h0 : K k < 0
    · rw [lng_none h0, inTo_no (Or.inl h0)]; omega
    · rw [inTo_yes (by omega) (h k (by omega))]
theorem best_most {K : Nat → Int} {n k : Nat} (h : ∀ j, j < k → K j ≤ (n : Int)) : best K k = maxTo (most K k) n := by rw [best_in h, inTo_most]

/-- How many letters can stay. -/
def kept (b p : Int) (n : Nat) (S : Nat → ByteArray) (m : Nat) (I : Nat → Int) (C : Nat → ByteArray) : Int :=
  if plan b p n S && batch m I C then (best (fun k => rankTo S (C k) n) m : Nat) else -1
theorem kept_no {b p : Int} {n : Nat} {S : Nat → ByteArray} {m : Nat} {I : Nat → Int} {C : Nat → ByteArray} (h : (plan b p n S && batch m I C) = false) : kept b p n S m I C = -1 := by
  unfold kept; rw [h]; rfl
theorem kept_yes {b p : Int} {n : Nat} {S : Nat → ByteArray} {m : Nat} {I : Nat → Int} {C : Nat → ByteArray} (h : (plan b p n S && batch m I C) = true) : kept b p n S m I C = (best (fun k => rankTo S (C k) n) m : Nat) := by
  unfold kept; rw [h]; rfl
/-- How many letters must be moved. -/
def moved (b p : Int) (n : Nat) (S : Nat → ByteArray) (m : Nat) (I : Nat → Int) (C : Nat → ByteArray) : Int :=
  if kept b p n S m I C < 0 then -1 else m - kept b p n S m I C
theorem kept_bd (b p : Int) (n : Nat) (S : Nat → ByteArray) (m : Nat) (I : Nat → Int) (C : Nat → ByteArray) : -1 ≤ kept b p n S m I C ∧ kept b p n S m I C ≤ m := by
  unfold kept
  have := best_le (fun k => rankTo S (C k) n) m
  split <;> omega
end Go.Proofs.Ytolliagobjgjfaa.M
