/-
  Rules on paper: names, which rules are valid, the index of a prefix, and the rule with the longest beginning.
-/
import Derived.Test.YtkbebpadbdhnhaaPlanM
import Derived.Test.YtkbebpadbdhnhaaSplitM
namespace Go.Proofs.Ytkbebpadbdhnhaa.M
open Go.PlainAid (bt get_bt bt_nonneg bt_le)

/-- The first k bytes are small letters. -/
def lowTo (s : ByteArray) (k : Nat) : Bool := (List.range k).all fun i => decide (97 ≤ bt s i ∧ bt s i ≤ 122)
theorem lowTo_iff (s : ByteArray) (k : Nat) : lowTo s k = true ↔ ∀ i, i < k → 97 ≤ bt s i ∧ bt s i ≤ 122 := by
  unfold lowTo
  rw [List.all_eq_true]
  exact ⟨fun h i hi => of_decide_eq_true (h i (List.mem_range.2 hi)), fun h i hi => decide_eq_true (h i (List.mem_range.1 hi))⟩
theorem lowTo_zero (s : ByteArray) : lowTo s 0 = true := rfl
theorem lowTo_succ {s : ByteArray} {k : Nat} (h : lowTo s k = true) (h1 : 97 ≤ bt s k) (h2 : bt s k ≤ 122) : lowTo s (k + 1) = true :=
  (lowTo_iff s (k + 1)).2 fun i hi => by
    by_cases e : i = k
    · subst e; exact ⟨h1, h2⟩
    · exact (lowTo_iff s k).1 h i (by omega)
theorem low_no {s : ByteArray} {k : Nat} (hk : k < s.size) (h : bt s k < 97 ∨ 122 < bt s k) : lowTo s s.size = false := by
  rw [Bool.eq_false_iff]
  intro e
  have := (lowTo_iff s s.size).1 e k hk
  omega
/-- A name: one to eight small letters. -/
def name (s : ByteArray) : Bool := lowTo s s.size && decide (1 ≤ s.size ∧ s.size ≤ 8)
theorem name_no {s : ByteArray} {k : Nat} (hk : k < s.size) (h : bt s k < 97 ∨ 122 < bt s k) : name s = false := by
  unfold name
  rw [low_no hk h]; rfl
theorem name_size {s : ByteArray} (h : ¬ (1 ≤ s.size ∧ s.size ≤ 8)) : name s = false := by
  unfold name
  rw [decide_eq_false h, Bool.and_false]
theorem name_end {s : ByteArray} (h : lowTo s s.size = true) : name s = decide (1 ≤ s.size ∧ s.size ≤ 8) := by
  unfold name
  rw [h, Bool.true_and]
theorem name_in {s : ByteArray} (h : 1 ≤ s.size ∧ s.size ≤ 8) : name s = lowTo s s.size := by
  unfold name
  rw [decide_eq_true h, Bool.and_true]
theorem name_yes {s : ByteArray} (h : name s = true) : lowTo s s.size = true ∧ 1 ≤ s.size ∧ s.size ≤ 8 := by
  unfold name at h
  rw [Bool.and_eq_true] at h
  exact ⟨h.1, of_decide_eq_true h.2⟩

/-- The first n rules are valid, but for their number. -/
def rulTo (P N : Nat → ByteArray) (n : Nat) : Bool := (List.range n).all fun i => (prefixOk (P i) && name (N i)) && (List.range i).all fun k => decide (P k ≠ P i)
theorem rulTo_iff (P N : Nat → ByteArray) (n : Nat) : rulTo P N n = true ↔ ∀ i, i < n → prefixOk (P i) = true ∧ name (N i) = true ∧ ∀ k, k < i → P k ≠ P i := by
  unfold rulTo
  rw [List.all_eq_true]
  constructor
  · intro h i hi
    have := h i (List.mem_range.2 hi)
    rw [Bool.and_eq_true, Bool.and_eq_true, List.all_eq_true] at this
    exact ⟨this.1.1, this.1.2, fun k hk => of_decide_eq_true (this.2 k (List.mem_range.2 hk))⟩
  · intro h i hi
    obtain ⟨h1, h2, h3⟩ := h i (List.mem_range.1 hi)
    rw [Bool.and_eq_true, Bool.and_eq_true, List.all_eq_true]
    exact ⟨⟨h1, h2⟩, fun k hk => decide_eq_true (h3 k (List.mem_range.1 hk))⟩
def rul (n : Nat) (P N : Nat → ByteArray) : Bool := decide (n ≤ 20) && rulTo P N n
theorem rulTo_zero (P N : Nat → ByteArray) : rulTo P N 0 = true := rfl
theorem rulTo_succ {P N : Nat → ByteArray} {k : Nat} (h : rulTo P N k = true) (h1 : prefixOk (P k) = true) (h2 : name (N k) = true) (h3 : ∀ j, j < k → P j ≠ P k) : rulTo P N (k + 1) = true :=
  (rulTo_iff P N (k + 1)).2 fun i hi => by
    by_cases e : i = k
    · subst e; exact ⟨h1, h2, h3⟩
    · exact (rulTo_iff P N k).1 h i (by omega)
theorem rul_no {P N : Nat → ByteArray} {n k : Nat} (hk : k < n) (h : prefixOk (P k) = false ∨ name (N k) = false ∨ ∃ j, j < k ∧ P j = P k) : rul n P N = false := by
  have : rulTo P N n = false := by
    rw [Bool.eq_false_iff]
    intro e
    obtain ⟨h1, h2, h3⟩ := (rulTo_iff P N n).1 e k hk
    rcases h with h | h | ⟨j, hj, h⟩
    · rw [h] at h1; cases h1
    · rw [h] at h2; cases h2
    · exact h3 j hj h
  unfold rul
  rw [this, Bool.and_false]
theorem rul_long {P N : Nat → ByteArray} {n : Nat} (h : 20 < n) : rul n P N = false := by
  unfold rul
  rw [decide_eq_false (by omega)]; rfl
theorem rul_end {P N : Nat → ByteArray} {n : Nat} (h : rulTo P N n = true) : rul n P N = decide (n ≤ 20) := by
  unfold rul
  rw [h, Bool.and_true]
theorem rul_all {P N : Nat → ByteArray} {n : Nat} (h : rulTo P N n = true) (h20 : n ≤ 20) : rul n P N = true := by
  rw [rul_end h]; exact decide_eq_true h20
theorem rul_yes {P N : Nat → ByteArray} {n : Nat} (h : rul n P N = true) : n ≤ 20 ∧ ∀ i, i < n → prefixOk (P i) = true ∧ name (N i) = true ∧ ∀ k, k < i → P k ≠ P i := by
  unfold rul at h
  rw [Bool.and_eq_true] at h
  exact ⟨of_decide_eq_true h.1, (rulTo_iff P N n).1 h.2⟩
/-- Rules that agree are valid together. -/
theorem rul_congr {P N P' N' : Nat → ByteArray} {n : Nat} (h : ∀ i, i < n → P i = P' i ∧ N i = N' i) : rul n P N = rul n P' N' := by
  have e : rulTo P N n = rulTo P' N' n := by
    rw [Bool.eq_iff_iff, rulTo_iff, rulTo_iff]
    constructor
    · intro g i hi
      obtain ⟨g1, g2, g3⟩ := g i hi
      obtain ⟨e1, e2⟩ := h i hi
      refine ⟨by rw [← e1]; exact g1, by rw [← e2]; exact g2, fun k hk => ?_⟩
      rw [← e1, ← (h k (by omega)).1]; exact g3 k hk
    · intro g i hi
      obtain ⟨g1, g2, g3⟩ := g i hi
      obtain ⟨e1, e2⟩ := h i hi
      refine ⟨by rw [e1]; exact g1, by rw [e2]; exact g2, fun k hk => ?_⟩
      rw [e1, (h k (by omega)).1]; exact g3 k hk
  unfold rul
  rw [e]
end Go.Proofs.Ytkbebpadbdhnhaa.M
