/-
  Plain functions on lists of letters, given by index: numbers and codes. No program is named here.
-/
import Derived.Test.YtekkajgifgnklaaMath
namespace Go.Proofs.Ytekkajgifgnklaa.M
open Go.PlainAid (bt)

/-- The first m letters are letters of a batch: valid ones, of which no two have the same number. -/
def goodTo (I : Nat → Int) (C : Nat → ByteArray) (m : Nat) : Bool := (List.range m).all fun i => (code (C i) && decide (1 ≤ I i ∧ I i ≤ 9999)) && (List.range i).all fun k => decide (I k ≠ I i)
theorem goodTo_iff (I : Nat → Int) (C : Nat → ByteArray) (m : Nat) : goodTo I C m = true ↔ ∀ i, i < m → code (C i) = true ∧ (1 ≤ I i ∧ I i ≤ 9999) ∧ ∀ k, k < i → I k ≠ I i := by
  unfold goodTo
  rw [List.all_eq_true]
  constructor
  · intro h i hi
    have := h i (List.mem_range.2 hi)
    rw [Bool.and_eq_true, Bool.and_eq_true, List.all_eq_true] at this
    exact ⟨this.1.1, of_decide_eq_true this.1.2, fun k hk => of_decide_eq_true (this.2 k (List.mem_range.2 hk))⟩
  · intro h i hi
    obtain ⟨h1, h2, h3⟩ := h i (List.mem_range.1 hi)
    rw [Bool.and_eq_true, Bool.and_eq_true, List.all_eq_true]
    exact ⟨⟨h1, decide_eq_true h2⟩, fun k hk => decide_eq_true (h3 k (List.mem_range.1 hk))⟩
theorem goodTo_zero (I : Nat → Int) (C : Nat → ByteArray) : goodTo I C 0 = true := rfl
theorem goodTo_succ {I : Nat → Int} {C : Nat → ByteArray} {m : Nat} (h : goodTo I C m = true) (h1 : code (C m) = true) (h2 : 1 ≤ I m ∧ I m ≤ 9999) (h3 : ∀ k, k < m → I k ≠ I m) : goodTo I C (m + 1) = true :=
  (goodTo_iff I C (m + 1)).2 fun i hi => by
    by_cases e : i = m
    · subst e; exact ⟨h1, h2, h3⟩
    · exact (goodTo_iff I C m).1 h i (by omega)
/-- Letters are a batch. -/
def batch (n : Nat) (I : Nat → Int) (C : Nat → ByteArray) : Bool := goodTo I C n && decide (n ≤ 60)
theorem batch_long {n : Nat} {I : Nat → Int} {C : Nat → ByteArray} (h : 60 < n) : batch n I C = false := by
  unfold batch
  rw [decide_eq_false (show ¬ n ≤ 60 by omega), Bool.and_false]
theorem batch_end {n : Nat} {I : Nat → Int} {C : Nat → ByteArray} (h : goodTo I C n = true) : batch n I C = decide (n ≤ 60) := by
  unfold batch
  rw [h, Bool.true_and]
theorem batch_no {n : Nat} {I : Nat → Int} {C : Nat → ByteArray} {k : Nat} (hk : k < n) (h : code (C k) = false ∨ I k < 1 ∨ 9999 < I k ∨ ∃ j, j < k ∧ I j = I k) : batch n I C = false := by
  unfold batch
  have : goodTo I C n = false := by
    rw [Bool.eq_false_iff]
    intro e
    obtain ⟨h1, h2, h3⟩ := (goodTo_iff I C n).1 e k hk
    rcases h with h | h | h | ⟨j, hj, h⟩
    · rw [h] at h1; cases h1
    · omega
    · omega
    · exact h3 j hj h
  rw [this]; rfl
theorem batch_yes {n : Nat} {I : Nat → Int} {C : Nat → ByteArray} (h : batch n I C = true) : n ≤ 60 ∧ ∀ i, i < n → code (C i) = true ∧ (1 ≤ I i ∧ I i ≤ 9999) ∧ ∀ k, k < i → I k ≠ I i := by
  unfold batch at h
  rw [Bool.and_eq_true] at h
  exact ⟨of_decide_eq_true h.2, (goodTo_iff I C n).1 h.1⟩
/-- What is left of a number behind a string. -/
def rest (v : Int) (n : Nat) : Int := if v - n < 0 then -1 else v - n
theorem rest_neg {v : Int} {n : Nat} (h : v - n < 0) : rest v n = -1 := if_pos h
theorem rest_pos {v : Int} {n : Nat} (h : ¬ v - n < 0) : rest v n = v - n := if_neg h
end Go.Proofs.Ytekkajgifgnklaa.M

/-
  Plain functions on letters: as a list, and divided by the beginning of their codes. No program is named here.
-/
namespace Go.Proofs.Ytekkajgifgnklaa.M

/-- The first k letters. -/
def lst (I : Nat → Int) (C : Nat → ByteArray) (k : Nat) : List (Int × ByteArray) := (List.range k).map fun i => (I i, C i)
theorem lst_succ (I : Nat → Int) (C : Nat → ByteArray) (k : Nat) : lst I C (k + 1) = lst I C k ++ [(I k, C k)] := by
  unfold lst
  rw [List.range_succ, List.map_append]
  rfl
theorem lst_length (I : Nat → Int) (C : Nat → ByteArray) (k : Nat) : (lst I C k).length = k := by simp [lst]
/-- A code begins with a prefix. -/
def begins (c p : ByteArray) : Bool := decide (p.size ≤ c.size) && decide (c.extract 0 p.size = p)
theorem begins_short {c p : ByteArray} (h : c.size < p.size) : begins c p = false := by
  unfold begins
  rw [decide_eq_false (by omega)]; rfl
theorem begins_long {c p : ByteArray} (h : p.size ≤ c.size) : begins c p = decide (c.extract 0 p.size = p) := by
  unfold begins
  rw [decide_eq_true h]; rfl
theorem list_eq (a b : ByteArray) : (a.toList == b.toList) = decide (a = b) := by
  by_cases h : a = b
  · subst h; simp
  · rw [decide_eq_false h, beq_eq_false_iff_ne]
    intro e
    rw [ByteArray.toList_eq, ByteArray.toList_eq] at e
    exact h (ByteArray.ext (Array.toList_inj.1 e))
/-- The letters whose codes begin with a prefix, and the others. -/
def withP (p : ByteArray) (L : List (Int × ByteArray)) : List (Int × ByteArray) := L.filter fun x => begins x.2 p
def sansP (p : ByteArray) (L : List (Int × ByteArray)) : List (Int × ByteArray) := L.filter fun x => !begins x.2 p
theorem split_yes {p : ByteArray} {I : Nat → Int} {C : Nat → ByteArray} {k : Nat} (h : begins (C k) p = true) : withP p (lst I C (k + 1)) = withP p (lst I C k) ++ [(I k, C k)] ∧ sansP p (lst I C (k + 1)) = sansP p (lst I C k) := by
  unfold withP sansP
  rw [lst_succ, List.filter_append, List.filter_append]
  simp [h]
theorem split_no {p : ByteArray} {I : Nat → Int} {C : Nat → ByteArray} {k : Nat} (h : begins (C k) p = false) : withP p (lst I C (k + 1)) = withP p (lst I C k) ∧ sansP p (lst I C (k + 1)) = sansP p (lst I C k) ++ [(I k, C k)] := by
  unfold withP sansP
  rw [lst_succ, List.filter_append, List.filter_append]
  simp [h]
theorem withP_le (p : ByteArray) (I : Nat → Int) (C : Nat → ByteArray) (k : Nat) : (withP p (lst I C k)).length ≤ k := by
  have := List.length_filter_le (fun x : Int × ByteArray => begins x.2 p) (lst I C k)
  rw [lst_length] at this
  exact this
theorem sansP_le (p : ByteArray) (I : Nat → Int) (C : Nat → ByteArray) (k : Nat) : (sansP p (lst I C k)).length ≤ k := by
  have := List.length_filter_le (fun x : Int × ByteArray => !begins x.2 p) (lst I C k)
  rw [lst_length] at this
  exact this
/-- The letters whose codes are wanted, and the others. -/
def withF (f : ByteArray → Bool) (L : List (Int × ByteArray)) : List (Int × ByteArray) := L.filter fun x => f x.2
def sansF (f : ByteArray → Bool) (L : List (Int × ByteArray)) : List (Int × ByteArray) := L.filter fun x => !f x.2
theorem filt_yes {f : ByteArray → Bool} {I : Nat → Int} {C : Nat → ByteArray} {k : Nat} (h : f (C k) = true) : withF f (lst I C (k + 1)) = withF f (lst I C k) ++ [(I k, C k)] ∧ sansF f (lst I C (k + 1)) = sansF f (lst I C k) := by
  unfold withF sansF
  rw [lst_succ, List.filter_append, List.filter_append]
  simp [h]
theorem filt_no {f : ByteArray → Bool} {I : Nat → Int} {C : Nat → ByteArray} {k : Nat} (h : f (C k) = false) : withF f (lst I C (k + 1)) = withF f (lst I C k) ∧ sansF f (lst I C (k + 1)) = sansF f (lst I C k) ++ [(I k, C k)] := by
  unfold withF sansF
  rw [lst_succ, List.filter_append, List.filter_append]
  simp [h]
theorem withF_le (f : ByteArray → Bool) (I : Nat → Int) (C : Nat → ByteArray) (k : Nat) : (withF f (lst I C k)).length ≤ k := by
  have := List.length_filter_le (fun x : Int × ByteArray => f x.2) (lst I C k)
  rw [lst_length] at this
  exact this
theorem sansF_le (f : ByteArray → Bool) (I : Nat → Int) (C : Nat → ByteArray) (k : Nat) : (sansF f (lst I C k)).length ≤ k := by
  have := List.length_filter_le (fun x : Int × ByteArray => !f x.2) (lst I C k)
  rw [lst_length] at this
  exact this
/-- A prefix of codes. -/
def prefixOk (p : ByteArray) : Bool := digs p && decide (p.size ≤ 7)
def splitOk (n : Nat) (I : Nat → Int) (C : Nat → ByteArray) (p : ByteArray) : Bool := batch n I C && prefixOk p
def countP (n : Nat) (I : Nat → Int) (C : Nat → ByteArray) (p : ByteArray) : Int := if splitOk n I C p = true then ((withP p (lst I C n)).length : Int) else -1
theorem countP_no {n : Nat} {I : Nat → Int} {C : Nat → ByteArray} {p : ByteArray} (h : splitOk n I C p = false) : countP n I C p = -1 := if_neg (by rw [h]; decide)
theorem countP_yes {n : Nat} {I : Nat → Int} {C : Nat → ByteArray} {p : ByteArray} (h : splitOk n I C p = true) : countP n I C p = (withP p (lst I C n)).length := if_pos h
end Go.Proofs.Ytekkajgifgnklaa.M
