/-
  Plain functions on letters: as a list, and divided by the beginning of their codes. No program is named here.
-/
import Derived.Test.YtkbebpadbdhnhaaLetM
namespace Go.Proofs.Ytkbebpadbdhnhaa.M

/-- The first k letters. -/
def lst (I : Nat → Int) (C : Nat → ByteArray) (k : Nat) : List (Int × ByteArray) := (List.range k).map fun i => (I i, C i)
theorem lst_succ (I : Nat → Int) (C : Nat → ByteArray) (k : Nat) : lst I C (k + 1) = lst I C k ++ [(I k, C k)] := by
  unfold lst
  rw [List.range_succ, List.map_append]
  rfl
theorem lst_length (I : Nat → Int) (C : Nat → ByteArray) (k : Nat) : (lst I C k).length = k := by simp [lst]
/-- A code begins with a prefix. -/
def begins (c p : ByteArray) : Bool := decide (p.size ≤ c.size) && decide (c.extract 0 p.size = p)
theorem begins_short {c p : ByteArray} (h : c.size < p.size) : begins c p = false := by
  unfold begins
  rw [decide_eq_false (by omega)]; rfl
theorem begins_long {c p : ByteArray} (h : p.size ≤ c.size) : begins c p = decide (c.extract 0 p.size = p) := by
  unfold begins
  rw [decide_eq_true h]; rfl
theorem list_eq (a b : ByteArray) : (a.toList == b.toList) = decide (a = b) := by
  by_cases h : a = b
  · subst h; simp
  · rw [decide_eq_false h, beq_eq_false_iff_ne]
    intro e
    rw [ByteArray.toList_eq, ByteArray.toList_eq] at e
    exact h (ByteArray.ext (Array.toList_inj.1 e))
/-- The letters whose codes begin with a prefix, and the others. -/
def withP (p : ByteArray) (L : List (Int × ByteArray)) : List (Int × ByteArray) := L.filter fun x => begins x.2 p
def sansP (p : ByteArray) (L : List (Int × ByteArray)) : List (Int × ByteArray) := L.filter fun x => !begins x.2 p
theorem split_yes {p : ByteArray} {I : Nat → Int} {C : Nat → ByteArray} {k : Nat} (h : begins (C k) p = true) : withP p (lst I C (k + 1)) = withP p (lst I C k) ++ [(I k, C k)] ∧ sansP p (lst I C (k + 1)) = sansP p (lst I C k) := by
  unfold withP sansP
  rw [lst_succ, List.filter_append, List.filter_append]
  simp [h]
theorem split_no {p : ByteArray} {I : Nat → Int} {C : Nat → ByteArray} {k : Nat} (h : begins (C k) p = false) : withP p (lst I C (k + 1)) = withP p (lst I C k) ∧ sansP p (lst I C (k + 1)) = sansP p (lst I C k) ++ [(I k, C k)] := by
  unfold withP sansP
  rw [lst_succ, List.filter_append, List.filter_append]
  simp [h]
theorem withP_le (p : ByteArray) (I : Nat → Int) (C : Nat → ByteArray) (k : Nat) : (withP p (lst I C k)).length ≤ k := by
  have := List.length_filter_le (fun x : Int × ByteArray => begins x.2 p) (lst I C k)
  rw [lst_length] at this
  exact this
theorem sansP_le (p : ByteArray) (I : Nat → Int) (C : Nat → ByteArray) (k : Nat) : (sansP p (lst I C k)).length ≤ k := by
  have := List.length_filter_le (fun x : Int × ByteArray => !begins x.2 p) (lst I C k)
  rw [lst_length] at this
  exact this
/-- The letters whose codes are wanted, and the others. -/
def withF (f : ByteArray → Bool) (L : List (Int × ByteArray)) : List (Int × ByteArray) := L.filter fun x => f x.2
def sansF (f : ByteArray → Bool) (L : List (Int × ByteArray)) : List (Int × ByteArray) := L.filter fun x => !f x.2
theorem filt_yes {f : ByteArray → Bool} {I : Nat → Int} {C : Nat → ByteArray} {k : Nat} (h : f (C k) = true) : withF f (lst I C (k + 1)) = withF f (lst I C k) ++ [(I k, C k)] ∧ sansF f (lst I C (k + 1)) = sansF f (lst I C k) := by
  unfold withF sansF
  rw [lst_succ, List.filter_append, List.filter_append]
  simp [h]
theorem filt_no {f : ByteArray → Bool} {I : Nat → Int} {C : Nat → ByteArray} {k : Nat} (h : f (C k) = false) : withF f (lst I C (k + 1)) = withF f (lst I C k) ∧ sansF f (lst I C (k + 1)) = sansF f (lst I C k) ++ [(I k, C k)] := by
  unfold withF sansF
  rw [lst_succ, List.filter_append, List.filter_append]
  simp [h]
theorem withF_le (f : ByteArray → Bool) (I : Nat → Int) (C : Nat → ByteArray) (k : Nat) : (withF f (lst I C k)).length ≤ k := by
  have := List.length_filter_le (fun x : Int × ByteArray => f x.2) (lst I C k)
  rw [lst_length] at this
  exact this
theorem sansF_le (f : ByteArray → Bool) (I : Nat → Int) (C : Nat → ByteArray) (k : Nat) : (sansF f (lst I C k)).length ≤ k := by
  have := List.length_filter_le (fun x : Int × ByteArray => !f x.2) (lst I C k)
  rw [lst_length] at this
  exact this
/-- A prefix of codes. -/
def prefixOk (p : ByteArray) : Bool := digs p && decide (p.size ≤ 7)
def splitOk (n : Nat) (I : Nat → Int) (C : Nat → ByteArray) (p : ByteArray) : Bool := batch n I C && prefixOk p
def countP (n : Nat) (I : Nat → Int) (C : Nat → ByteArray) (p : ByteArray) : Int := if splitOk n I C p = true then ((withP p (lst I C n)).length : Int) else -1
theorem countP_no {n : Nat} {I : Nat → Int} {C : Nat → ByteArray} {p : ByteArray} (h : splitOk n I C p = false) : countP n I C p = -1 := if_neg (by rw [h]; decide)
theorem countP_yes {n : Nat} {I : Nat → Int} {C : Nat → ByteArray} {p : ByteArray} (h : splitOk n I C p = true) : countP n I C p = (withP p (lst I C n)).length := if_pos h
end Go.Proofs.Ytkbebpadbdhnhaa.M
