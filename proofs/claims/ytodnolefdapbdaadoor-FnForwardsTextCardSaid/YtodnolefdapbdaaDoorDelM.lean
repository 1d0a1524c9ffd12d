/-
  Orders without those for one code, as plain functions. No program is named here.
-/
import Derived.Test.YtodnolefdapbdaaDoorFRow
import Derived.Test.YtodnolefdapbdaaDoorBookM
namespace Go.Proofs.YtodnolefdapbdaaDoor.M
set_option linter.unusedVariables false

/-- The orders but those from one code. -/
def wo (x : ByteArray) (L : List (ByteArray × ByteArray)) : List (ByteArray × ByteArray) := L.filter fun p => !decide (p.1 = x)
theorem wo_le (x : ByteArray) (L : List (ByteArray × ByteArray)) : (wo x L).length ≤ L.length := List.length_filter_le _ _
theorem wo_take {x : ByteArray} {L : List (ByteArray × ByteArray)} {j : Nat} {p : ByteArray × ByteArray} (h : L[j]? = some p) : wo x (L.take (j + 1)) = if p.1 = x then wo x (L.take j) else wo x (L.take j) ++ [p] := by
  rw [List.take_add_one, h]
  unfold wo
  rw [List.filter_append]
  by_cases e : p.1 = x
  · rw [if_pos e]
    simp [e]
  · rw [if_neg e]
    simp [e]
theorem wo_all {x : ByteArray} {L : List (ByteArray × ByteArray)} (h : ∀ j (hj : j < L.length), L[j].1 ≠ x) : wo x L = L := by
  unfold wo
  rw [List.filter_eq_self]
  intro p hp
  obtain ⟨j, hj, rfl⟩ := List.getElem_of_mem hp
  simp [h j hj]
/-- What stands in the row after j orders have been looked at, of which i stay. -/
def Kept (x : ByteArray) (L A : List (ByteArray × ByteArray)) (i j : Nat) : Prop := A.length = L.length ∧ i < j ∧ A.take i = wo x (L.take j) ∧ A.drop j = L.drop j
theorem Kept.start {x : ByteArray} {L : List (ByteArray × ByteArray)} {i : Nat} (hi : i < L.length) (he : L[i].1 = x) (hno : ∀ j (hj : j < L.length), j < i → L[j].1 ≠ x) : Kept x L L i (i + 1) := by
  refine ⟨rfl, Nat.lt_succ_self i, ?_, rfl⟩
  rw [wo_take (List.getElem?_eq_getElem hi), if_pos he, wo_all]
  intro j hj
  rw [List.length_take] at hj
  rw [List.getElem_take]
  exact hno j (by omega) (by omega)
theorem Kept.at {x : ByteArray} {L A : List (ByteArray × ByteArray)} {i j : Nat} (h : Kept x L A i j) (hj : j < L.length) : A[j]? = L[j]? := by
  have e := congrArg (fun M => M[0]?) h.2.2.2
  simpa using e
theorem Kept.skip {x : ByteArray} {L A : List (ByteArray × ByteArray)} {i j : Nat} {p : ByteArray × ByteArray} (h : Kept x L A i j) (hp : L[j]? = some p) (he : p.1 = x) : Kept x L A i (j + 1) := by
  obtain ⟨h1, h2, h3, h4⟩ := h
  refine ⟨h1, by omega, ?_, ?_⟩
  · rw [wo_take hp, if_pos he]; exact h3
  · have := congrArg (List.drop 1) h4
    rw [List.drop_drop, List.drop_drop] at this
    exact this
theorem Kept.keep {x : ByteArray} {L A : List (ByteArray × ByteArray)} {i j : Nat} {p : ByteArray × ByteArray} (h : Kept x L A i j) (hj : j < L.length) (hp : L[j]? = some p) (he : p.1 ≠ x) : Kept x L (A.set i p) (i + 1) (j + 1) := by
  obtain ⟨h1, h2, h3, h4⟩ := h
  refine ⟨by rw [List.length_set]; exact h1, by omega, ?_, ?_⟩
  · rw [wo_take hp, if_neg he, ← h3, List.take_add_one, List.getElem?_set_self (by omega), List.take_set_of_le (Nat.le_refl i)]
    rfl
  · rw [List.drop_set_of_lt (by omega)]
    have := congrArg (List.drop 1) h4
    rw [List.drop_drop, List.drop_drop] at this
    exact this
theorem Kept.done {x : ByteArray} {L A : List (ByteArray × ByteArray)} {i : Nat} (h : Kept x L A i L.length) : A.take i = wo x L ∧ (wo x L).length = i := by
  obtain ⟨h1, h2, h3, _⟩ := h
  rw [List.take_length] at h3
  exact ⟨h3, by rw [← h3, List.length_take]; omega⟩
/-- The orders but the one at an index. -/
def woAt (F T : Nat → ByteArray) (k : Int) : Nat → List (ByteArray × ByteArray)
  | 0 => []
  | j + 1 => if (j : Int) = k then woAt F T k j else woAt F T k j ++ [(F j, T j)]
theorem woAt_le (F T : Nat → ByteArray) (k : Int) : ∀ n, (woAt F T k n).length ≤ n
  | 0 => Nat.le_refl 0
  | j + 1 => by
    have := woAt_le F T k j
    unfold woAt
    split
    · omega
    · rw [List.length_append]
      show _ + 1 ≤ j + 1
      omega
theorem wo_flst (x : ByteArray) (F T : Nat → ByteArray) (j : Nat) : wo x (flst F T (j + 1)) = if F j = x then wo x (flst F T j) else wo x (flst F T j) ++ [(F j, T j)] := by
  rw [flst_succ]
  unfold wo
  rw [List.filter_append]
  by_cases e : F j = x
  · rw [if_pos e]
    simp [e]
  · rw [if_neg e]
    simp [e]
theorem woAt_eq {F T : Nat → ByteArray} {k : Int} {x : ByteArray} : ∀ {n : Nat}, (∀ j, j < n → ((j : Int) = k ↔ F j = x)) → woAt F T k n = wo x (flst F T n)
  | 0, _ => rfl
  | j + 1, h => by
    rw [wo_flst]
    unfold woAt
    have ih := woAt_eq (T := T) (n := j) (fun i hi => h i (by omega))
    have hj := h j (by omega)
    by_cases e : F j = x
    · rw [if_pos e, if_pos (hj.2 e)]; exact ih
    · rw [if_neg e, if_neg (fun e2 => e (hj.1 e2)), ih]
/-- Where the codes are all different, the order for a code is one. -/
theorem rank_only {F : Nat → ByteArray} {n : Nat} (hd : ∀ k, k < n → ∀ j, j < k → F j ≠ F k) (x : ByteArray) : ∀ j, j < n → ((j : Int) = rankTo F x n ↔ F j = x) := by
  intro j hj
  rcases rank_cases F x n with ⟨h1, h2⟩ | ⟨k, hk, h1, h2, h3⟩
  · rw [h1]
    exact ⟨fun e => absurd e (by omega), fun e => absurd e (h2 j hj)⟩
  · rw [h3]
    refine ⟨fun e => ?_, fun e => ?_⟩
    · have : j = k := by omega
      rw [this]; exact h1
    · have : j = k := by
        rcases Nat.lt_trichotomy j k with h | h | h
        · exact absurd e (h2 j h)
        · exact h
        · exact absurd (h1.trans e.symm) (hd j hj k h)
      omega
/-- A list has a string. -/
def has (s : ByteArray) (L : List ByteArray) : Bool := L.any fun x => decide (x = s)
theorem has_iff {s : ByteArray} {L : List ByteArray} : has s L = true ↔ s ∈ L := by
  unfold has
  rw [List.any_eq_true]
  constructor
  · rintro ⟨x, hx, e⟩
    rw [← of_decide_eq_true e]; exact hx
  · exact fun h => ⟨s, h, decide_eq_true rfl⟩
theorem has_no {s : ByteArray} {L : List ByteArray} (h : ¬ s ∈ L) : has s L = false := by
  cases e : has s L
  · rfl
  · exact absurd (has_iff.1 e) h
end Go.Proofs.YtodnolefdapbdaaDoor.M
