/-
  Pairs without those that are told, as plain functions.
-/
import Derived.Test.YtabmbbnfpfkcaaaFRow
namespace Go.Proofs.Ytabmbbnfpfkcaaa.M
set_option linter.unusedVariables false

def wof (d : ByteArray × ByteArray → Bool) (L : List (ByteArray × ByteArray)) : List (ByteArray × ByteArray) := L.filter fun p => !d p
theorem wof_le (d : ByteArray × ByteArray → Bool) (L : List (ByteArray × ByteArray)) : (wof d L).length ≤ L.length := List.length_filter_le _ _
theorem wof_take {d : ByteArray × ByteArray → Bool} {L : List (ByteArray × ByteArray)} {j : Nat} {p : ByteArray × ByteArray} (h : L[j]? = some p) : wof d (L.take (j + 1)) = if d p = true then wof d (L.take j) else wof d (L.take j) ++ [p] := by
  rw [List.take_add_one, h]
  unfold wof
  rw [List.filter_append]
  cases e : d p
  · rw [if_neg (by decide)]; simp [e]
  · rw [if_pos rfl]; simp [e]
theorem wof_all {d : ByteArray × ByteArray → Bool} {L : List (ByteArray × ByteArray)} (h : ∀ j (hj : j < L.length), d L[j] = false) : wof d L = L := by
  unfold wof
  rw [List.filter_eq_self]
  intro p hp
  obtain ⟨j, hj, rfl⟩ := List.getElem_of_mem hp
  simp [h j hj]
/-- What stands in the row after j pairs have been looked at, of which i stay. -/
def KeptF (d : ByteArray × ByteArray → Bool) (L A : List (ByteArray × ByteArray)) (i j : Nat) : Prop := A.length = L.length ∧ i < j ∧ A.take i = wof d (L.take j) ∧ A.drop j = L.drop j
theorem KeptF.start {d : ByteArray × ByteArray → Bool} {L : List (ByteArray × ByteArray)} {i : Nat} (hi : i < L.length) (he : d L[i] = true) (hno : ∀ j (hj : j < L.length), j < i → d L[j] = false) : KeptF d L L i (i + 1) := by
  refine ⟨rfl, Nat.lt_succ_self i, ?_, rfl⟩
  rw [wof_take (List.getElem?_eq_getElem hi), if_pos he, wof_all]
  intro j hj
  rw [List.length_take] at hj
  rw [List.getElem_take]
  exact hno j (by omega) (by omega)
theorem KeptF.at {d : ByteArray × ByteArray → Bool} {L A : List (ByteArray × ByteArray)} {i j : Nat} (h : KeptF d L A i j) (hj : j < L.length) : A[j]? = L[j]? := by
  have e := congrArg (fun M => M[0]?) h.2.2.2
  simpa using e
theorem KeptF.skip {d : ByteArray × ByteArray → Bool} {L A : List (ByteArray × ByteArray)} {i j : Nat} {p : ByteArray × ByteArray} (h : KeptF d L A i j) (hp : L[j]? = some p) (he : d p = true) : KeptF d L A i (j + 1) := by
  obtain ⟨h1, h2, h3, h4⟩ := h
  refine ⟨h1, by omega, ?_, ?_⟩
  · rw [wof_take hp, if_pos he]; exact h3
  · have := congrArg (List.drop 1) h4
    rw [List.drop_drop, List.drop_drop] at this
    exact this
theorem KeptF.keep {d : ByteArray × ByteArray → Bool} {L A : List (ByteArray × ByteArray)} {i j : Nat} {p : ByteArray × ByteArray} (h : KeptF d L A i j) (hj : j < L.length) (hp : L[j]? = some p) (he : d p = false) : KeptF d L (A.set i p) (i + 1) (j + 1) := by
  obtain ⟨h1, h2, h3, h4⟩ := h
  refine ⟨by rw [List.length_set]; exact h1, by omega, ?_, ?_⟩
  · rw [wof_take hp, if_neg (by rw [he]; decide), ← h3, List.take_add_one, List.getElem?_set_self (by omega), List.take_set_of_le (Nat.le_refl i)]
    rfl
  · rw [List.drop_set_of_lt (by omega)]
    have := congrArg (List.drop 1) h4
    rw [List.drop_drop, List.drop_drop] at this
    exact this
theorem KeptF.done {d : ByteArray × ByteArray → Bool} {L A : List (ByteArray × ByteArray)} {i : Nat} (h : KeptF d L A i L.length) : A.take i = wof d L ∧ (wof d L).length = i := by
  obtain ⟨h1, h2, h3, _⟩ := h
  rw [List.take_length] at h3
  exact ⟨h3, by rw [← h3, List.length_take]; omega⟩
/-- The index of the first pair that is told, or -1. -/
def firstF (d : ByteArray × ByteArray → Bool) (L : List (ByteArray × ByteArray)) : Int := match L.findIdx? d with
  | some i => (i : Int)
  | none => -1
theorem firstF_miss {d : ByteArray × ByteArray → Bool} {L : List (ByteArray × ByteArray)} (h : ∀ j (hj : j < L.length), d L[j] = false) : firstF d L = -1 := by
  unfold firstF
  rw [List.findIdx?_eq_none_iff.2 fun p hp => by
    obtain ⟨j, hj, rfl⟩ := List.getElem_of_mem hp
    exact h j hj]
theorem firstF_hit {d : ByteArray × ByteArray → Bool} {L : List (ByteArray × ByteArray)} {i : Nat} (hi : i < L.length) (he : d L[i] = true) (hno : ∀ j (hj : j < L.length), j < i → d L[j] = false) : firstF d L = (i : Int) := by
  unfold firstF
  rw [List.findIdx?_eq_some_iff_getElem.2 ⟨hi, he, fun j hj => by rw [hno j (by omega) hj]; decide⟩]
theorem firstF_cases (d : ByteArray × ByteArray → Bool) (L : List (ByteArray × ByteArray)) : (firstF d L = -1 ∧ ∀ j (hj : j < L.length), d L[j] = false) ∨ ∃ i, ∃ (hi : i < L.length), d L[i] = true ∧ (∀ j (hj : j < L.length), j < i → d L[j] = false) ∧ firstF d L = (i : Int) := by
  by_cases h : ∃ j, ∃ (hj : j < L.length), d L[j] = true
  · right
    obtain ⟨j, hj, e⟩ := h
    induction j using Nat.strongRecOn with
    | ind j ih =>
      by_cases h2 : ∃ i, ∃ (hi : i < j), d (L[i]'(by omega)) = true
      · obtain ⟨i, hi, e2⟩ := h2
        exact ih i hi (by omega) e2
      · have hno : ∀ i (hi : i < L.length), i < j → d L[i] = false := fun i hi hij => by
          cases e3 : d L[i]
          · rfl
          · exact absurd ⟨i, hij, e3⟩ h2
        exact ⟨j, hj, e, hno, firstF_hit hj e hno⟩
  · have hno : ∀ j (hj : j < L.length), d L[j] = false := fun j hj => by
      cases e3 : d L[j]
      · rfl
      · exact absurd ⟨j, hj, e3⟩ h
    exact Or.inl ⟨firstF_miss hno, hno⟩
end Go.Proofs.Ytabmbbnfpfkcaaa.M
