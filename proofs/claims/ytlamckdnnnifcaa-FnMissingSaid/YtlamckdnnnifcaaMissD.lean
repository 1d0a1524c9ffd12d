/-
  What the law of missing letters asks: they are in the one batch alone, ascend, and both batches have as many others.
-/
import Derived.Test.YtlamckdnnnifcaaMiss
import Derived.Test.YtlamckdnnnifcaaSoAll
namespace Go.Proofs.Ytlamckdnnnifcaa
open Go.RowKit
set_option linter.unusedVariables false

theorem M.find_none {I : Nat → Int} {n : Nat} {x : Int} (h : M.among I n x = false) : M.find I n x = -1 := by
  unfold M.find
  have e : (List.range n).find? (fun i => decide (I i = x)) = none := List.find?_eq_none.2 fun j hj e => M.among_no h j (List.mem_range.1 hj) (of_decide_eq_true e)
  rw [e]
theorem M.gone_mem {I J : Nat → Int} {m : Nat} : ∀ k x, x ∈ M.gone I J m k → ∃ i, i < k ∧ I i = x ∧ M.among J m x = false
  | 0, x, h => by cases h
  | k + 1, x, h => by
    cases e : M.among J m (I k)
    · rw [M.gone_out e] at h
      rcases List.mem_append.1 h with h | h
      · obtain ⟨i, hi, h1⟩ := M.gone_mem k x h
        exact ⟨i, by omega, h1⟩
      · have h1 := List.mem_singleton.1 h
        exact ⟨k, by omega, h1.symm, by rw [h1]; exact e⟩
    · rw [M.gone_in e] at h
      obtain ⟨i, hi, h1⟩ := M.gone_mem k x h
      exact ⟨i, by omega, h1⟩
theorem M.gone_nodup {I J : Nat → Int} {m : Nat} {n : Nat} (hI : ∀ i j, i < j → j < n → I i ≠ I j) : ∀ k, k ≤ n → (M.gone I J m k).Pairwise (· ≠ ·)
  | 0, _ => List.Pairwise.nil
  | k + 1, hk => by
    have ih := M.gone_nodup (m := m) (J := J) hI k (by omega)
    cases e : M.among J m (I k)
    · rw [M.gone_out e, List.pairwise_append]
      refine ⟨ih, List.pairwise_singleton _ _, fun x hx y hy => ?_⟩
      obtain ⟨i, hi, rfl, _⟩ := M.gone_mem k x hx
      rw [List.mem_singleton.1 hy]
      exact hI i k hi (by omega)
    · rw [M.gone_in e]; exact ih
theorem M.gone_none {I J : Nat → Int} {m : Nat} : ∀ k, (∀ i, i < k → M.among J m (I i) = true) → M.gone I J m k = []
  | 0, _ => rfl
  | k + 1, h => by rw [M.gone_in (h k (by omega))]; exact M.gone_none k fun i hi => h i (by omega)
/-- The numbers of the first k letters that are among others. -/
def both (I J : Nat → Int) (m : Nat) : Nat → List Int
  | 0 => []
  | k + 1 => if M.among J m (I k) = true then both I J m k ++ [I k] else both I J m k
theorem both_len (I J : Nat → Int) (m : Nat) : ∀ k, (M.gone I J m k).length + (both I J m k).length = k
  | 0 => rfl
  | k + 1 => by
    have ih := both_len I J m k
    cases e : M.among J m (I k)
    · rw [M.gone_out e]
      unfold both
      rw [e, if_neg (by decide), List.length_append, List.length_singleton]
      omega
    · rw [M.gone_in e]
      unfold both
      rw [e, if_pos rfl, List.length_append, List.length_singleton]
      omega
theorem both_mem {I J : Nat → Int} {m : Nat} : ∀ k x, x ∈ both I J m k ↔ ∃ i, i < k ∧ I i = x ∧ M.among J m x = true
  | 0, x => ⟨fun h => (by cases h), fun ⟨i, hi, _⟩ => (by omega)⟩
  | k + 1, x => by
    have ih := both_mem (I := I) (J := J) (m := m) k x
    cases e : M.among J m (I k)
    · unfold both
      rw [e, if_neg (by decide), ih]
      constructor
      · rintro ⟨i, hi, h⟩; exact ⟨i, by omega, h⟩
      · rintro ⟨i, hi, h1, h2⟩
        by_cases hik : i = k
        · subst hik; rw [h1, h2] at e; cases e
        · exact ⟨i, by omega, h1, h2⟩
    · unfold both
      rw [e, if_pos rfl, List.mem_append, ih, List.mem_singleton]
      constructor
      · rintro (⟨i, hi, h⟩ | h)
        · exact ⟨i, by omega, h⟩
        · exact ⟨k, by omega, h.symm, by rw [h]; exact e⟩
      · rintro ⟨i, hi, h1, h2⟩
        by_cases hik : i = k
        · subst hik; exact Or.inr h1.symm
        · exact Or.inl ⟨i, by omega, h1, h2⟩
theorem both_nodup {I J : Nat → Int} {m : Nat} {n : Nat} (hI : ∀ i j, i < j → j < n → I i ≠ I j) : ∀ k, k ≤ n → (both I J m k).Pairwise (· ≠ ·)
  | 0, _ => List.Pairwise.nil
  | k + 1, hk => by
    have ih := both_nodup (m := m) (J := J) hI k (by omega)
    cases e : M.among J m (I k)
    · unfold both
      rw [e, if_neg (by decide)]; exact ih
    · unfold both
      rw [e, if_pos rfl, List.pairwise_append]
      refine ⟨ih, List.pairwise_singleton _ _, fun x hx y hy => ?_⟩
      obtain ⟨i, hi, rfl, _⟩ := (both_mem k x).1 hx
      rw [List.mem_singleton.1 hy]
      exact hI i k hi (by omega)
theorem nodup_le : ∀ (A B : List Int), A.Pairwise (· ≠ ·) → (∀ x ∈ A, x ∈ B) → A.length ≤ B.length
  | [], _, _, _ => Nat.zero_le _
  | x :: A, B, h, hs => by
    obtain ⟨h1, h2⟩ := List.pairwise_cons.1 h
    have hx := hs x (List.mem_cons_self ..)
    have := nodup_le A (B.erase x) h2 fun y hy => (List.mem_erase_of_ne (h1 y hy).symm).2 (hs y (List.mem_cons_of_mem _ hy))
    rw [List.length_erase_of_mem hx] at this
    have := List.length_pos_of_mem hx
    simp only [List.length_cons]
    omega
theorem among_of {J : Nat → Int} {n j : Nat} {x : Int} (hj : j < n) (e : J j = x) : M.among J n x = true := List.any_eq_true.2 ⟨j, List.mem_range.2 hj, decide_eq_true e⟩
theorem both_le {I J : Nat → Int} {n m : Nat} (hI : ∀ i j, i < j → j < n → I i ≠ I j) : (both I J m n).length ≤ (both J I n m).length := by
  refine nodup_le _ _ (both_nodup hI n (Nat.le_refl _)) fun x hx => ?_
  obtain ⟨i, hi, h1, h2⟩ := (both_mem n x).1 hx
  obtain ⟨j, hj, h3⟩ := M.among_yes h2
  exact (both_mem m x).2 ⟨j, hj, h3, among_of hi h1⟩
theorem ids_ne {L : List (Int × ByteArray)} (h : BatchL L) : ∀ i j, i < j → j < L.length → nI L i ≠ nI L j := fun i j hij hj => by
  rw [nI_at hj, nI_at (by omega : i < L.length)]
  exact List.pairwise_iff_getElem.1 (List.pairwise_map.1 h.2.1) i j (by omega) hj hij
theorem miss_law {A B : List (Int × ByteArray)} (hA : BatchL A) (hB : BatchL B) {X Y : List Int} (hX : M.missing A.length (nI A) (nC A) B.length (nI B) (nC B) = X) (hY : M.missing B.length (nI B) (nC B) A.length (nI A) (nC A) = Y) :
    (∀ i (hi : i < X.length), 0 ≤ M.findLetter A.length (nI A) (nC A) X[i] ∧ M.findLetter A.length (nI A) (nC A) X[i] ≤ 60 ∧ M.findLetter B.length (nI B) (nC B) X[i] = -1) ∧ (∀ i (hi : i + 1 < X.length), X[i] < X[i + 1]) ∧ A.length + Y.length = B.length + X.length ∧ X.length ≤ A.length ∧ Y.length ≤ B.length ∧
    M.missing A.length (nI A) (nC A) A.length (nI A.reverse) (nC A.reverse) = [] := by
  have bA := (batchL_list A).2 hA
  have bB := (batchL_list B).2 hB
  rw [M.missing_yes (by rw [bA, bB]; rfl)] at hX hY
  have pX := M.insAlli_perm (M.gone (nI A) (nI B) B.length A.length)
  have uX := M.insAlli_up (M.gone (nI A) (nI B) B.length A.length)
  have lY := M.insAlli_len (M.gone (nI B) (nI A) A.length B.length)
  rw [hX] at pX uX
  rw [hY] at lY
  have lX := pX.length_eq
  have g1 := both_len (nI A) (nI B) B.length A.length
  have g2 := both_len (nI B) (nI A) A.length B.length
  have g3 := both_le (m := B.length) (J := nI B) (ids_ne hA)
  have g4 := both_le (m := A.length) (J := nI A) (ids_ne hB)
  have nX : X.Pairwise (· ≠ ·) := (pX.pairwise_iff (fun h => Ne.symm h)).2 (M.gone_nodup (ids_ne hA) _ (Nat.le_refl _))
  refine ⟨fun i hi => ?_, fun i hi => ?_, by omega, by omega, by omega, ?_⟩
  · obtain ⟨k, hk, e, hn⟩ := M.gone_mem _ _ (pX.mem_iff.1 (List.getElem_mem hi))
    have h1 := find_at hA hk
    rw [e] at h1
    have := hA.2.2
    rw [h1, M.findLetter_yes bB, M.find_none hn]
    exact ⟨by omega, by omega, rfl⟩
  · have h1 := List.pairwise_iff_getElem.1 uX i (i + 1) (by omega) hi (by omega)
    have h2 := List.pairwise_iff_getElem.1 nX i (i + 1) (by omega) hi (by omega)
    omega
  · have hR : BatchL A.reverse := hA.perm (List.reverse_perm A).symm
    have bR := (batchL_list A.reverse).2 hR
    rw [List.length_reverse] at bR
    rw [M.missing_yes (by rw [bA, bR]; rfl), M.gone_none]
    · rfl
    · intro i hi
      have hm : A[i] ∈ A.reverse := List.mem_reverse.2 (List.getElem_mem hi)
      obtain ⟨j, hj, e⟩ := List.getElem_of_mem hm
      refine among_of (j := j) (by rw [List.length_reverse] at hj; exact hj) ?_
      rw [nI_at hj, nI_at hi, e]
end Go.Proofs.Ytlamckdnnnifcaa
