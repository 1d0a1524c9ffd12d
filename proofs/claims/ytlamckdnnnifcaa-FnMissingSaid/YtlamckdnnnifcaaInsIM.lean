/-
  Numbers put into an ascending list, one after the other: that is the sorted list. No program is named here.
-/
import Derived.Test.YtlamckdnnnifcaaPureA
namespace Go.Proofs.Ytlamckdnnnifcaa.M
set_option linter.unusedVariables false

def lti (a b : Int) : Bool := decide (a < b)
theorem lti_le (a b : Int) : lti a b = false ↔ b ≤ a := by unfold lti; rw [decide_eq_false_iff_not]; omega
def insLi (s : Int) : List Int → List Int
  | [] => [s]
  | x :: L => if lti s x then s :: x :: L else x :: insLi s L
/-- A number is put in as soon as a greater one is met. -/
def insBi (s : Int) (L : List Int) : Bool := L.any fun x => lti s x
def insOi (s : Int) (L : List Int) : List Int := if insBi s L then insLi s L else L
theorem insLi_none {s : Int} : ∀ {L : List Int}, insBi s L = false → insLi s L = L ++ [s]
  | [], _ => rfl
  | x :: L, h => by
    unfold insBi at h
    rw [List.any_cons, Bool.or_eq_false_iff] at h
    unfold insLi
    rw [h.1, if_neg (by decide)]
    show x :: insLi s L = x :: (L ++ [s])
    rw [insLi_none (L := L) h.2]
theorem insLi_more {s x : Int} : ∀ {L : List Int}, insBi s L = true → insLi s (L ++ [x]) = insLi s L ++ [x]
  | [], h => by cases h
  | y :: L, h => by
    show insLi s (y :: (L ++ [x])) = insLi s (y :: L) ++ [x]
    unfold insLi
    by_cases e : lti s y = true
    · rw [if_pos e, if_pos e]; rfl
    · rw [if_neg e, if_neg e]
      unfold insBi at h
      rw [List.any_cons] at h
      have h2 : insBi s L = true := by
        unfold insBi
        cases h3 : lti s y
        · rw [h3] at h; exact h
        · exact absurd h3 e
      show y :: insLi s (L ++ [x]) = y :: (insLi s L ++ [x])
      rw [insLi_more h2]
theorem insLi_here {s x : Int} : ∀ {L : List Int}, insBi s L = false → lti s x = true → insLi s (L ++ [x]) = L ++ [s] ++ [x]
  | [], _, hx => by
    show insLi s [x] = _
    unfold insLi
    rw [if_pos hx]; rfl
  | y :: L, h, hx => by
    unfold insBi at h
    rw [List.any_cons, Bool.or_eq_false_iff] at h
    show insLi s (y :: (L ++ [x])) = _
    unfold insLi
    rw [h.1, if_neg (by decide)]
    show y :: insLi s (L ++ [x]) = y :: (L ++ [s] ++ [x])
    rw [insLi_here (L := L) h.2 hx]
theorem insBi_more (s x : Int) (L : List Int) : insBi s (L ++ [x]) = (insBi s L || lti s x) := by
  unfold insBi
  rw [List.any_append]
  simp
theorem insOi_done {s x : Int} {L : List Int} (h : insBi s L = true) : insOi s (L ++ [x]) = insOi s L ++ [x] ∧ insBi s (L ++ [x]) = true := by
  have hb : insBi s (L ++ [x]) = true := by rw [insBi_more, h]; rfl
  exact ⟨by unfold insOi; rw [if_pos hb, if_pos h]; exact insLi_more h, hb⟩
theorem insOi_here {s x : Int} {L : List Int} (h : insBi s L = false) (hx : lti s x = true) : insOi s (L ++ [x]) = insOi s L ++ [s] ++ [x] ∧ insBi s (L ++ [x]) = true := by
  have hb : insBi s (L ++ [x]) = true := by rw [insBi_more, h, hx]; rfl
  refine ⟨?_, hb⟩
  unfold insOi
  rw [if_pos hb, h, if_neg (by decide)]
  exact insLi_here h hx
theorem insOi_on {s x : Int} {L : List Int} (h : insBi s L = false) (hx : lti s x = false) : insOi s (L ++ [x]) = insOi s L ++ [x] ∧ insBi s (L ++ [x]) = false := by
  have hb : insBi s (L ++ [x]) = false := by rw [insBi_more, h, hx]; rfl
  refine ⟨?_, hb⟩
  unfold insOi
  rw [hb, h, if_neg (by decide), if_neg (by decide)]
theorem insOi_yes {s : Int} {L : List Int} (h : insBi s L = true) : insLi s L = insOi s L := by unfold insOi; rw [if_pos h]
theorem insOi_no {s : Int} {L : List Int} (h : insBi s L = false) : insLi s L = insOi s L ++ [s] := by
  unfold insOi
  rw [h, if_neg (by decide)]
  exact insLi_none h
theorem insOi_len (s : Int) (L : List Int) : (insOi s L).length ≤ L.length + 1 := by
  cases h : insBi s L
  · unfold insOi
    rw [h, if_neg (by decide)]; omega
  · have : ∀ L : List Int, (insLi s L).length = L.length + 1 := fun L => by
      induction L with
      | nil => rfl
      | cons x L ih =>
        unfold insLi
        split
        · rfl
        · show (insLi s L).length + 1 = _
          rw [ih]; rfl
    rw [← insOi_yes h, this]; exact Nat.le_refl _
theorem insLi_perm (s : Int) : ∀ L : List Int, (insLi s L).Perm (s :: L)
  | [] => List.Perm.refl _
  | x :: L => by
    unfold insLi
    split
    · exact List.Perm.refl _
    · exact ((insLi_perm s L).cons x).trans (List.Perm.swap s x L)
/-- Ascending. -/
def Upi (L : List Int) : Prop := L.Pairwise fun a b => a ≤ b
theorem le_of_lti {a b : Int} (h : lti a b = true) : a ≤ b := by
  have := of_decide_eq_true h
  omega
theorem insLi_up {s : Int} : ∀ {L : List Int}, Upi L → Upi (insLi s L)
  | [], _ => List.pairwise_singleton _ _
  | x :: L, h => by
    have h' := h
    unfold Upi at h
    rw [List.pairwise_cons] at h
    unfold insLi
    split
    · rename_i hl
      unfold Upi
      rw [List.pairwise_cons]
      refine ⟨fun y hy => ?_, h'⟩
      rcases List.mem_cons.1 hy with rfl | hy
      · exact le_of_lti hl
      · exact Int.le_trans (le_of_lti hl) (h.1 y hy)
    · rename_i hl
      unfold Upi
      rw [List.pairwise_cons]
      refine ⟨fun y hy => ?_, insLi_up h.2⟩
      rcases List.mem_cons.1 ((insLi_perm s L).mem_iff.1 hy) with rfl | hy
      · exact (lti_le _ _).1 (by simpa using hl)
      · exact h.1 y hy
/-- All numbers of a list, put in one after the other. -/
def insAlli (L : List Int) : List Int := L.foldl (fun acc s => insLi s acc) []
theorem insAlli_more (L : List Int) (s : Int) : insAlli (L ++ [s]) = insLi s (insAlli L) := by
  unfold insAlli
  rw [List.foldl_append]; rfl
theorem insAlli_both : ∀ (L acc : List Int), Upi acc → Upi (L.foldl (fun acc s => insLi s acc) acc) ∧ (L.foldl (fun acc s => insLi s acc) acc).Perm (L ++ acc)
  | [], acc, h => ⟨h, List.Perm.refl _⟩
  | s :: L, acc, h => by
    obtain ⟨h1, h2⟩ := insAlli_both L (insLi s acc) (insLi_up h)
    exact ⟨h1, h2.trans (((insLi_perm s acc).append_left L).trans List.perm_middle)⟩
theorem insAlli_up (L : List Int) : Upi (insAlli L) := (insAlli_both L [] List.Pairwise.nil).1
theorem insAlli_perm (L : List Int) : (insAlli L).Perm L := by
  have := (insAlli_both L [] List.Pairwise.nil).2
  rw [List.append_nil] at this
  exact this
theorem insAlli_len (L : List Int) : (insAlli L).length = L.length := (insAlli_perm L).length_eq
theorem insAlli_sort (L : List Int) : L.mergeSort (fun x y => decide (x ≤ y)) = insAlli L := by
  refine List.Perm.eq_of_pairwise (le := fun a b => decide (a ≤ b) = true) ?_ ?_ ?_ ?_
  · intro a b _ _ h1 h2
    exact Int.le_antisymm (of_decide_eq_true h1) (of_decide_eq_true h2)
  · refine List.pairwise_mergeSort ?_ ?_ _
    · intro a b c h1 h2
      exact decide_eq_true (Int.le_trans (of_decide_eq_true h1) (of_decide_eq_true h2))
    · intro a b
      rcases Int.le_total a b with h | h
      · rw [decide_eq_true h]; rfl
      · rw [decide_eq_true h, Bool.or_true]
  · exact (insAlli_up L).imp fun h => decide_eq_true h
  · exact (List.mergeSort_perm _ _).trans (insAlli_perm L).symm
end Go.Proofs.Ytlamckdnnnifcaa.M
