/-
  Strings put into an ascending list, one after the other: that is the sorted list. No program is named here.
-/
import Derived.Test.YtbfbbpmddgfeiaaSortM
import Derived.Test.YtbfbbpmddgfeiaaBookM
import Derived.Sort.Walk0
namespace Go.Proofs.Ytbfbbpmddgfeiaa.M
set_option linter.unusedVariables false

/-- A string's bytes. -/
def bl (s : ByteArray) : List UInt8 := s.data.toList
theorem bl_inj {a b : ByteArray} (h : bl a = bl b) : a = b := ByteArray.ext (Array.toList_inj.1 h)
theorem less_lt (a b : ByteArray) : less a b = decide (bl a < bl b) := by
  unfold less
  rw [ByteArray.toList_eq, ByteArray.toList_eq, Go.Proofs.bytesLess_eq]
  rfl
theorem less_le (a b : ByteArray) : less a b = false ↔ bl b ≤ bl a := by
  rw [less_lt, decide_eq_false_iff_not]
  exact Iff.rfl
def insL (s : ByteArray) : List ByteArray → List ByteArray
  | [] => [s]
  | x :: L => if less s x then s :: x :: L else x :: insL s L
/-- A string is put in as soon as a greater one is met. -/
def insB (s : ByteArray) (L : List ByteArray) : Bool := L.any fun x => less s x
def insO (s : ByteArray) (L : List ByteArray) : List ByteArray := if insB s L then insL s L else L
theorem insL_none {s : ByteArray} : ∀ {L : List ByteArray}, insB s L = false → insL s L = L ++ [s]
  | [], _ => rfl
  | x :: L, h => by
    unfold insB at h
    rw [List.any_cons, Bool.or_eq_false_iff] at h
    unfold insL
    rw [h.1, if_neg (by decide)]
    show x :: insL s L = x :: (L ++ [s])
    rw [insL_none (L := L) h.2]
theorem insL_more {s x : ByteArray} : ∀ {L : List ByteArray}, insB s L = true → insL s (L ++ [x]) = insL s L ++ [x]
  | [], h => by cases h
  | y :: L, h => by
    show insL s (y :: (L ++ [x])) = insL s (y :: L) ++ [x]
    unfold insL
    by_cases e : less s y = true
    · rw [if_pos e, if_pos e]; rfl
    · rw [if_neg e, if_neg e]
      unfold insB at h
      rw [List.any_cons] at h
      have h2 : insB s L = true := by
        unfold insB
        cases h3 : less s y
        · rw [h3] at h; exact h
        · exact absurd h3 e
      show y :: insL s (L ++ [x]) = y :: (insL s L ++ [x])
      rw [insL_more h2]
theorem insL_here {s x : ByteArray} : ∀ {L : List ByteArray}, insB s L = false → less s x = true → insL s (L ++ [x]) = L ++ [s] ++ [x]
  | [], _, hx => by
    show insL s [x] = _
    unfold insL
    rw [if_pos hx]; rfl
  | y :: L, h, hx => by
    unfold insB at h
    rw [List.any_cons, Bool.or_eq_false_iff] at h
    show insL s (y :: (L ++ [x])) = _
    unfold insL
    rw [h.1, if_neg (by decide)]
    show y :: insL s (L ++ [x]) = y :: (L ++ [s] ++ [x])
    rw [insL_here (L := L) h.2 hx]
theorem insB_more (s x : ByteArray) (L : List ByteArray) : insB s (L ++ [x]) = (insB s L || less s x) := by
  unfold insB
  rw [List.any_append]
  simp
theorem insO_done {s x : ByteArray} {L : List ByteArray} (h : insB s L = true) : insO s (L ++ [x]) = insO s L ++ [x] ∧ insB s (L ++ [x]) = true := by
  have hb : insB s (L ++ [x]) = true := by rw [insB_more, h]; rfl
  exact ⟨by unfold insO; rw [if_pos hb, if_pos h]; exact insL_more h, hb⟩
theorem insO_here {s x : ByteArray} {L : List ByteArray} (h : insB s L = false) (hx : less s x = true) : insO s (L ++ [x]) = insO s L ++ [s] ++ [x] ∧ insB s (L ++ [x]) = true := by
  have hb : insB s (L ++ [x]) = true := by rw [insB_more, h, hx]; rfl
  refine ⟨?_, hb⟩
  unfold insO
  rw [if_pos hb, h, if_neg (by decide)]
  exact insL_here h hx
theorem insO_on {s x : ByteArray} {L : List ByteArray} (h : insB s L = false) (hx : less s x = false) : insO s (L ++ [x]) = insO s L ++ [x] ∧ insB s (L ++ [x]) = false := by
  have hb : insB s (L ++ [x]) = false := by rw [insB_more, h, hx]; rfl
  refine ⟨?_, hb⟩
  unfold insO
  rw [hb, h, if_neg (by decide), if_neg (by decide)]
theorem insO_yes {s : ByteArray} {L : List ByteArray} (h : insB s L = true) : insL s L = insO s L := by unfold insO; rw [if_pos h]
theorem insO_no {s : ByteArray} {L : List ByteArray} (h : insB s L = false) : insL s L = insO s L ++ [s] := by
  unfold insO
  rw [h, if_neg (by decide)]
  exact insL_none h
theorem insO_len (s : ByteArray) (L : List ByteArray) : (insO s L).length ≤ L.length + 1 := by
  cases h : insB s L
  · unfold insO
    rw [h, if_neg (by decide)]; omega
  · have : ∀ L : List ByteArray, (insL s L).length = L.length + 1 := fun L => by
      induction L with
      | nil => rfl
      | cons x L ih =>
        unfold insL
        split
        · rfl
        · show (insL s L).length + 1 = _
          rw [ih]; rfl
    rw [← insO_yes h, this]; exact Nat.le_refl _
theorem insL_perm (s : ByteArray) : ∀ L : List ByteArray, (insL s L).Perm (s :: L)
  | [] => List.Perm.refl _
  | x :: L => by
    unfold insL
    split
    · exact List.Perm.refl _
    · exact ((insL_perm s L).cons x).trans (List.Perm.swap s x L)
/-- Ascending, by the order of the bytes. -/
def Up (L : List ByteArray) : Prop := L.Pairwise fun a b => bl a ≤ bl b
theorem le_of_less {a b : ByteArray} (h : less a b = true) : bl a ≤ bl b := by
  rw [less_lt, decide_eq_true_eq] at h
  exact List.le_of_lt h
theorem insL_up {s : ByteArray} : ∀ {L : List ByteArray}, Up L → Up (insL s L)
  | [], _ => List.pairwise_singleton _ _
  | x :: L, h => by
    have h' := h
    unfold Up at h
    rw [List.pairwise_cons] at h
    unfold insL
    split
    · rename_i hl
      unfold Up
      rw [List.pairwise_cons]
      refine ⟨fun y hy => ?_, h'⟩
      rcases List.mem_cons.1 hy with rfl | hy
      · exact le_of_less hl
      · exact List.le_trans (le_of_less hl) (h.1 y hy)
    · rename_i hl
      unfold Up
      rw [List.pairwise_cons]
      refine ⟨fun y hy => ?_, insL_up h.2⟩
      rcases List.mem_cons.1 ((insL_perm s L).mem_iff.1 hy) with rfl | hy
      · exact (less_le _ _).1 (by simpa using hl)
      · exact h.1 y hy
/-- All strings of a list, put in one after the other. -/
def insAll (L : List ByteArray) : List ByteArray := L.foldl (fun acc s => insL s acc) []
theorem insAll_more (L : List ByteArray) (s : ByteArray) : insAll (L ++ [s]) = insL s (insAll L) := by
  unfold insAll
  rw [List.foldl_append]; rfl
theorem insAll_both : ∀ (L acc : List ByteArray), Up acc → Up (L.foldl (fun acc s => insL s acc) acc) ∧ (L.foldl (fun acc s => insL s acc) acc).Perm (L ++ acc)
  | [], acc, h => ⟨h, List.Perm.refl _⟩
  | s :: L, acc, h => by
    obtain ⟨h1, h2⟩ := insAll_both L (insL s acc) (insL_up h)
    exact ⟨h1, h2.trans (((insL_perm s acc).append_left L).trans List.perm_middle)⟩
theorem insAll_up (L : List ByteArray) : Up (insAll L) := (insAll_both L [] List.Pairwise.nil).1
theorem insAll_perm (L : List ByteArray) : (insAll L).Perm L := by
  have := (insAll_both L [] List.Pairwise.nil).2
  rw [List.append_nil] at this
  exact this
theorem insAll_len (L : List ByteArray) : (insAll L).length = L.length := (insAll_perm L).length_eq
theorem insAll_sort (L : List ByteArray) : (L.map bl).mergeSort (fun x y => decide (x ≤ y)) = (insAll L).map bl := by
  refine List.Perm.eq_of_pairwise (le := fun a b => decide (a ≤ b) = true) ?_ ?_ ?_ ?_
  · intro a b _ _ h1 h2
    exact List.le_antisymm (of_decide_eq_true h1) (of_decide_eq_true h2)
  · refine List.pairwise_mergeSort ?_ ?_ _
    · intro a b c h1 h2
      exact decide_eq_true (List.le_trans (of_decide_eq_true h1) (of_decide_eq_true h2))
    · intro a b
      rcases List.le_total a b with h | h
      · rw [decide_eq_true h]; rfl
      · rw [decide_eq_true h, Bool.or_true]
  · rw [List.pairwise_map]
    exact (insAll_up L).imp fun h => decide_eq_true h
  · exact (List.mergeSort_perm _ _).trans ((insAll_perm L).symm.map bl)
end Go.Proofs.Ytbfbbpmddgfeiaa.M
