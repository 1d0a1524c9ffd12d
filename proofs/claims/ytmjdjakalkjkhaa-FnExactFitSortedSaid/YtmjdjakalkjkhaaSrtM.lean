/-
  The indices of numbers, the greatest first: put in one by one. No program is named here.
-/
import Derived.Test.YtmjdjakalkjkhaaTrkM
namespace Go.Proofs.Ytmjdjakalkjkhaa.MW
set_option linter.unusedVariables false

/-- The place of the index x among the first j of D. -/
def posTo (W D : List Int) (x : Nat) : Nat → Nat
  | 0 => 0
  | j + 1 => if gz W (gz D j).toNat < gz W x then posTo W D x j else j + 1
theorem posTo_le (W D : List Int) (x : Nat) : ∀ j, posTo W D x j ≤ j
  | 0 => Nat.le_refl 0
  | j + 1 => by
    unfold posTo
    split
    · have := posTo_le W D x j; omega
    · omega
theorem posTo_go {W D : List Int} {x j : Nat} (h : gz W (gz D j).toNat < gz W x) : posTo W D x (j + 1) = posTo W D x j := if_pos h
theorem posTo_stop {W D : List Int} {x j : Nat} (h : ¬ gz W (gz D j).toNat < gz W x) : posTo W D x (j + 1) = j + 1 := if_neg h
/-- A list by its elements. -/
def mk (n : Nat) (f : Nat → Int) : List Int := (List.range n).map f
theorem mk_length (n : Nat) (f : Nat → Int) : (mk n f).length = n := by simp [mk]
theorem gz_mk {n : Nat} {f : Nat → Int} {t : Nat} (h : t < n) : gz (mk n f) t = f t := by rw [gz_at (by rw [mk_length]; exact h)]; simp [mk]
theorem mk_eq {n : Nat} {f : Nat → Int} {L : List Int} (hl : L.length = n) (h : ∀ t, t < n → gz L t = f t) : L = mk n f :=
  gz_ext (by rw [hl, mk_length]) fun t ht => by rw [gz_mk (by omega)]; exact h t (by omega)
/-- The first i indices, sorted. -/
def srt (W : List Int) : Nat → List Int
  | 0 => []
  | i + 1 => (srt W i).take (posTo W (srt W i) i i) ++ [(i : Int)] ++ (srt W i).drop (posTo W (srt W i) i i)
theorem srt_length (W : List Int) : ∀ i, (srt W i).length = i
  | 0 => rfl
  | i + 1 => by
    have := srt_length W i
    have := posTo_le W (srt W i) i i
    show (List.take _ _ ++ _ ++ List.drop _ _).length = _
    rw [List.length_append, List.length_append, List.length_take, List.length_drop]
    simp; omega
def putAt (D : List Int) (i j t : Nat) : Int := if t < j then gz D t else if t = j then (i : Int) else gz D (t - 1)
theorem gz_append_left {A B : List Int} {t : Nat} (h : t < A.length) : gz (A ++ B) t = gz A t := by
  unfold gz; rw [List.getD_eq_getElem?_getD, List.getElem?_append_left h, ← List.getD_eq_getElem?_getD]
theorem gz_append_right {A B : List Int} {t : Nat} (h : A.length ≤ t) : gz (A ++ B) t = gz B (t - A.length) := by
  unfold gz; rw [List.getD_eq_getElem?_getD, List.getElem?_append_right h, ← List.getD_eq_getElem?_getD]
theorem gz_take {A : List Int} {k t : Nat} (h : t < k) : gz (A.take k) t = gz A t := by
  unfold gz; rw [List.getD_eq_getElem?_getD, List.getElem?_take_of_lt h, ← List.getD_eq_getElem?_getD]
theorem gz_drop (A : List Int) (k t : Nat) : gz (A.drop k) t = gz A (k + t) := by
  unfold gz; rw [List.getD_eq_getElem?_getD, List.getElem?_drop, ← List.getD_eq_getElem?_getD]
theorem gz_put {D : List Int} {i j t : Nat} (hD : D.length = i) (hj : j ≤ i) : gz (D.take j ++ [(i : Int)] ++ D.drop j) t = putAt D i j t := by
  have hl : (D.take j).length = j := by rw [List.length_take]; omega
  unfold putAt
  by_cases h1 : t < j
  · rw [if_pos h1, gz_append_left (by rw [List.length_append]; simp; omega), gz_append_left (by omega), gz_take h1]
  · rw [if_neg h1]
    by_cases h2 : t = j
    · rw [if_pos h2, gz_append_left (by rw [List.length_append]; simp; omega), gz_append_right (by omega), hl, h2]
      simp [gz]
    · rw [if_neg h2, gz_append_right (by rw [List.length_append]; simp; omega), gz_drop]
      congr 1
      rw [List.length_append]; simp; omega
theorem gz_srt_succ (W : List Int) (i t : Nat) : gz (srt W (i + 1)) t = putAt (srt W i) i (posTo W (srt W i) i i) t := gz_put (srt_length W i) (posTo_le _ _ _ _)
/-- All are indices below i. -/
theorem srt_in (W : List Int) : ∀ i t, t < i → 0 ≤ gz (srt W i) t ∧ gz (srt W i) t < i
  | 0, _, h => absurd h (by omega)
  | i + 1, t, h => by
    rw [gz_srt_succ]
    have hp := posTo_le W (srt W i) i i
    unfold putAt
    split
    · have := srt_in W i t (by omega); omega
    · split
      · omega
      · have := srt_in W i (t - 1) (by omega); omega
/-- n indices while the i-th of them is at j, on its way down. -/
def curAt (W : List Int) (i j t : Nat) : Int := if t ≤ i then putAt (srt W i) i j t else (t : Int)
def cur (W : List Int) (n i j : Nat) : List Int := mk n (curAt W i j)
theorem cur_length (W : List Int) (n i j : Nat) : (cur W n i j).length = n := mk_length _ _
theorem gz_cur {W : List Int} {n i j t : Nat} (h : t < n) : gz (cur W n i j) t = curAt W i j t := gz_mk h
theorem cur_in {W : List Int} {n i j t : Nat} (hi : i < n) (hj : j ≤ i) (h : t < n) : 0 ≤ gz (cur W n i j) t ∧ gz (cur W n i j) t < n := by
  rw [gz_cur h]
  unfold curAt putAt
  split
  · split
    · have := srt_in W i t (by omega); omega
    · split
      · omega
      · have := srt_in W i (t - 1) (by omega); omega
  · omega
theorem cur_j {W : List Int} {n i j : Nat} (hi : i < n) (hj : j ≤ i) : gz (cur W n i j) j = i := by
  rw [gz_cur (by omega)]
  unfold curAt putAt
  rw [if_pos hj, if_neg (by omega), if_pos rfl]
theorem cur_before {W : List Int} {n i j : Nat} (hi : i < n) (hj : j + 1 ≤ i) : gz (cur W n i (j + 1)) j = gz (srt W i) j := by
  rw [gz_cur (by omega)]
  unfold curAt putAt
  rw [if_pos (by omega), if_pos (by omega)]
/-- Two neighbors are exchanged. -/
theorem cur_swap {W : List Int} {n i j : Nat} (hi : i < n) (hj : j + 1 ≤ i) : ((cur W n i (j + 1)).set (j + 1) (gz (srt W i) j)).set j (i : Int) = cur W n i j := by
  apply gz_ext
  · rw [List.length_set, List.length_set, cur_length, cur_length]
  · intro t ht
    rw [List.length_set, List.length_set, cur_length] at ht
    by_cases e : j = t
    · subst e
      rw [gz_set_self (by rw [List.length_set, cur_length]; exact ht), cur_j hi (by omega)]
    · rw [gz_set_ne e]
      by_cases e2 : j + 1 = t
      · subst e2
        rw [gz_set_self (by rw [cur_length]; exact ht), gz_cur ht]
        unfold curAt putAt
        rw [if_pos (by omega), if_neg (by omega), if_neg (by omega)]
        rfl
      · rw [gz_set_ne e2, gz_cur ht, gz_cur ht]
        unfold curAt putAt
        by_cases h1 : t ≤ i
        · rw [if_pos h1, if_pos h1]
          by_cases h2 : t < j
          · rw [if_pos (by omega), if_pos h2]
          · rw [if_neg (by omega), if_neg (by omega), if_neg h2, if_neg (by omega)]
        · rw [if_neg h1, if_neg h1]
theorem cur_end {W : List Int} {n i : Nat} (hi : i + 1 < n) : cur W n i (posTo W (srt W i) i i) = cur W n (i + 1) (i + 1) := by
  have hp := posTo_le W (srt W i) i i
  apply gz_ext
  · rw [cur_length, cur_length]
  · intro t ht
    rw [cur_length] at ht
    rw [gz_cur ht, gz_cur ht]
    unfold curAt
    by_cases h1 : t ≤ i
    · rw [if_pos h1, if_pos (by omega), ← gz_srt_succ]
      unfold putAt
      rw [if_pos (by omega)]
    · rw [if_neg h1]
      by_cases h2 : t ≤ i + 1
      · rw [if_pos h2]
        unfold putAt
        rw [if_neg (by omega), if_pos (by omega)]
        omega
      · rw [if_neg h2]
theorem cur_last {W : List Int} {n i : Nat} (hi : i + 1 = n) : cur W n i (posTo W (srt W i) i i) = srt W n := by
  subst hi
  apply gz_ext
  · rw [cur_length, srt_length]
  · intro t ht
    rw [cur_length] at ht
    rw [gz_cur ht, gz_srt_succ]
    unfold curAt
    rw [if_pos (by omega)]
theorem cur_first (W : List Int) {n : Nat} (hn : 1 < n) : cur W n 1 1 = mk n fun t => (t : Int) := by
  apply mk_eq (cur_length _ _ _ _)
  intro t ht
  rw [gz_cur ht]
  unfold curAt putAt
  by_cases h : t ≤ 1
  · rw [if_pos h]
    by_cases h2 : t < 1
    · rw [if_pos h2]
      obtain rfl : t = 0 := by omega
      rfl
    · obtain rfl : t = 1 := by omega
      rfl
  · rw [if_neg h]
theorem srt_zero (W : List Int) : srt W 0 = [] := rfl
theorem srt_one (W : List Int) : srt W 1 = [0] := rfl
/-- What FitSorted returns. -/
def fitSorted (L : List Int) (q : Int) : List Int := if wOk L q = true then fGiven L q (srt L L.length) L.length else []
theorem fitSorted_no {L : List Int} {q : Int} (h : wOk L q = false) : fitSorted L q = [] := by unfold fitSorted; rw [h]; rfl
theorem fitSorted_yes {L : List Int} {q : Int} (h : wOk L q = true) : fitSorted L q = fGiven L q (srt L L.length) L.length := by unfold fitSorted; rw [h]; rfl
theorem fitSorted_le (L : List Int) (q : Int) : (fitSorted L q).length ≤ 8 := by
  cases h : wOk L q
  · rw [fitSorted_no h]; exact Nat.zero_le _
  · rw [fitSorted_yes h, fGiven_length]; exact ((wOk_iff L q).1 h).2.1
end Go.Proofs.Ytmjdjakalkjkhaa.MW
