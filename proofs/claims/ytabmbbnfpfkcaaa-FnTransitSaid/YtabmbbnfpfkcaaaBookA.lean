/-
  Orders that are followed, as plain functions. No program is named here.
-/
import Derived.Test.YtabmbbnfpfkcaaaPureA
import Derived.Test.YtabmbbnfpfkcaaaFRow
import Derived.Test.YtabmbbnfpfkcaaaStrA
import Derived.Test.YtabmbbnfpfkcaaaPlan
namespace Go.Proofs.Ytabmbbnfpfkcaaa.M

/-- The code to which letters for a code are sent next. -/
def nextOf (F T : Nat → ByteArray) (n : Nat) (c : ByteArray) : Option ByteArray := if rankTo F c n < 0 then none else some (T (rankTo F c n).toNat)
theorem nextOf_zero (F T : Nat → ByteArray) (c : ByteArray) : nextOf F T 0 c = none := if_pos (by show (-1 : Int) < 0; omega)
theorem rank_cases (S : Nat → ByteArray) (c : ByteArray) (n : Nat) : (M.rankTo S c n = -1 ∧ ∀ j, j < n → S j ≠ c) ∨ ∃ k : Nat, k < n ∧ S k = c ∧ (∀ j, j < k → S j ≠ c) ∧ M.rankTo S c n = (k : Int) := by
  by_cases h : ∃ j, j < n ∧ S j = c
  · right
    obtain ⟨j, hj, e⟩ := h
    induction j using Nat.strongRecOn with
    | ind j ih =>
      by_cases h2 : ∃ i, i < j ∧ S i = c
      · obtain ⟨i, hi, e2⟩ := h2
        exact ih i hi (by omega) e2
      · have hno : ∀ i, i < j → S i ≠ c := fun i hi e2 => h2 ⟨i, hi, e2⟩
        exact ⟨j, hj, e, hno, rank_hit hj e hno⟩
  · left
    have hno : ∀ j, j < n → S j ≠ c := fun j hj e => h ⟨j, hj, e⟩
    exact ⟨rank_miss hno, hno⟩
theorem nextOf_none {F T : Nat → ByteArray} {n : Nat} {c : ByteArray} (h : M.rankTo F c n < 0) : nextOf F T n c = none := if_pos h
theorem nextOf_some {F T : Nat → ByteArray} {n k : Nat} {c : ByteArray} (h : M.rankTo F c n = (k : Int)) : nextOf F T n c = some (T k) := by
  unfold nextOf
  rw [if_neg (by omega), h, Int.toNat_natCast]
theorem nextOf_at {F T : Nat → ByteArray} {n : Nat} {c d : ByteArray} (h : nextOf F T n c = some d) : ∃ k : Nat, k < n ∧ F k = c ∧ (∀ j, j < k → F j ≠ c) ∧ d = T k ∧ M.rankTo F c n = (k : Int) := by
  rcases rank_cases F c n with ⟨e, _⟩ | ⟨k, hk, e1, e2, e3⟩
  · rw [nextOf_none (by omega)] at h; cases h
  · rw [nextOf_some e3] at h
    exact ⟨k, hk, e1, e2, (Option.some.inj h).symm, e3⟩
theorem nextOf_succ {F T : Nat → ByteArray} {k : Nat} (hno : ∀ j, j < k → F j ≠ F k) (c : ByteArray) : nextOf F T (k + 1) c = if c = F k then some (T k) else nextOf F T k c := by
  by_cases e : c = F k
  · subst e
    rw [if_pos rfl]
    exact nextOf_some (rank_hit (Nat.lt_succ_self k) rfl hno)
  · rw [if_neg e]
    rcases rank_cases F c k with ⟨h1, h2⟩ | ⟨i, hi, h1, h2, h3⟩
    · have e1 : nextOf F T k c = none := nextOf_none (by omega)
      rw [e1]
      refine nextOf_none ?_
      rw [rank_miss fun j hj => ?_]
      · omega
      · by_cases e2 : j = k
        · subst e2; exact fun e3 => e e3.symm
        · exact h2 j (by omega)
    · rw [nextOf_some h3]
      exact nextOf_some (rank_hit (by omega) h1 h2)

/-- The code after some orders. -/
def iter (nx : ByteArray → Option ByteArray) : Nat → ByteArray → Option ByteArray
  | 0, c => some c
  | t + 1, c => (iter nx t c).bind nx
theorem iter_add (nx : ByteArray → Option ByteArray) (s : Nat) (c : ByteArray) : ∀ t, iter nx (s + t) c = (iter nx s c).bind (iter nx t)
  | 0 => by
    show iter nx s c = (iter nx s c).bind fun d => some d
    cases iter nx s c <;> rfl
  | t + 1 => by
    show (iter nx (s + t) c).bind nx = _
    rw [iter_add nx s c t]
    cases iter nx s c <;> rfl
theorem iter_one (nx : ByteArray → Option ByteArray) (c : ByteArray) : iter nx 1 c = nx c := rfl
theorem iter_le {nx : ByteArray → Option ByteArray} {s t : Nat} {c : ByteArray} (hs : s ≤ t) (h : (iter nx t c).isSome = true) : (iter nx s c).isSome = true := by
  obtain ⟨u, rfl⟩ : ∃ u, t = s + u := ⟨t - s, by omega⟩
  rw [iter_add] at h
  cases e : iter nx s c with
  | none => rw [e] at h; cases h
  | some d => rfl
/-- What comes to an end never comes to the same code again. -/
theorem iter_apart {nx : ByteArray → Option ByteArray} {t a b : Nat} {c d : ByteArray} (h : iter nx t c = some d) (hd : nx d = none) (hab : a < b) (hb : b ≤ t) : iter nx a c ≠ iter nx b c := by
  intro e
  have h1 : iter nx (b + (t - b)) c = some d := by rw [show b + (t - b) = t by omega]; exact h
  rw [iter_add, ← e, ← iter_add] at h1
  have h2 : iter nx (a + (t - b) + 1) c = none := by
    show (iter nx (a + (t - b)) c).bind nx = none
    rw [h1]; exact hd
  have h3 := iter_le (nx := nx) (s := a + (t - b) + 1) (t := t) (c := c) (by omega) (by rw [h]; rfl)
  rw [h2] at h3
  cases h3
theorem ring_iter {nx : ByteArray → Option ByteArray} {l : Nat} {x : ByteArray} (h : iter nx l x = some x) : ∀ k, iter nx (k * l) x = some x
  | 0 => by rw [Nat.zero_mul]; rfl
  | k + 1 => by rw [Nat.succ_mul, iter_add, ring_iter h k]; exact h
/-- In a ring the follower is caught up with. -/
theorem ring_met {nx : ByteArray → Option ByteArray} {i l : Nat} {c x : ByteArray} (hi : iter nx i c = some x) (hl : iter nx l x = some x) (l0 : 0 < l) :
    ∃ m, i ≤ m ∧ m ≤ (i + 1) * l ∧ iter nx (2 * m + 1) c = iter nx m c ∧ ∀ t, (iter nx t c).isSome = true := by
  have hge : i + 1 ≤ (i + 1) * l := Nat.le_mul_of_pos_right _ l0
  refine ⟨(i + 1) * l - 1, by omega, by omega, ?_, fun t => ?_⟩
  · obtain ⟨q, hq⟩ : ∃ q, (i + 1) * l = i + 1 + q := ⟨(i + 1) * l - (i + 1), by omega⟩
    have hr := ring_iter hl (i + 1)
    have e1 : 2 * ((i + 1) * l - 1) + 1 = i + ((i + 1) * l + q) := by omega
    have e2 : (i + 1) * l - 1 = i + q := by omega
    rw [e1, e2, iter_add, iter_add, hi]
    show iter nx ((i + 1) * l + q) x = iter nx q x
    rw [iter_add, hr]
    rfl
  · refine iter_le (t := i + t * l) ?_ ?_
    · have := Nat.le_mul_of_pos_right t l0
      omega
    · rw [iter_add, hi]
      show (iter nx (t * l) x).isSome = true
      rw [ring_iter hl t]; rfl
theorem pigeon : ∀ (n : Nat) (r : Nat → Nat), (∀ i, i ≤ n → r i < n) → ∃ i j, i < j ∧ j ≤ n ∧ r i = r j
  | 0, _, h => absurd (h 0 (Nat.le_refl 0)) (by omega)
  | n + 1, r, h => by
    by_cases e : ∃ i, i ≤ n ∧ r i = r (n + 1)
    · obtain ⟨i, hi, e⟩ := e
      exact ⟨i, n + 1, by omega, Nat.le_refl _, e⟩
    · have hne : ∀ i, i ≤ n → r i ≠ r (n + 1) := fun i hi e2 => e ⟨i, hi, e2⟩
      have hl := h (n + 1) (Nat.le_refl _)
      obtain ⟨i, j, h1, h2, h3⟩ := pigeon n (fun i => if r i = n then r (n + 1) else r i) fun i hi => by
        have h4 := h i (by omega)
        have h5 := hne i hi
        show (if r i = n then r (n + 1) else r i) < n
        by_cases e2 : r i = n
        · rw [if_pos e2]; omega
        · rw [if_neg e2]; omega
      refine ⟨i, j, h1, by omega, ?_⟩
      have h6 := hne i (by omega)
      have h7 := hne j h2
      change (if r i = n then r (n + 1) else r i) = (if r j = n then r (n + 1) else r j) at h3
      by_cases e2 : r i = n
      · by_cases e3 : r j = n
        · rw [e2, e3]
        · rw [if_pos e2, if_neg e3] at h3
          exact absurd h3.symm h7
      · by_cases e3 : r j = n
        · rw [if_neg e2, if_pos e3] at h3
          exact absurd h3 h6
        · rw [if_neg e2, if_neg e3] at h3
          exact h3
/-- The end and the number of orders, if it comes to an end within some of them. -/
def resFrom (nx : ByteArray → Option ByteArray) : Nat → ByteArray → Nat → Option (ByteArray × Nat)
  | 0, _, _ => none
  | k + 1, c, t => match nx c with
    | none => some (c, t)
    | some d => resFrom nx k d (t + 1)
def res (F T : Nat → ByteArray) (n : Nat) (c : ByteArray) : Option (ByteArray × Nat) := resFrom (nextOf F T n) (n + 1) c 0
theorem resFrom_end {nx : ByteArray → Option ByteArray} {k : Nat} {c : ByteArray} {t : Nat} (h : nx c = none) : resFrom nx (k + 1) c t = some (c, t) := by
  show (match nx c with | none => some (c, t) | some d => resFrom nx k d (t + 1)) = _
  rw [h]
theorem resFrom_step {nx : ByteArray → Option ByteArray} {k : Nat} {c d : ByteArray} {t : Nat} (h : nx c = some d) : resFrom nx (k + 1) c t = resFrom nx k d (t + 1) := by
  show (match nx c with | none => some (c, t) | some d => resFrom nx k d (t + 1)) = _
  rw [h]
theorem resFrom_some {nx : ByteArray → Option ByteArray} {d : ByteArray} {t' : Nat} : ∀ {k : Nat} {c : ByteArray} {t : Nat}, resFrom nx k c t = some (d, t') → ∃ s, t' = t + s ∧ s < k ∧ iter nx s c = some d ∧ nx d = none
  | 0, _, _, h => by cases h
  | k + 1, c, t, h => by
    cases e : nx c with
    | none =>
      rw [resFrom_end e] at h
      have h2 := Option.some.inj h
      injection h2 with h3 h4
      subst h3 h4
      exact ⟨0, by omega, by omega, rfl, e⟩
    | some x =>
      rw [resFrom_step e] at h
      obtain ⟨s, h1, h2, h3, h4⟩ := resFrom_some h
      refine ⟨s + 1, by omega, by omega, ?_, h4⟩
      rw [Nat.add_comm, iter_add, iter_one, e]
      exact h3
theorem resFrom_none {nx : ByteArray → Option ByteArray} : ∀ {k : Nat} {c : ByteArray} {t : Nat}, resFrom nx k c t = none → (iter nx k c).isSome = true
  | 0, _, _, _ => rfl
  | k + 1, c, t, h => by
    cases e : nx c with
    | none => rw [resFrom_end e] at h; cases h
    | some x =>
      rw [resFrom_step e] at h
      have := resFrom_none h
      rw [Nat.add_comm, iter_add, iter_one, e]
      exact this
theorem res_some {F T : Nat → ByteArray} {n : Nat} {c d : ByteArray} {t : Nat} (h : res F T n c = some (d, t)) : t ≤ n ∧ iter (nextOf F T n) t c = some d ∧ nextOf F T n d = none := by
  obtain ⟨s, h1, h2, h3, h4⟩ := resFrom_some h
  have e : t = s := by omega
  subst e
  exact ⟨by omega, h3, h4⟩
/-- Letters that don't arrive run into a ring. -/
theorem res_none {F T : Nat → ByteArray} {n : Nat} {c : ByteArray} (h : res F T n c = none) : ∃ m, m ≤ (n + 1) * (n + 1) ∧ iter (nextOf F T n) (2 * m + 1) c = iter (nextOf F T n) m c ∧ ∀ t, (iter (nextOf F T n) t c).isSome = true := by
  have hs := resFrom_none h
  have hat : ∀ i, i ≤ n → ∃ y k, iter (nextOf F T n) i c = some y ∧ k < n ∧ F k = y := fun i hi => by
    have h1 := iter_le (nx := nextOf F T n) (s := i + 1) (t := n + 1) (c := c) (by omega) hs
    cases e : iter (nextOf F T n) i c with
    | none =>
      have : iter (nextOf F T n) (i + 1) c = (iter (nextOf F T n) i c).bind (nextOf F T n) := rfl
      rw [this, e] at h1
      cases h1
    | some y =>
      have : iter (nextOf F T n) (i + 1) c = (iter (nextOf F T n) i c).bind (nextOf F T n) := rfl
      rw [this, e] at h1
      obtain ⟨z, hz⟩ := Option.isSome_iff_exists.1 h1
      obtain ⟨k, hk, e1, _, _, _⟩ := nextOf_at (show nextOf F T n y = some z from hz)
      exact ⟨y, k, rfl, hk, e1⟩
  have hr : ∃ r : Nat → Nat, ∀ i, i ≤ n → r i < n ∧ iter (nextOf F T n) i c = some (F (r i)) := by
    refine ⟨fun i => if h : i ≤ n then Classical.choose (Classical.choose_spec (hat i h)) else 0, fun i hi => ?_⟩
    have := Classical.choose_spec (Classical.choose_spec (hat i hi))
    simp only [dif_pos hi]
    exact ⟨this.2.1, by rw [this.2.2]; exact this.1⟩
  obtain ⟨r, hr⟩ := hr
  obtain ⟨i, j, hij, hj, e⟩ := pigeon n r fun i hi => (hr i hi).1
  have hi := (hr i (by omega)).2
  have hjj := (hr j hj).2
  have hl : iter (nextOf F T n) (j - i) (F (r i)) = some (F (r i)) := by
    have h1 : iter (nextOf F T n) (i + (j - i)) c = some (F (r j)) := by rw [show i + (j - i) = j by omega]; exact hjj
    rw [iter_add, hi, ← e] at h1
    exact h1
  obtain ⟨m, h1, h2, h3, h4⟩ := ring_met hi hl (by omega)
  refine ⟨m, Nat.le_trans h2 ?_, h3, h4⟩
  exact Nat.mul_le_mul (by omega) (by omega)
end Go.Proofs.Ytabmbbnfpfkcaaa.M

/-
  Orders without those for one code, as plain functions. No program is named here.
-/
namespace Go.Proofs.Ytabmbbnfpfkcaaa.M
set_option linter.unusedVariables false

/-- The orders but those from one code. -/
def wo (x : ByteArray) (L : List (ByteArray × ByteArray)) : List (ByteArray × ByteArray) := L.filter fun p => !decide (p.1 = x)
theorem wo_le (x : ByteArray) (L : List (ByteArray × ByteArray)) : (wo x L).length ≤ L.length := List.length_filter_le _ _
theorem wo_take {x : ByteArray} {L : List (ByteArray × ByteArray)} {j : Nat} {p : ByteArray × ByteArray} (h : L[j]? = some p) : wo x (L.take (j + 1)) = if p.1 = x then wo x (L.take j) else wo x (L.take j) ++ [p] := by
  rw [List.take_add_one, h]
  unfold wo
  rw [List.filter_append]
  by_cases e : p.1 = x
  · rw [if_pos e]
    simp [e]
  · rw [if_neg e]
    simp [e]
theorem wo_all {x : ByteArray} {L : List (ByteArray × ByteArray)} (h : ∀ j (hj : j < L.length), L[j].1 ≠ x) : wo x L = L := by
  unfold wo
  rw [List.filter_eq_self]
  intro p hp
  obtain ⟨j, hj, rfl⟩ := List.getElem_of_mem hp
  simp [h j hj]
/-- What stands in the row after j orders have been looked at, of which i stay. -/
def Kept (x : ByteArray) (L A : List (ByteArray × ByteArray)) (i j : Nat) : Prop := A.length = L.length ∧ i < j ∧ A.take i = wo x (L.take j) ∧ A.drop j = L.drop j
theorem Kept.start {x : ByteArray} {L : List (ByteArray × ByteArray)} {i : Nat} (hi : i < L.length) (he : L[i].1 = x) (hno : ∀ j (hj : j < L.length), j < i → L[j].1 ≠ x) : Kept x L L i (i + 1) := by
  refine ⟨rfl, Nat.lt_succ_self i, ?_, rfl⟩
  rw [wo_take (List.getElem?_eq_getElem hi), if_pos he, wo_all]
  intro j hj
  rw [List.length_take] at hj
  rw [List.getElem_take]
  exact hno j (by omega) (by omega)
theorem Kept.at {x : ByteArray} {L A : List (ByteArray × ByteArray)} {i j : Nat} (h : Kept x L A i j) (hj : j < L.length) : A[j]? = L[j]? := by
  have e := congrArg (fun M => M[0]?) h.2.2.2
  simpa using e
theorem Kept.skip {x : ByteArray} {L A : List (ByteArray × ByteArray)} {i j : Nat} {p : ByteArray × ByteArray} (h : Kept x L A i j) (hp : L[j]? = some p) (he : p.1 = x) : Kept x L A i (j + 1) := by
  obtain ⟨h1, h2, h3, h4⟩ := h
  refine ⟨h1, by omega, ?_, ?_⟩
  · rw [wo_take hp, if_pos he]; exact h3
  · have := congrArg (List.drop 1) h4
    rw [List.drop_drop, List.drop_drop] at this
    exact this
theorem Kept.keep {x : ByteArray} {L A : List (ByteArray × ByteArray)} {i j : Nat} {p : ByteArray × ByteArray} (h : Kept x L A i j) (hj : j < L.length) (hp : L[j]? = some p) (he : p.1 ≠ x) : Kept x L (A.set i p) (i + 1) (j + 1) := by
  obtain ⟨h1, h2, h3, h4⟩ := h
  refine ⟨by rw [List.length_set]; exact h1, by omega, ?_, ?_⟩
  · rw [wo_take hp, if_neg he, ← h3, List.take_add_one, List.getElem?_set_self (by omega), List.take_set_of_le (Nat.le_refl i)]
    rfl
  · rw [List.drop_set_of_lt (by omega)]
    have := congrArg (List.drop 1) h4
    rw [List.drop_drop, List.drop_drop] at this
    exact this
theorem Kept.done {x : ByteArray} {L A : List (ByteArray × ByteArray)} {i : Nat} (h : Kept x L A i L.length) : A.take i = wo x L ∧ (wo x L).length = i := by
  obtain ⟨h1, h2, h3, _⟩ := h
  rw [List.take_length] at h3
  exact ⟨h3, by rw [← h3, List.length_take]; omega⟩
/-- The orders but the one at an index. -/
def woAt (F T : Nat → ByteArray) (k : Int) : Nat → List (ByteArray × ByteArray)
  | 0 => []
  | j + 1 => if (j : Int) = k then woAt F T k j else woAt F T k j ++ [(F j, T j)]
theorem woAt_le (F T : Nat → ByteArray) (k : Int) : ∀ n, (woAt F T k n).length ≤ n
  | 0 => Nat.le_refl 0
  | j + 1 => by
    have := woAt_le F T k j
    unfold woAt
    split
    · omega
    · rw [List.length_append]
      show _ + 1 ≤ j + 1
      omega
theorem wo_flst (x : ByteArray) (F T : Nat → ByteArray) (j : Nat) : wo x (flst F T (j + 1)) = if F j = x then wo x (flst F T j) else wo x (flst F T j) ++ [(F j, T j)] := by
  rw [flst_succ]
  unfold wo
  rw [List.filter_append]
  by_cases e : F j = x
  · rw [if_pos e]
    simp [e]
  · rw [if_neg e]
    simp [e]
theorem woAt_eq {F T : Nat → ByteArray} {k : Int} {x : ByteArray} : ∀ {n : Nat}, (∀ j, j < n → ((j : Int) = k ↔ F j = x)) → woAt F T k n = wo x (flst F T n)
  | 0, _ => rfl
  | j + 1, h => by
    rw [wo_flst]
    unfold woAt
    have ih := woAt_eq (T := T) (n := j) (fun i hi => h i (by omega))
    have hj := h j (by omega)
    by_cases e : F j = x
    · rw [if_pos e, if_pos (hj.2 e)]; exact ih
    · rw [if_neg e, if_neg (fun e2 => e (hj.1 e2)), ih]
/-- Where the codes are all different, the order for a code is one. -/
theorem rank_only {F : Nat → ByteArray} {n : Nat} (hd : ∀ k, k < n → ∀ j, j < k → F j ≠ F k) (x : ByteArray) : ∀ j, j < n → ((j : Int) = rankTo F x n ↔ F j = x) := by
  intro j hj
  rcases rank_cases F x n with ⟨h1, h2⟩ | ⟨k, hk, h1, h2, h3⟩
  · rw [h1]
    exact ⟨fun e => absurd e (by omega), fun e => absurd e (h2 j hj)⟩
  · rw [h3]
    refine ⟨fun e => ?_, fun e => ?_⟩
    · have : j = k := by omega
      rw [this]; exact h1
    · have : j = k := by
        rcases Nat.lt_trichotomy j k with h | h | h
        · exact absurd e (h2 j h)
        · exact h
        · exact absurd (h1.trans e.symm) (hd j hj k h)
      omega
/-- A list has a string. -/
def has (s : ByteArray) (L : List ByteArray) : Bool := L.any fun x => decide (x = s)
theorem has_iff {s : ByteArray} {L : List ByteArray} : has s L = true ↔ s ∈ L := by
  unfold has
  rw [List.any_eq_true]
  constructor
  · rintro ⟨x, hx, e⟩
    rw [← of_decide_eq_true e]; exact hx
  · exact fun h => ⟨s, h, decide_eq_true rfl⟩
theorem has_no {s : ByteArray} {L : List ByteArray} (h : ¬ s ∈ L) : has s L = false := by
  cases e : has s L
  · rfl
  · exact absurd (has_iff.1 e) h
end Go.Proofs.Ytabmbbnfpfkcaaa.M

/-
  What the law's own text says of strings and of orders: whether two lists agree, whether one has a string.
-/
namespace Go.Proofs.Ytabmbbnfpfkcaaa
open Go.RowKit
open Go.PlainAid (bt get_bt bt_nonneg bt_le)
set_option linter.unusedVariables false

set_option maxHeartbeats 1000000 in
theorem soTexts_same (w : World) (a a' : Option Addr) (n c c' : Nat) (S : Nat → ByteArray) (h : Strs w a n S) (h' : Strs w a' n S) (hn : n ≤ 1048576) :
    Calls Try.prog 24 #[.slice a n c, .slice a' n c'] w fun e w' => e = .returned (.bool true) ∧ Below w.heap.size w w' := by
  have HL := Lib.hid h
  have HL' := Lib.hid h'
  clear h h'
  go_enter Try.func24, Try.ntmps24
  go_wp2
  go_loopw [5] (fun i wr => ∃ k : Nat, k ≤ n ∧ i = .int .i64 k ∧ Below w.heap.size w wr) (fun i _ => n - (intOf i).toNat)
  case atStart => exact ⟨0, Nat.zero_le _, rfl, Below.refl _ _⟩
  case round =>
    obtain ⟨k, hk, rfl, hb⟩ := hrel
    have hz := hb.size
    by_cases hlt : k < n
    · obtain ⟨b, o, rfl, c0⟩ := (HL.out.on hb) k hlt
      obtain ⟨b', o', rfl, c0'⟩ := (HL'.out.on hb) k hlt
      have hd : ((S k).toList == (S k).toList) = true := by simp
      go_wp2
      go_region
      all_goals
        go_wp2
        exact ⟨⟨k + 1, by omega, by go_num, by first | exact hb | exact hb.drew⟩, by simp [intOf]; omega⟩
    · obtain rfl : k = n := by omega
      go_wp2
      go_ret
      exact ⟨rfl, hb⟩
theorem soTexts_row (w : World) (b1 b2 : Nat) (v v' : Value) (L : List ByteArray) (h : SRow w b1 v L) (h' : SRow w b2 v' L) (hn : L.length ≤ 1048576) :
    Calls Try.prog 24 #[v, v'] w fun e w' => e = .returned (.bool true) ∧ Below w.heap.size w w' := by
  obtain ⟨a, c, rfl, _, hl⟩ := h.form
  obtain ⟨a', c', rfl, _, hl'⟩ := h'.form
  exact soTexts_same w a a' L.length c c' _ hl hl' hn
set_option maxHeartbeats 1000000 in
theorem soHas_any (w : World) (base : Nat) (v : Value) (L : List ByteArray) (h : SRow w base v L) (hn : L.length ≤ 1048576) (s : ByteArray) :
    Calls Try.prog 25 #[v, .string s] w fun e w' => e = .returned (.bool (M.has s L)) ∧ w = w' := by
  obtain ⟨a, c, rfl, _, hl⟩ := h.form
  have HL := Lib.hid hl
  have HM : Hid (∀ j, j < L.length → sC L j ∈ L) := fun j hj => by rw [sC_at hj]; exact List.getElem_mem hj
  have HN : Hid ((∀ j, j < L.length → sC L j ≠ s) → M.has s L = false) := fun hno => M.has_no fun hm => by
    obtain ⟨j, hj, e⟩ := List.getElem_of_mem hm
    exact hno j hj (by rw [sC_at hj]; exact e)
  obtain ⟨n, hln⟩ : ∃ n, L.length = n := ⟨_, rfl⟩
  rw [hln] at HL HM HN hn ⊢
  clear h hl hln
  go_enter Try.func25, Try.ntmps25
  go_wp2
  go_loop [5] (fun i => ∃ k : Nat, k ≤ n ∧ i = .int .i64 k ∧ Hid (∀ j, j < k → sC L j ≠ s)) (fun i => n - (intOf i).toNat)
  case atStart => exact ⟨0, Nat.zero_le _, rfl, fun j hj => absurd hj (by omega)⟩
  case round =>
    obtain ⟨k, hk, rfl, hno⟩ := hrel
    by_cases hlt : k < n
    · obtain ⟨b, o, rfl, c0⟩ := HL.out k hlt
      by_cases he : sC L k = s
      · have hd : ((sC L k).toList == s.toList) = true := by rw [he]; simp
        have hv : Hid (M.has s L = true) := M.has_iff.2 (he ▸ HM.out k hlt)
        clear he
        go_wp2
        go_ret
        exact ⟨ret_bool hv.out.symm, rfl⟩
      · have hd : ((sC L k).toList == s.toList) = false := neq_list0 he
        have HE := Lib.hid he
        clear he
        go_wp2
        go_round
        case rel => exact ⟨k + 1, by omega, by go_num, fun q hq => by by_cases e : q = k; (subst e; exact HE.out); exact hno.out q (by omega)⟩
        case measure => simp [intOf]; omega
    · obtain rfl : k = n := by omega
      have hv := Lib.hid (HN.out hno.out)
      go_wp2
      go_ret
      exact ⟨ret_bool hv.out.symm, rfl⟩
end Go.Proofs.Ytabmbbnfpfkcaaa
