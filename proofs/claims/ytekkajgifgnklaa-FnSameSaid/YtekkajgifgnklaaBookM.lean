/-
  Orders that are followed, as plain functions. No program is named here.
-/
import Derived.Test.YtekkajgifgnklaaPlanM
namespace Go.Proofs.Ytekkajgifgnklaa.M

/-- The code to which letters for a code are sent next. -/
def nextOf (F T : Nat → ByteArray) (n : Nat) (c : ByteArray) : Option ByteArray := if rankTo F c n < 0 then none else some (T (rankTo F c n).toNat)
theorem nextOf_zero (F T : Nat → ByteArray) (c : ByteArray) : nextOf F T 0 c = none := if_pos (by show (-1 : Int) < 0; omega)
theorem rank_cases (S : Nat → ByteArray) (c : ByteArray) (n : Nat) : (M.rankTo S c n = -1 ∧ ∀ j, j < n → S j ≠ c) ∨ ∃ k : Nat, k < n ∧ S k = c ∧ (∀ j, j < k → S j ≠ c) ∧ M.rankTo S c n = (k : Int) := by
  by_cases h : ∃ j, j < n ∧ S j = c
  · right
    obtain ⟨j, hj, e⟩ := h
    induction j using Nat.strongRecOn with
    | ind j ih =>
      by_cases h2 : ∃ i, i < j ∧ S i = c
      · obtain ⟨i, hi, e2⟩ := h2
        exact ih i hi (by omega) e2
      · have hno : ∀ i, i < j → S i ≠ c := fun i hi e2 => h2 ⟨i, hi, e2⟩
        exact ⟨j, hj, e, hno, rank_hit hj e hno⟩
  · left
    have hno : ∀ j, j < n → S j ≠ c := fun j hj e => h ⟨j, hj, e⟩
    exact ⟨rank_miss hno, hno⟩
theorem nextOf_none {F T : Nat → ByteArray} {n : Nat} {c : ByteArray} (h : M.rankTo F c n < 0) : nextOf F T n c = none := if_pos h
theorem nextOf_some {F T : Nat → ByteArray} {n k : Nat} {c : ByteArray} (h : M.rankTo F c n = (k : Int)) : nextOf F T n c = some (T k) := by
  unfold nextOf
  rw [if_neg (by omega), h, Int.toNat_natCast]
theorem nextOf_at {F T : Nat → ByteArray} {n : Nat} {c d : ByteArray} (h : nextOf F T n c = some d) : ∃ k : Nat, k < n ∧ F k = c ∧ (∀ j, j < k → F j ≠ c) ∧ d = T k ∧ M.rankTo F c n = (k : Int) := by
  rcases rank_cases F c n with ⟨e, _⟩ | ⟨k, hk, e1, e2, e3⟩
  · rw [nextOf_none (by omega)] at h; cases h
  · rw [nextOf_some e3] at h
    exact ⟨k, hk, e1, e2, (Option.some.inj h).symm, e3⟩
theorem nextOf_succ {F T : Nat → ByteArray} {k : Nat} (hno : ∀ j, j < k → F j ≠ F k) (c : ByteArray) : nextOf F T (k + 1) c = if c = F k then some (T k) else nextOf F T k c := by
  by_cases e : c = F k
  · subst e
    rw [if_pos rfl]
    exact nextOf_some (rank_hit (Nat.lt_succ_self k) rfl hno)
  · rw [if_neg e]
    rcases rank_cases F c k with ⟨h1, h2⟩ | ⟨i, hi, h1, h2, h3⟩
    · have e1 : nextOf F T k c = none := nextOf_none (by omega)
      rw [e1]
      refine nextOf_none ?_
      rw [rank_miss fun j hj => ?_]
      · omega
      · by_cases e2 : j = k
        · subst e2; exact fun e3 => e e3.symm
        · exact h2 j (by omega)
    · rw [nextOf_some h3]
      exact nextOf_some (rank_hit (by omega) h1 h2)

/-- The code after some orders. -/
def iter (nx : ByteArray → Option ByteArray) : Nat → ByteArray → Option ByteArray
  | 0, c => some c
  | t + 1, c => (iter nx t c).bind nx
theorem iter_add (nx : ByteArray → Option ByteArray) (s : Nat) (c : ByteArray) : ∀ t, iter nx (s + t) c = (iter nx s c).bind (iter nx t)
  | 0 => by
    show iter nx s c = (iter nx s c).bind fun d => some d
    cases iter nx s c <;> rfl
  | t + 1 => by
    show (iter nx (s + t) c).bind nx = _
    rw [iter_add nx s c t]
    cases iter nx s c <;> rfl
theorem iter_one (nx : ByteArray → Option ByteArray) (c : ByteArray) : iter nx 1 c = nx c := rfl
theorem iter_le {nx : ByteArray → Option ByteArray} {s t : Nat} {c : ByteArray} (hs : s ≤ t) (h : (iter nx t c).isSome = true) : (iter nx s c).isSome = true := by
  obtain ⟨u, rfl⟩ : ∃ u, t = s + u := ⟨t - s, by omega⟩
  rw [iter_add] at h
  cases e : iter nx s c with
  | none => rw [e] at h; cases h
  | some d => rfl
/-- What comes to an end never comes to the same code again. -/
theorem iter_apart {nx : ByteArray → Option ByteArray} {t a b : Nat} {c d : ByteArray} (h : iter nx t c = some d) (hd : nx d = none) (hab : a < b) (hb : b ≤ t) : iter nx a c ≠ iter nx b c := by
  intro e
  have h1 : iter nx (b + (t - b)) c = some d := by rw [show b + (t - b) = t by omega]; exact h
  rw [iter_add, ← e, ← iter_add] at h1
  have h2 : iter nx (a + (t - b) + 1) c = none := by
    show (iter nx (a + (t - b)) c).bind nx = none
    rw [h1]; exact hd
  have h3 := iter_le (nx := nx) (s := a + (t - b) + 1) (t := t) (c := c) (by omega) (by rw [h]; rfl)
  rw [h2] at h3
  cases h3
theorem ring_iter {nx : ByteArray → Option ByteArray} {l : Nat} {x : ByteArray} (h : iter nx l x = some x) : ∀ k, iter nx (k * l) x = some x
  | 0 => by rw [Nat.zero_mul]; rfl
  | k + 1 => by rw [Nat.succ_mul, iter_add, ring_iter h k]; exact h
/-- In a ring the follower is caught up with. -/
theorem ring_met {nx : ByteArray → Option ByteArray} {i l : Nat} {c x : ByteArray} (hi : iter nx i c = some x) (hl : iter nx l x = some x) (l0 : 0 < l) :
    ∃ m, i ≤ m ∧ m ≤ (i + 1) * l ∧ iter nx (2 * m + 1) c = iter nx m c ∧ ∀ t, (iter nx t c).isSome = true := by
  have hge : i + 1 ≤ (i + 1) * l := Nat.le_mul_of_pos_right _ l0
  refine ⟨(i + 1) * l - 1, by omega, by omega, ?_, fun t => ?_⟩
  · obtain ⟨q, hq⟩ : ∃ q, (i + 1) * l = i + 1 + q := ⟨(i + 1) * l - (i + 1), by omega⟩
    have hr := ring_iter hl (i + 1)
    have e1 : 2 * ((i + 1) * l - 1) + 1 = i + ((i + 1) * l + q) := by omega
    have e2 : (i + 1) * l - 1 = i + q := by omega
    rw [e1, e2, iter_add, iter_add, hi]
    show iter nx ((i + 1) * l + q) x = iter nx q x
    rw [iter_add, hr]
    rfl
  · refine iter_le (t := i + t * l) ?_ ?_
    · have := Nat.le_mul_of_pos_right t l0
      omega
    · rw [iter_add, hi]
      show (iter nx (t * l) x).isSome = true
      rw [ring_iter hl t]; rfl
theorem pigeon : ∀ (n : Nat) (r : Nat → Nat), (∀ i, i ≤ n → r i < n) → ∃ i j, i < j ∧ j ≤ n ∧ r i = r j
  | 0, _, h => absurd (h 0 (Nat.le_refl 0)) (by omega)
  | n + 1, r, h => by
    by_cases e : ∃ i, i ≤ n ∧ r i = r (n + 1)
    · obtain ⟨i, hi, e⟩ := e
      exact ⟨i, n + 1, by omega, Nat.le_refl _, e⟩
    · have hne : ∀ i, i ≤ n → r i ≠ r (n + 1) := fun i hi e2 => e ⟨i, hi, e2⟩
      have hl := h (n + 1) (Nat.le_refl _)
      obtain ⟨i, j, h1, h2, h3⟩ := pigeon n (fun i => if r i = n then r (n + 1) else r i) fun i hi => by
        have h4 := h i (by omega)
        have h5 := hne i hi
        show (if r i = n then r (n + 1) else r i) < n
        by_cases e2 : r i = n
        · rw [if_pos e2]; omega
        · rw [if_neg e2]; omega
      refine ⟨i, j, h1, by omega, ?_⟩
      have h6 := hne i (by omega)
      have h7 := hne j h2
      change (if r i = n then r (n + 1) else r i) = (if r j = n then r (n + 1) else r j) at h3
      by_cases e2 : r i = n
      · by_cases e3 : r j = n
        · rw [e2, e3]
        · rw [if_pos e2, if_neg e3] at h3
          exact absurd h3.symm h7
      · by_cases e3 : r j = n
        · rw [if_neg e2, if_pos e3] at h3
          exact absurd h3 h6
        · rw [if_neg e2, if_neg e3] at h3
          exact h3
/-- The end and the number of orders, if it comes to an end within some of them. -/
def resFrom (nx : ByteArray → Option ByteArray) : Nat → ByteArray → Nat → Option (ByteArray × Nat)
  | 0, _, _ => none
  | k + 1, c, t => match nx c with
    | none => some (c, t)
    | some d => resFrom nx k d (t + 1)
def res (F T : Nat → ByteArray) (n : Nat) (c : ByteArray) : Option (ByteArray × Nat) := resFrom (nextOf F T n) (n + 1) c 0
theorem resFrom_end {nx : ByteArray → Option ByteArray} {k : Nat} {c : ByteArray} {t : Nat} (h : nx c = none) : resFrom nx (k + 1) c t = some (c, t) := by
  show (match nx c with | none => some (c, t) | some d => resFrom nx k d (t + 1)) = _
  rw [h]
theorem resFrom_step {nx : ByteArray → Option ByteArray} {k : Nat} {c d : ByteArray} {t : Nat} (h : nx c = some d) : resFrom nx (k + 1) c t = resFrom nx k d (t + 1) := by
  show (match nx c with | none => some (c, t) | some d => resFrom nx k d (t + 1)) = _
  rw [h]
theorem resFrom_some {nx : ByteArray → Option ByteArray} {d : ByteArray} {t' : Nat} : ∀ {k : Nat} {c : ByteArray} {t : Nat}, resFrom nx k c t = some (d, t') → ∃ s, t' = t + s ∧ s < k ∧ iter nx s c = some d ∧ nx d = none
  | 0, _, _, h => by cases h
  | k + 1, c, t, h => by
    cases e : nx c with
    | none =>
      rw [resFrom_end e] at h
      have h2 := Option.some.inj h
      injection h2 with h3 h4
      subst h3 h4
      exact ⟨0, by omega, by omega, rfl, e⟩
    | some x =>
      rw [resFrom_step e] at h
      obtain ⟨s, h1, h2, h3, h4⟩ := resFrom_some h
      refine ⟨s + 1, by omega, by omega, ?_, h4⟩
      rw [Nat.add_comm, iter_add, iter_one, e]
      exact h3
theorem resFrom_none {nx : ByteArray → Option ByteArray} : ∀ {k : Nat} {c : ByteArray} {t : Nat}, resFrom nx k c t = none → (iter nx k c).isSome = true
  | 0, _, _, _ => rfl
  | k + 1, c, t, h => by
    cases e : nx c with
    | none => rw [resFrom_end e] at h; cases h
    | some x =>
      rw [resFrom_step e] at h
      have := resFrom_none h
      rw [Nat.add_comm, iter_add, iter_one, e]
      exact this
theorem res_some {F T : Nat → ByteArray} {n : Nat} {c d : ByteArray} {t : Nat} (h : res F T n c = some (d, t)) : t ≤ n ∧ iter (nextOf F T n) t c = some d ∧ nextOf F T n d = none := by
  obtain ⟨s, h1, h2, h3, h4⟩ := resFrom_some h
  have e : t = s := by omega
  subst e
  exact ⟨by omega, h3, h4⟩
/-- Letters that don't arrive run into a ring. -/
theorem res_none {F T : Nat → ByteArray} {n : Nat} {c : ByteArray} (h : res F T n c = none) : ∃ m, m ≤ (n + 1) * (n + 1) ∧ iter (nextOf F T n) (2 * m + 1) c = iter (nextOf F T n) m c ∧ ∀ t, (iter (nextOf F T n) t c).isSome = true := by
  have hs := resFrom_none h
  have hat : ∀ i, i ≤ n → ∃ y k, iter (nextOf F T n) i c = some y ∧ k < n ∧ F k = y := fun i hi => by
    have h1 := iter_le (nx := nextOf F T n) (s := i + 1) (t := n + 1) (c := c) (by omega) hs
    cases e : iter (nextOf F T n) i c with
    | none =>
      have : iter (nextOf F T n) (i + 1) c = (iter (nextOf F T n) i c).bind (nextOf F T n) := rfl
      rw [this, e] at h1
      cases h1
    | some y =>
      have : iter (nextOf F T n) (i + 1) c = (iter (nextOf F T n) i c).bind (nextOf F T n) := rfl
      rw [this, e] at h1
      obtain ⟨z, hz⟩ := Option.isSome_iff_exists.1 h1
      obtain ⟨k, hk, e1, _, _, _⟩ := nextOf_at (show nextOf F T n y = some z from hz)
      exact ⟨y, k, rfl, hk, e1⟩
  have hr : ∃ r : Nat → Nat, ∀ i, i ≤ n → r i < n ∧ iter (nextOf F T n) i c = some (F (r i)) := by
    refine ⟨fun i => if h : i ≤ n then Classical.choose (Classical.choose_spec (hat i h)) else 0, fun i hi => ?_⟩
    have := Classical.choose_spec (Classical.choose_spec (hat i hi))
    simp only [dif_pos hi]
    exact ⟨this.2.1, by rw [this.2.2]; exact this.1⟩
  obtain ⟨r, hr⟩ := hr
  obtain ⟨i, j, hij, hj, e⟩ := pigeon n r fun i hi => (hr i hi).1
  have hi := (hr i (by omega)).2
  have hjj := (hr j hj).2
  have hl : iter (nextOf F T n) (j - i) (F (r i)) = some (F (r i)) := by
    have h1 : iter (nextOf F T n) (i + (j - i)) c = some (F (r j)) := by rw [show i + (j - i) = j by omega]; exact hjj
    rw [iter_add, hi, ← e] at h1
    exact h1
  obtain ⟨m, h1, h2, h3, h4⟩ := ring_met hi hl (by omega)
  refine ⟨m, Nat.le_trans h2 ?_, h3, h4⟩
  exact Nat.mul_le_mul (by omega) (by omega)
end Go.Proofs.Ytekkajgifgnklaa.M
