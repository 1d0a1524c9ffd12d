/-
  Ends of letters, one order on, and the longest chain, as plain functions. No program is named here.
-/
import Derived.Test.YtekkajgifgnklaaLong
import Derived.Test.YtekkajgifgnklaaSame2
namespace Go.Proofs.Ytekkajgifgnklaa.M
set_option linter.unusedVariables false

theorem resFrom_iter {nx : ByteArray → Option ByteArray} {d : ByteArray} (hd : nx d = none) : ∀ {s k : Nat} {c : ByteArray} {t : Nat}, iter nx s c = some d → s < k → resFrom nx k c t = some (d, t + s)
  | 0, k, c, t, h, hk => by
    have e : c = d := Option.some.inj h
    subst e
    obtain ⟨q, rfl⟩ : ∃ q, k = q + 1 := ⟨k - 1, by omega⟩
    exact resFrom_end hd
  | s + 1, k, c, t, h, hk => by
    obtain ⟨q, rfl⟩ : ∃ q, k = q + 1 := ⟨k - 1, by omega⟩
    rw [Nat.add_comm, iter_add, iter_one] at h
    cases e : nx c with
    | none => rw [e] at h; cases h
    | some x =>
      rw [e] at h
      rw [resFrom_step e, resFrom_iter hd (s := s) (c := x) h (by omega)]
      congr 2
      omega
theorem res_iter {F T : Nat → ByteArray} {n s : Nat} {c d : ByteArray} (h : iter (nextOf F T n) s c = some d) (hd : nextOf F T n d = none) (hs : s ≤ n) : res F T n c = some (d, s) := by
  have := resFrom_iter hd (t := 0) h (show s < n + 1 by omega)
  rw [Nat.zero_add] at this
  exact this
/-- Where nothing is sent on, letters have arrived. -/
theorem res_here {F T : Nat → ByteArray} {n : Nat} {c : ByteArray} (h : nextOf F T n c = none) : res F T n c = some (c, 0) := res_iter (s := 0) rfl h (Nat.zero_le _)
/-- One order on. -/
theorem res_on {F T : Nat → ByteArray} {n t : Nat} {c d e : ByteArray} (hn : nextOf F T n c = some d) (h : res F T n c = some (e, t)) : 1 ≤ t ∧ res F T n d = some (e, t - 1) := by
  obtain ⟨h1, h2, h3⟩ := res_some h
  cases t with
  | zero =>
    have e1 : c = e := Option.some.inj h2
    subst e1
    rw [hn] at h3
    cases h3
  | succ t =>
    rw [Nat.add_comm, iter_add, iter_one, hn] at h2
    exact ⟨by omega, res_iter h2 h3 (by omega)⟩
theorem res_lost {F T : Nat → ByteArray} {n : Nat} {c d : ByteArray} (hn : nextOf F T n c = some d) (h : res F T n c = none) : res F T n d = none := by
  obtain ⟨m, _, _, hall⟩ := res_none h
  cases e : res F T n d with
  | none => rfl
  | some p =>
    obtain ⟨x, t⟩ := p
    obtain ⟨_, h2, h3⟩ := res_some e
    have := hall (1 + (t + 1))
    rw [iter_add, iter_one, hn] at this
    have h4 : iter (nextOf F T n) (t + 1) d = none := by
      show (iter (nextOf F T n) t d).bind (nextOf F T n) = none
      rw [h2]; exact h3
    rw [show ((some d).bind (iter (nextOf F T n) (t + 1))) = iter (nextOf F T n) (t + 1) d from rfl, h4] at this
    cases this
theorem next_code {F T : Nat → ByteArray} {n : Nat} (h : fwd n F T = true) {c d : ByteArray} (hn : nextOf F T n c = some d) : code c = true ∧ code d = true := by
  obtain ⟨k, hk, e1, _, e2, _⟩ := nextOf_at hn
  have := (fwd_yes h).2 k hk
  rw [← e1, e2]
  exact ⟨this.1, this.2.1⟩
theorem iter_code' {F T : Nat → ByteArray} {n : Nat} (h : fwd n F T = true) {c d : ByteArray} {t : Nat} (hc : code c = true) (hi : iter (nextOf F T n) t c = some d) : code d = true :=
  iter_code (fun x y hxy => (next_code h hxy).2) hc hi
/-- The chain that is the longest is there, or all are empty. -/
def someTo (F T : Nat → ByteArray) (n L : Nat) : Nat → Bool
  | 0 => decide (L = 0)
  | k + 1 => someTo F T n L k || ((res F T n (F k)).isSome && decide (cntOf (res F T n (F k)) = L))
theorem long_le_to {F T : Nat → ByteArray} {n : Nat} : ∀ {k j : Nat}, j < k → cntOf (res F T n (F j)) ≤ longTo F T n k
  | k + 1, j, h => by
    unfold longTo
    by_cases e : j = k
    · subst e
      split
      · exact Nat.le_refl _
      · omega
    · have := long_le_to (F := F) (T := T) (n := n) (k := k) (j := j) (by omega)
      split
      · omega
      · exact this
theorem someTo_mono {F T : Nat → ByteArray} {n L k : Nat} (h : someTo F T n L k = true) : ∀ d, someTo F T n L (k + d) = true
  | 0 => h
  | d + 1 => by
    show (someTo F T n L (k + d) || _) = true
    rw [someTo_mono h d]; rfl
theorem someTo_zero {F T : Nat → ByteArray} {n : Nat} (k : Nat) : someTo F T n 0 k = true := by
  have := someTo_mono (F := F) (T := T) (n := n) (L := 0) (k := 0) rfl k
  rw [Nat.zero_add] at this
  exact this
theorem someTo_long {F T : Nat → ByteArray} {n : Nat} : ∀ k, someTo F T n (longTo F T n k) k = true
  | 0 => rfl
  | k + 1 => by
    by_cases hlt : longTo F T n k < cntOf (res F T n (F k))
    · have e : longTo F T n (k + 1) = cntOf (res F T n (F k)) := if_pos hlt
      rw [e]
      have hs : (res F T n (F k)).isSome = true := by
        cases h : res F T n (F k) with
        | none => rw [h] at hlt; exact absurd hlt (Nat.not_lt_zero _)
        | some p => rfl
      show (someTo F T n (cntOf (res F T n (F k))) k || ((res F T n (F k)).isSome && decide (cntOf (res F T n (F k)) = cntOf (res F T n (F k))))) = true
      rw [hs, decide_eq_true rfl, Bool.and_self, Bool.or_true]
    · have e : longTo F T n (k + 1) = longTo F T n k := if_neg hlt
      rw [e]
      show (someTo F T n (longTo F T n k) k || _) = true
      rw [someTo_long k]; rfl
theorem natbeq (t L : Nat) : ((t : Int) == (L : Int)) = decide (t = L) := by
  by_cases h : t = L
  · subst h; simp
  · rw [decide_eq_false h, beq_eq_false_iff_ne]
    omega
end Go.Proofs.Ytekkajgifgnklaa.M
