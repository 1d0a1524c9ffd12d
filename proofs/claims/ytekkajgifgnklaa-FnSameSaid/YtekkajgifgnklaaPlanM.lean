/-
  Plain functions on plans: the codes of a round, given by index. No program is named here.
-/
import Derived.Test.YtekkajgifgnklaaMgA1
import Derived.Test.YtekkajgifgnklaaCapM
namespace Go.Proofs.Ytekkajgifgnklaa.M
open Go.PlainAid (bt)

/-- The first m strings are codes, no two the same. -/
def diffTo (S : Nat → ByteArray) (m : Nat) : Bool := (List.range m).all fun i => code (S i) && (List.range i).all fun k => decide (S k ≠ S i)
theorem diffTo_iff (S : Nat → ByteArray) (m : Nat) : diffTo S m = true ↔ ∀ i, i < m → code (S i) = true ∧ ∀ k, k < i → S k ≠ S i := by
  unfold diffTo
  rw [List.all_eq_true]
  constructor
  · intro h i hi
    have := h i (List.mem_range.2 hi)
    rw [Bool.and_eq_true, List.all_eq_true] at this
    exact ⟨this.1, fun k hk => of_decide_eq_true (this.2 k (List.mem_range.2 hk))⟩
  · intro h i hi
    obtain ⟨h1, h2⟩ := h i (List.mem_range.1 hi)
    rw [Bool.and_eq_true, List.all_eq_true]
    exact ⟨h1, fun k hk => decide_eq_true (h2 k (List.mem_range.1 hk))⟩
theorem diffTo_zero (S : Nat → ByteArray) : diffTo S 0 = true := rfl
theorem diffTo_succ {S : Nat → ByteArray} {m : Nat} (h : diffTo S m = true) (h1 : code (S m) = true) (h3 : ∀ k, k < m → S k ≠ S m) : diffTo S (m + 1) = true :=
  (diffTo_iff S (m + 1)).2 fun i hi => by
    by_cases e : i = m
    · subst e; exact ⟨h1, h3⟩
    · exact (diffTo_iff S m).1 h i (by omega)
theorem diffTo_no {S : Nat → ByteArray} {n k : Nat} (hk : k < n) (h : code (S k) = false ∨ ∃ j, j < k ∧ S j = S k) : diffTo S n = false := by
  rw [Bool.eq_false_iff]
  intro e
  obtain ⟨h1, h3⟩ := (diffTo_iff S n).1 e k hk
  rcases h with h | ⟨j, hj, h⟩
  · rw [h] at h1; cases h1
  · exact h3 j hj h
/-- The numbers of a plan fit its codes. -/
def fits (b p : Int) (n : Nat) : Bool := shape b p && decide (1 ≤ n ∧ n ≤ 60 ∧ (n : Int) ≤ pw b p.toNat)
/-- A plan is valid. -/
def plan (b p : Int) (n : Nat) (S : Nat → ByteArray) : Bool := fits b p n && diffTo S n
theorem fits_yes {b p : Int} {n : Nat} (h : fits b p n = true) : shape b p = true ∧ 1 ≤ n ∧ n ≤ 60 ∧ (n : Int) ≤ pw b p.toNat := by
  unfold fits at h
  rw [Bool.and_eq_true] at h
  exact ⟨h.1, of_decide_eq_true h.2⟩
theorem plan_yes {b p : Int} {n : Nat} {S : Nat → ByteArray} (h : plan b p n S = true) : fits b p n = true ∧ diffTo S n = true := by
  unfold plan at h
  rwa [Bool.and_eq_true] at h
theorem plan_misfit {b p : Int} {n : Nat} {S : Nat → ByteArray} (h : fits b p n = false) : plan b p n S = false := by unfold plan; rw [h]; rfl
theorem plan_fit {b p : Int} {n : Nat} {S : Nat → ByteArray} (h : fits b p n = true) : plan b p n S = diffTo S n := by unfold plan; rw [h]; rfl
theorem fits_cap {b p : Int} {n : Nat} (h1 : 1 ≤ n) (h2 : n ≤ 60) : fits b p n = decide ((n : Int) ≤ cap b p) := by
  unfold fits
  cases hs : shape b p
  · rw [cap_no hs, Bool.false_and]
    exact (decide_eq_false (by omega)).symm
  · rw [cap_yes hs, Bool.true_and]
    exact decide_eq_decide.2 ⟨fun h => h.2.2, fun h => ⟨h1, h2, h⟩⟩
theorem fits_small {b p : Int} {n : Nat} (h : n < 1 ∨ 60 < n) : fits b p n = false := by
  unfold fits
  rw [decide_eq_false (show ¬ (1 ≤ n ∧ n ≤ 60 ∧ (n : Int) ≤ pw b p.toNat) by omega), Bool.and_false]
/-- Where a code stands among n; -1 if it doesn't. -/
def rankTo (S : Nat → ByteArray) (c : ByteArray) : Nat → Int
  | 0 => -1
  | k + 1 => if rankTo S c k = -1 then (if S k = c then (k : Int) else -1) else rankTo S c k
theorem rankTo_succ (S : Nat → ByteArray) (c : ByteArray) (k : Nat) : rankTo S c (k + 1) = if rankTo S c k = -1 then (if S k = c then (k : Int) else -1) else rankTo S c k := rfl
theorem rank_miss {S : Nat → ByteArray} {c : ByteArray} : ∀ {n : Nat}, (∀ j, j < n → S j ≠ c) → rankTo S c n = -1
  | 0, _ => rfl
  | k + 1, h => by
    unfold rankTo
    rw [if_pos (rank_miss fun j hj => h j (by omega)), if_neg (h k (by omega))]
theorem rank_stay {S : Nat → ByteArray} {c : ByteArray} {k : Nat} (h0 : 0 ≤ rankTo S c k) : ∀ {n : Nat}, k ≤ n → rankTo S c n = rankTo S c k
  | 0, h => by have : k = 0 := by omega
               subst this; rfl
  | n + 1, h => by
    by_cases e : k = n + 1
    · subst e; rfl
    · have ih := rank_stay h0 (n := n) (by omega)
      rw [rankTo_succ, if_neg (by rw [ih]; omega), ih]
theorem rank_hit {S : Nat → ByteArray} {c : ByteArray} {n k : Nat} (hk : k < n) (h : S k = c) (hn : ∀ j, j < k → S j ≠ c) : rankTo S c n = (k : Int) := by
  have h1 : rankTo S c (k + 1) = (k : Int) := by
    unfold rankTo
    rw [if_pos (rank_miss hn), if_pos h]
  rw [rank_stay (k := k + 1) (by rw [h1]; omega) (by omega), h1]
theorem rank_bd (S : Nat → ByteArray) (c : ByteArray) : ∀ n, -1 ≤ rankTo S c n ∧ rankTo S c n < (n : Int)
  | 0 => by unfold rankTo; omega
  | n + 1 => by
    have := rank_bd S c n
    unfold rankTo
    split
    · split <;> omega
    · omega
theorem rank_at {S : Nat → ByteArray} {c : ByteArray} : ∀ {n : Nat}, 0 ≤ rankTo S c n → S (rankTo S c n).toNat = c
  | 0, h => by unfold rankTo at h; omega
  | n + 1, h => by
    by_cases h1 : rankTo S c n = -1
    · by_cases h2 : S n = c
      · have e : rankTo S c (n + 1) = (n : Int) := by unfold rankTo; rw [if_pos h1, if_pos h2]
        rw [e, Int.toNat_natCast]; exact h2
      · have e : rankTo S c (n + 1) = -1 := by unfold rankTo; rw [if_pos h1, if_neg h2]
        omega
    · have e : rankTo S c (n + 1) = rankTo S c n := by rw [rankTo_succ, if_neg h1]
      rw [e] at h ⊢
      exact rank_at h
theorem rank_none {S : Nat → ByteArray} {c : ByteArray} {n : Nat} (h : rankTo S c n = -1) (j : Nat) (hj : j < n) : S j ≠ c := by
  intro e
  have : ∃ k, k ≤ j ∧ S k = c ∧ ∀ i, i < k → S i ≠ c := by
    clear h hj
    induction j using Nat.strongRecOn with
    | ind j ih =>
      by_cases hx : ∃ i, i < j ∧ S i = c
      · obtain ⟨i, hi, hi2⟩ := hx
        obtain ⟨k, hk, hk2⟩ := ih i hi hi2
        exact ⟨k, by omega, hk2⟩
      · exact ⟨j, Nat.le_refl _, e, fun i hi h2 => hx ⟨i, hi, h2⟩⟩
  obtain ⟨k, hk, hk1, hk2⟩ := this
  have := rank_hit (n := n) (by omega) hk1 hk2
  omega
def planRank (b p : Int) (n : Nat) (S : Nat → ByteArray) (c : ByteArray) : Int := if plan b p n S = true then rankTo S c n else -1
theorem planRank_yes {b p : Int} {n : Nat} {S : Nat → ByteArray} {c : ByteArray} (h : plan b p n S = true) : planRank b p n S c = rankTo S c n := if_pos h
theorem planRank_no {b p : Int} {n : Nat} {S : Nat → ByteArray} {c : ByteArray} (h : plan b p n S = false) : planRank b p n S c = -1 := if_neg (by rw [h]; decide)
/-- One digit of a rank. -/
def rankBin (b r : Int) (k : Nat) : Int := r / pw b k % b
theorem rankBin_bd {b r : Int} {k : Nat} (b0 : 2 ≤ b) : 0 ≤ rankBin b r k ∧ rankBin b r k < b := ⟨Int.emod_nonneg _ (by omega), Int.emod_lt_of_pos _ (by omega)⟩
def planBin (b p : Int) (n : Nat) (S : Nat → ByteArray) (c : ByteArray) (x : Int) : Int := if plan b p n S = true ∧ 0 ≤ x ∧ x < p ∧ 0 ≤ rankTo S c n then rankBin b (rankTo S c n) x.toNat else -1
theorem planBin_yes {b p : Int} {n : Nat} {S : Nat → ByteArray} {c : ByteArray} {x : Int} (h : plan b p n S = true) (h1 : 0 ≤ x) (h2 : x < p) (h3 : 0 ≤ rankTo S c n) : planBin b p n S c x = rankBin b (rankTo S c n) x.toNat := if_pos ⟨h, h1, h2, h3⟩
theorem planBin_no {b p : Int} {n : Nat} {S : Nat → ByteArray} {c : ByteArray} {x : Int} (h : plan b p n S = false ∨ x < 0 ∨ p ≤ x ∨ rankTo S c n < 0) : planBin b p n S c x = -1 := if_neg (by
  rintro ⟨h0, h1, h2, h3⟩
  rcases h with h | h | h | h
  · rw [h] at h0; cases h0
  · omega
  · omega
  · omega)
theorem plan_shape {b p : Int} {n : Nat} {S : Nat → ByteArray} (h : plan b p n S = true) : 2 ≤ b ∧ b ≤ 16 ∧ 1 ≤ p ∧ p ≤ 4 := shape_yes (fits_yes (plan_yes h).1).1
/-- The digits of a rank tell it. -/
theorem digit_step (b r : Int) (k : Nat) (b0 : 2 ≤ b) (b1 : b ≤ 16) (hk : k ≤ 4) : r / pw b (k + 1) * b + rankBin b r k = r / pw b k := by
  unfold rankBin
  rw [pw_succ, ← Int.ediv_ediv_of_nonneg (by have := pw_pos b k b0 b1 hk; omega)]
  have := Int.mul_ediv_add_emod (r / pw b k) b
  rw [Int.mul_comm] at this
  exact this
/-- Letters whose codes have ranks that do not descend. -/
def ordTo (S : Nat → ByteArray) (n : Nat) (C : Nat → ByteArray) : Nat → Int
  | 0 => 0
  | k + 1 => if ordTo S n C k < 0 then -1 else (if rankTo S (C k) n < ordTo S n C k then -1 else rankTo S (C k) n)
def inOrder (b p : Int) (n : Nat) (S : Nat → ByteArray) (m : Nat) (I : Nat → Int) (C : Nat → ByteArray) : Bool := plan b p n S && batch m I C && decide (0 ≤ ordTo S n C m)
theorem ordTo_step {S : Nat → ByteArray} {n : Nat} {C : Nat → ByteArray} {k : Nat} (h : 0 ≤ ordTo S n C k) (h2 : ordTo S n C k ≤ rankTo S (C k) n) : ordTo S n C (k + 1) = rankTo S (C k) n := by
  conv => lhs; unfold ordTo
  rw [if_neg (by omega), if_neg (by omega)]
theorem ordTo_stay {S : Nat → ByteArray} {n : Nat} {C : Nat → ByteArray} {k : Nat} (h : ordTo S n C k < 0) : ∀ {m : Nat}, k ≤ m → ordTo S n C m < 0
  | 0, hk => by have : k = 0 := by omega
                subst this; exact h
  | m + 1, hk => by
    by_cases e : k = m + 1
    · subst e; exact h
    · have := ordTo_stay h (m := m) (by omega)
      unfold ordTo
      rw [if_pos this]; omega
theorem ordTo_fail {S : Nat → ByteArray} {n : Nat} {C : Nat → ByteArray} {k m : Nat} (hk : k < m) (h : 0 ≤ ordTo S n C k) (h2 : rankTo S (C k) n < ordTo S n C k) : ordTo S n C m < 0 := by
  refine ordTo_stay (k := k + 1) ?_ (by omega)
  unfold ordTo
  rw [if_neg (by omega), if_pos h2]; omega
theorem inOrder_no {b p : Int} {n : Nat} {S : Nat → ByteArray} {m : Nat} {I : Nat → Int} {C : Nat → ByteArray} (h : plan b p n S = false ∨ batch m I C = false ∨ ordTo S n C m < 0) : inOrder b p n S m I C = false := by
  unfold inOrder
  rcases h with h | h | h
  · rw [h]; rfl
  · rw [h, Bool.and_false]; rfl
  · rw [decide_eq_false (by omega), Bool.and_false]
theorem inOrder_yes {b p : Int} {n : Nat} {S : Nat → ByteArray} {m : Nat} {I : Nat → Int} {C : Nat → ByteArray} (h : plan b p n S = true) (h1 : batch m I C = true) (h2 : 0 ≤ ordTo S n C m) : inOrder b p n S m I C = true := by
  unfold inOrder
  rw [h, h1, decide_eq_true h2]; rfl
end Go.Proofs.Ytekkajgifgnklaa.M
