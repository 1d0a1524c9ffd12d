/-
  Rules that change nothing, on paper.
-/
import Derived.Test.YtiecniogkcgefaaAddRM
import Derived.Test.YtiecniogkcgefaaDelFM
import Derived.Test.YtiecniogkcgefaaTrieM
import Derived.Test.YtiecniogkcgefaaLookS
namespace Go.Proofs.Ytiecniogkcgefaa
open Go.RowKit
open Go.PlainAid (bt get_bt bt_nonneg bt_le)
set_option linter.unusedVariables false

theorem M.ruleAt_iff {P N : Nat → ByteArray} {n : Nat} (hd : ∀ i k, i < n → k < i → M.dgs (P k) ≠ M.dgs (P i)) {q : List Nat} {x : ByteArray} : M.ruleAt P N n q = some x ↔ ∃ i, i < n ∧ M.dgs (P i) = q ∧ N i = x := by
  refine ⟨M.ruleAt_some, ?_⟩
  rintro ⟨i, hi, rfl, rfl⟩
  exact M.ruleAt_hit hd i hi
/-- No two prefixes of valid rules have the same digits. -/
theorem M.rul_apart {P N : Nat → ByteArray} {n : Nat} (h : M.rul n P N = true) : ∀ i k, i < n → k < i → M.dgs (P k) ≠ M.dgs (P i) := fun i k hi hk e => by
  have h2 := (M.rul_yes h).2
  exact (h2 i hi).2.2 k hk (M.dgs_inj (M.prefix_digs (h2 k (by omega)).1).1 (M.prefix_digs (h2 i hi).1).1 e)
section
variable {P N : Nat → ByteArray} {n i : Nat}
theorem M.sansAt_get (hi : i < n) {k : Nat} (hk : k < n - 1) : nF (M.sansAt P N n i) k = P (if k < i then k else k + 1) ∧ nT (M.sansAt P N n i) k = N (if k < i then k else k + 1) := by
  have hl : k < (M.sansAt P N n i).length := by rw [M.sansAt_len hi]; exact hk
  rw [nF_at hl, nT_at hl]
  have hg : (M.sansAt P N n i)[k]? = some (P (if k < i then k else k + 1), N (if k < i then k else k + 1)) := by
    unfold M.sansAt
    by_cases e : k < i
    · rw [if_pos e, List.getElem?_append_left (by rw [M.flst_length]; exact e)]
      simp [M.flst, e]
    · rw [if_neg e, List.getElem?_append_right (by rw [M.flst_length]; omega), M.flst_length]
      have h1 : k - i < n - (i + 1) := by omega
      simp [M.flst, h1]
      rw [show i + 1 + (k - i) = k + 1 by omega]
      exact ⟨rfl, rfl⟩
  rw [List.getElem?_eq_getElem hl] at hg
  rw [Option.some.inj hg]
  exact ⟨rfl, rfl⟩
theorem M.sansAt_rul (h : M.rul n P N = true) (hi : i < n) : M.rul (n - 1) (nF (M.sansAt P N n i)) (nT (M.sansAt P N n i)) = true := by
  obtain ⟨h20, h2⟩ := M.rul_yes h
  refine M.rul_all ((M.rulTo_iff _ _ _).2 fun k hk => ?_) (by omega)
  obtain ⟨e1, e2⟩ := M.sansAt_get (P := P) (N := N) hi hk
  have hj : (if k < i then k else k + 1) < n := by split <;> omega
  rw [e1, e2]
  refine ⟨(h2 _ hj).1, (h2 _ hj).2.1, fun k' hk' e => ?_⟩
  rw [(M.sansAt_get (P := P) (N := N) hi (show k' < n - 1 by omega)).1] at e
  have hlt : (if k' < i then k' else k' + 1) < (if k < i then k else k + 1) := by split <;> split <;> omega
  exact (h2 _ hj).2.2 _ hlt e
/-- The other rules have all ways but one. -/
theorem M.ruleAt_sans (h : M.rul n P N = true) (hi : i < n) (q : List Nat) : M.ruleAt (nF (M.sansAt P N n i)) (nT (M.sansAt P N n i)) (n - 1) q = if q = M.dgs (P i) then none else M.ruleAt P N n q := by
  have hd := M.rul_apart h
  have hd' := M.rul_apart (M.sansAt_rul h hi)
  by_cases e : q = M.dgs (P i)
  · rw [if_pos e]
    subst e
    refine M.ruleAt_none.2 fun k hk e2 => ?_
    rw [(M.sansAt_get (P := P) (N := N) hi hk).1] at e2
    have hj : (if k < i then k else k + 1) < n := by split <;> omega
    rcases Nat.lt_trichotomy (if k < i then k else k + 1) i with h1 | h1 | h1
    · exact hd i _ hi h1 e2
    · split at h1 <;> omega
    · exact hd _ i hj h1 e2.symm
  · rw [if_neg e]
    refine Option.ext fun x => ?_
    rw [M.ruleAt_iff hd', M.ruleAt_iff hd]
    constructor
    · rintro ⟨k, hk, h1, h2⟩
      obtain ⟨e1, e2⟩ := M.sansAt_get (P := P) (N := N) hi hk
      rw [e1] at h1
      rw [e2] at h2
      exact ⟨_, by split <;> omega, h1, h2⟩
    · rintro ⟨j, hj, h1, h2⟩
      have hji : j ≠ i := fun e2 => e (by rw [← h1, e2])
      by_cases hlt : j < i
      · have hk : j < n - 1 := by omega
        obtain ⟨e1, e2⟩ := M.sansAt_get (P := P) (N := N) hi hk
        rw [if_pos hlt] at e1 e2
        exact ⟨j, hk, by rw [e1]; exact h1, by rw [e2]; exact h2⟩
      · have hk : j - 1 < n - 1 := by omega
        obtain ⟨e1, e2⟩ := M.sansAt_get (P := P) (N := N) hi hk
        rw [if_neg (by omega), show j - 1 + 1 = j by omega] at e1 e2
        exact ⟨j - 1, hk, by rw [e1]; exact h1, by rw [e2]; exact h2⟩
end
/-- A rule that changes nothing. -/
def M.dropF (P N : Nat → ByteArray) (n : Nat) (q : ByteArray × ByteArray) : Bool := decide (q.1.size ≠ 0) && decide (M.look (M.ruleAt P N n) q.1 (q.1.size - 1) = some q.2)
theorem M.dropF_zero {P N : Nat → ByteArray} {n : Nat} {q : ByteArray × ByteArray} (h : q.1.size = 0) : M.dropF P N n q = false := by unfold M.dropF; rw [decide_eq_false (by simp [h])]; rfl
theorem M.dropF_more {P N : Nat → ByteArray} {n : Nat} {q : ByteArray × ByteArray} (h : q.1.size ≠ 0) : M.dropF P N n q = decide (M.look (M.ruleAt P N n) q.1 (q.1.size - 1) = some q.2) := by unfold M.dropF; rw [decide_eq_true h]; rfl
def M.shrink (P N : Nat → ByteArray) (n : Nat) : List (ByteArray × ByteArray) := if M.rul n P N = true then M.wof (M.dropF P N n) (M.flst P N n) else []
theorem M.shrink_no {P N : Nat → ByteArray} {n : Nat} (h : M.rul n P N = false) : M.shrink P N n = [] := by unfold M.shrink; rw [h]; rfl
theorem M.shrink_yes {P N : Nat → ByteArray} {n : Nat} (h : M.rul n P N = true) : M.shrink P N n = M.wof (M.dropF P N n) (M.flst P N n) := by unfold M.shrink; exact if_pos h
theorem M.shrink_le (P N : Nat → ByteArray) (n : Nat) : (M.shrink P N n).length ≤ n := by
  cases h : M.rul n P N
  · rw [M.shrink_no h]; exact Nat.zero_le _
  · rw [M.shrink_yes h]
    have := M.wof_le (M.dropF P N n) (M.flst P N n)
    rw [M.flst_length] at this
    exact this
theorem M.shrink_small (P N : Nat → ByteArray) (n : Nat) (hn : n ≤ 1048576) : (M.shrink P N n).length ≤ 1048576 := Nat.le_trans (M.shrink_le P N n) hn
/-- Of all other rules, the one with the longest prefix with which a rule's prefix begins sends letters elsewhere exactly if the rule stays. -/
theorem M.next_sans {P N : Nat → ByteArray} {n i : Nat} (h : M.rul n P N = true) (hi : i < n) : (M.nextTo (nF (M.sansAt P N n i)) (nT (M.sansAt P N n i)) (P i) (n - 1) = N i) ↔ M.dropF P N n (P i, N i) = true := by
  obtain ⟨_, h2⟩ := M.rul_yes h
  have hs := M.sansAt_rul h hi
  have hdi := (M.prefix_digs (h2 i hi).1).1
  have hb := M.lookUp_best hs hdi
  have hnm := (M.name_yes (h2 i hi).2.1).2.1
  have hR := M.ruleAt_sans h hi
  have hne : ∀ {x : ByteArray}, (⟨#[]⟩ : ByteArray) = N i → False := fun e => by rw [← e] at hnm; exact absurd hnm (by decide)
  have key : M.nextTo (nF (M.sansAt P N n i)) (nT (M.sansAt P N n i)) (P i) (n - 1) = N i ↔ M.look (M.ruleAt (nF (M.sansAt P N n i)) (nT (M.sansAt P N n i)) (n - 1)) (P i) (P i).size = some (N i) := by
    rw [hb]
    unfold M.nextTo
    by_cases e : M.bestTo (nF (M.sansAt P N n i)) (P i) (n - 1) < 0
    · rw [if_pos e, if_pos e]
      exact ⟨fun e2 => (hne (x := N i) e2).elim, fun e2 => by cases e2⟩
    · rw [if_neg e, if_neg e]
      exact ⟨fun e2 => by rw [e2], fun e2 => Option.some.inj e2⟩
  rw [key]
  by_cases h0 : (P i).size = 0
  · have e1 : M.look (M.ruleAt (nF (M.sansAt P N n i)) (nT (M.sansAt P N n i)) (n - 1)) (P i) (P i).size = none := by
      rw [h0, M.look_zero, hR, if_pos]
      unfold M.dgs
      rw [h0]; rfl
    rw [e1, M.dropF_zero h0]
    exact ⟨(fun e2 => nomatch e2), (fun e2 => nomatch e2)⟩
  · rw [M.dropF_more h0]
    obtain ⟨m, hm⟩ : ∃ m, (P i).size = m + 1 := ⟨(P i).size - 1, by omega⟩
    have e1 : M.look (M.ruleAt (nF (M.sansAt P N n i)) (nT (M.sansAt P N n i)) (n - 1)) (P i) (P i).size = M.look (M.ruleAt P N n) (P i) m := by
      rw [hm, M.look_miss (by
        rw [hR, if_pos]
        unfold M.dgs
        rw [hm])]
      have hcong : ∀ j, j ≤ m → M.look (M.ruleAt (nF (M.sansAt P N n i)) (nT (M.sansAt P N n i)) (n - 1)) (P i) j = M.look (M.ruleAt P N n) (P i) j := by
        have hq : ∀ j, j ≤ m → M.ruleAt (nF (M.sansAt P N n i)) (nT (M.sansAt P N n i)) (n - 1) (M.dg (P i) j) = M.ruleAt P N n (M.dg (P i) j) := fun j hj => by
          rw [hR, if_neg]
          intro e
          have := congrArg List.length e
          rw [M.dg_length, M.dgs_length] at this
          omega
        intro j
        induction j with
        | zero => intro _; exact hq 0 (Nat.zero_le _)
        | succ j ih =>
          intro hj
          have h1 := hq (j + 1) hj
          cases hc : M.ruleAt P N n (M.dg (P i) (j + 1)) with
          | none => rw [M.look_miss (h1.trans hc), M.look_miss hc]; exact ih (by omega)
          | some x => rw [M.look_hit (h1.trans hc), M.look_hit hc]
      exact hcong m (Nat.le_refl _)
    rw [e1, hm, Nat.add_sub_cancel]
    exact ⟨fun e2 => decide_eq_true e2, fun e2 => of_decide_eq_true e2⟩
theorem M.wof_flst (d : ByteArray × ByteArray → Bool) (P N : Nat → ByteArray) (k : Nat) : M.wof d (M.flst P N (k + 1)) = if d (P k, N k) = true then M.wof d (M.flst P N k) else M.wof d (M.flst P N k) ++ [(P k, N k)] := by
  rw [M.flst_succ]
  unfold M.wof
  rw [List.filter_append]
  cases e : d (P k, N k)
  · rw [if_neg (by decide)]; simp [e]
  · rw [if_pos rfl]; simp [e]
end Go.Proofs.Ytiecniogkcgefaa
