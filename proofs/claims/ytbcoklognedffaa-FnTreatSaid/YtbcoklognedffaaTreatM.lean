/-
  What the passes of a plan leave, for the law of all letters that are treated. No program is named here.
-/
import Derived.Test.YtbcoklognedffaaRadN
import Derived.Test.YtbcoklognedffaaRun
namespace Go.Proofs.Ytbcoklognedffaa
set_option linter.unusedVariables false

theorem restL_filter (b : Int) (n : Nat) (S : Nat → ByteArray) (L : List (Int × ByteArray)) (x : Nat) : M.restTo (M.planKey b n S (nC L) x) (nI L) (nC L) L.length = L.filter fun y => !hasR n S y := by
  show M.restTo (fun i => keyOf b n S x (nC L i)) (nI L) (nC L) L.length = _
  rw [restTo_filter, lst_nI]
  congr 1
  funext y
  unfold keyOf hasR
  by_cases h : M.rankTo S y.2 n < 0
  · rw [if_pos h, decide_eq_false (by omega)]; rfl
  · rw [if_neg h, decide_eq_true (by omega)]; rfl
theorem mem_flat {F : Nat → List (Int × ByteArray)} {y : Int × ByteArray} : ∀ {N : Nat}, y ∈ M.flat F N → ∃ d, d < N ∧ y ∈ F d
  | 0, h => by cases h
  | N + 1, h => by
    rcases List.mem_append.1 (show y ∈ M.flat F N ++ F N from h) with h | h
    · obtain ⟨d, hd, hy⟩ := mem_flat h
      exact ⟨d, by omega, hy⟩
    · exact ⟨N, by omega, h⟩
/-- Behind a pass all letters have ranks. -/
theorem step_ranked {b : Int} (b0 : 2 ≤ b) (b1 : b ≤ 16) {n : Nat} {S : Nat → ByteArray} {L : List (Int × ByteArray)} {x N : Nat} (hx : x ≤ 4) : ∀ y ∈ M.flat (stepB b n S L x) N, hasR n S y = true := fun y hy => by
  obtain ⟨d, _, hd⟩ := mem_flat hy
  rw [stepB_filter] at hd
  have := (List.mem_filter.1 hd).2
  rw [keyOf_some b0 b1 hx, Bool.and_eq_true] at this
  exact this.1
theorem passL_rest {b : Int} (b0 : 2 ≤ b) (b1 : b ≤ 16) {n : Nat} {S : Nat → ByteArray} (L : List (Int × ByteArray)) (k : Nat) : 0 < k → M.restTo (M.planKey b n S (nC (passL b n S 0 L k)) k) (nI (passL b n S 0 L k)) (nC (passL b n S 0 L k)) (passL b n S 0 L k).length = [] := fun hk => by
  rw [restL_filter, List.filter_eq_nil_iff]
  intro y hy
  obtain ⟨j, rfl⟩ : ∃ j, k = j + 1 := ⟨k - 1, by omega⟩
  by_cases hj : 0 + j ≤ 4
  · rw [step_ranked b0 b1 hj y hy]
    decide
  · have hd := hy
    obtain ⟨d, _, hd⟩ := mem_flat hd
    rw [stepB_filter] at hd
    have h2 := (List.mem_filter.1 hd).2
    unfold keyOf at h2
    unfold hasR
    by_cases h : M.rankTo S y.2 n < 0
    · rw [if_pos h] at h2; cases h2
    · rw [decide_eq_true (by omega)]; decide
theorem step_perm {b : Int} (b0 : 2 ≤ b) (n : Nat) (S : Nat → ByteArray) (L : List (Int × ByteArray)) (x : Nat) : (M.flat (stepB b n S L x) b.toNat ++ L.filter fun y => !hasR n S y).Perm L := by
  have h := flat_rest (M.planKey b n S (nC L) x) (nI L) (nC L) b.toNat L.length fun i _ d hd => planKey_bd b0 hd
  rw [lst_nI, restL_filter] at h
  exact h
/-- How many letters there are behind k passes. -/
theorem passL_len {b : Int} (b0 : 2 ≤ b) {n : Nat} {S : Nat → ByteArray} (L : List (Int × ByteArray)) : ∀ k, (passL b n S 0 L k).length = if k = 0 then L.length else L.length - (L.filter fun y => !hasR n S y).length
  | 0 => rfl
  | k + 1 => by
    have ih := passL_len b0 (n := n) (S := S) L k
    have hp := step_perm b0 n S (passL b n S 0 L k) (0 + k)
    have hl := hp.length_eq
    rw [List.length_append] at hl
    have e : (passL b n S 0 L (k + 1)).length = (M.flat (stepB b n S (passL b n S 0 L k) (0 + k)) b.toNat).length := rfl
    rw [if_neg (by omega), e]
    by_cases h : k = 0
    · subst h
      have e0 : passL b n S 0 L 0 = L := rfl
      rw [e0] at hl ⊢
      omega
    · rw [if_neg h] at ih
      have hz : ((passL b n S 0 L k).filter fun y => !hasR n S y) = [] := by
        obtain ⟨j, rfl⟩ : ∃ j, k = j + 1 := ⟨k - 1, by omega⟩
        rw [List.filter_eq_nil_iff]
        intro y hy
        obtain ⟨d, _, hd⟩ := mem_flat (show y ∈ M.flat (stepB b n S (passL b n S 0 L j) (0 + j)) b.toNat from hy)
        rw [stepB_filter] at hd
        have h2 := (List.mem_filter.1 hd).2
        unfold keyOf at h2
        unfold hasR
        by_cases h : M.rankTo S y.2 n < 0
        · rw [if_pos h] at h2; cases h2
        · rw [decide_eq_true (by omega)]; decide
      rw [hz, List.length_nil, Nat.add_zero] at hl
      omega
/-- All passes, from the first one on, are what RunPlan does. -/
theorem run_passes {b p : Int} {n : Nat} {S : Nat → ByteArray} {m : Nat} {I : Nat → Int} {C : Nat → ByteArray} (b0 : 2 ≤ b) (b1 : b ≤ 16) (h : runOk b p n S m I C = true) : srt n S (M.lst I C m) = passL b n S 0 (M.lst I C m) p.toNat := by
  obtain ⟨hp, hb⟩ := runOk_yes h
  obtain ⟨s1, s2, s3, s4⟩ := M.plan_shape hp
  rw [← runList_srt h]
  unfold runList
  rw [if_pos h]
  have key : ∀ t, t ≤ 3 → M.flat (binsAt b n S m I C t) b.toNat = passL b n S 0 (M.lst I C m) (t + 1) := by
    intro t
    induction t with
    | zero =>
      intro _
      show _ = M.flat (stepB b n S (M.lst I C m) (0 + 0)) b.toNat
      refine M.flat_congr fun d _ => ?_
      rw [stepB_filter]
      show M.binTo (fun i => keyOf b n S 0 (C i)) I C m d = _
      exact binTo_filter _ I C d m
    | succ t ih =>
      intro ht
      show M.flat (stepB b n S (M.flat (binsAt b n S m I C t) b.toNat) (t + 1)) b.toNat = M.flat (stepB b n S (passL b n S 0 (M.lst I C m) (t + 1)) (0 + (t + 1))) b.toNat
      rw [ih (by omega), Nat.zero_add]
  rw [key (p.toNat - 1) (by omega), show p.toNat - 1 + 1 = p.toNat by omega]
theorem sumb {j m rl : Nat} {sm : Int} (hj : j ≤ 3) (hm : m ≤ 60) (hr : rl ≤ m) (h : sm = (if j = 0 then 0 else (m : Int) + ((j : Int) - 1) * ((m : Int) - (rl : Int)))) : (0 ≤ sm ∧ sm ≤ 1000) ∨ False := by
  refine Or.inl ?_
  rw [h]
  rcases j with _ | _ | _ | _ | j
  · simp
  · rw [if_neg (by omega)]; omega
  · rw [if_neg (by omega)]; omega
  · rw [if_neg (by omega)]; omega
  · omega
theorem treat_sum (m rl : Nat) (q : Int) : (m : Int) + (q - 1) * ((m : Int) - (rl : Int)) = ((m : Int) - (rl : Int)) * q + (rl : Int) := by
  rw [Int.sub_mul, Int.one_mul, Int.mul_comm q]
  omega
end Go.Proofs.Ytbcoklognedffaa
