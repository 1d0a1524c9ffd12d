/-
  What a pass by a digit leaves: ascending digits, equal ones in the order of the batch. No program is named here.
-/
import Derived.Test.YtedhenffolfkeaaBinP
import Derived.Test.YtedhenffolfkeaaPass
namespace Go.Proofs.Ytedhenffolfkeaa
open Go.PlainAid (bt get_bt bt_nonneg bt_le)
set_option linter.unusedVariables false

theorem flatF (F : Nat → List (Int × ByteArray)) (q : Int × ByteArray → Bool) : ∀ N, (M.flat F N).filter q = M.flat (fun v => (F v).filter q) N
  | 0 => rfl
  | N + 1 => by
    show (M.flat F N ++ F N).filter q = M.flat (fun v => (F v).filter q) N ++ (F N).filter q
    rw [List.filter_append, flatF F q N]
theorem flatP (F : Nat → List (Int × ByteArray)) (v : Nat) (hF : ∀ u, u ≠ v → F u = []) : ∀ n, M.flat F n = if v < n then F v else []
  | 0 => by rw [if_neg (by omega)]; rfl
  | n + 1 => by
    show M.flat F n ++ F n = _
    rw [flatP F v hF n]
    by_cases h : v < n
    · rw [if_pos h, if_pos (by omega), hF n (by omega), List.append_nil]
    · rw [if_neg h, List.nil_append]
      by_cases e : n = v
      · subst e; rw [if_pos (by omega)]
      · rw [if_neg (by omega), hF n e]
theorem pass_bucket (L : List (Int × ByteArray)) (q : Nat) {v : Nat} (hv : v < 10) : (M.flat (M.bins (nI L) (nC L) q L.length) 10).filter (fun y => digK q y.2 == some v) = L.filter fun y => digK q y.2 == some v := by
  rw [flatF, flatP _ v (fun u hu => ?_), if_pos hv, bins_list, List.filter_filter]
  · congr 1
    funext y
    cases digK q y.2 == some v <;> rfl
  · rw [bins_list, List.filter_filter]
    refine List.filter_eq_nil_iff.2 fun y _ h => ?_
    rw [Bool.and_eq_true, beq_iff_eq, beq_iff_eq] at h
    exact hu (Option.some.inj (h.2.symm.trans h.1))
theorem pass_twice (L : List (Int × ByteArray)) (q : Nat) : M.flat (M.bins (nI (M.flat (M.bins (nI L) (nC L) q L.length) 10)) (nC (M.flat (M.bins (nI L) (nC L) q L.length) 10)) q (M.flat (M.bins (nI L) (nC L) q L.length) 10).length) 10 = M.flat (M.bins (nI L) (nC L) q L.length) 10 := by
  refine M.flat_congr fun d hd => ?_
  rw [bins_list, pass_bucket L q hd, bins_list]
theorem flatA {κ : Int × ByteArray → Int} {F : Nat → List (Int × ByteArray)} (h : ∀ d, ∀ y ∈ F d, κ y = (d : Int)) : ∀ N, (M.flat F N).Pairwise (fun y z => κ y ≤ κ z) ∧ ∀ y ∈ M.flat F N, κ y < (N : Int)
  | 0 => ⟨List.Pairwise.nil, fun y hy => by cases hy⟩
  | N + 1 => by
    obtain ⟨h1, h2⟩ := flatA h N
    refine ⟨?_, fun y hy => ?_⟩
    · show (M.flat F N ++ F N).Pairwise _
      refine List.pairwise_append.2 ⟨h1, ?_, fun y hy z hz => ?_⟩
      · have hp : ∀ (L : List (Int × ByteArray)), (∀ y ∈ L, κ y = (N : Int)) → L.Pairwise (fun y z => κ y ≤ κ z) := fun L hL => by
          refine List.pairwise_iff_getElem.2 fun i j hi hj _ => ?_
          rw [hL _ (List.getElem_mem hi), hL _ (List.getElem_mem hj)]
          exact Int.le_refl _
        exact hp _ (h N)
      · rw [h N z hz]; have := h2 y hy; omega
    · rcases List.mem_append.1 (show y ∈ M.flat F N ++ F N from hy) with hy | hy
      · have := h2 y hy; omega
      · rw [h N y hy]; omega
theorem pass_next {L : List (Int × ByteArray)} (hL : BatchL L) {q : Nat} (hq : q ≤ 6) {R : List (Int × ByteArray)} (hR : M.flat (M.bins (nI L) (nC L) q L.length) 10 = R) {i : Nat} (hi : i + 1 < R.length) :
    bt (nC R i) q ≤ bt (nC R (i + 1)) q ∧ (bt (nC R i) q = bt (nC R (i + 1)) q → ∃ k1 k2 : Nat, k1 < k2 ∧ M.findLetter L.length (nI L) (nC L) (nI R i) = (k1 : Int) ∧ M.findLetter L.length (nI L) (nC L) (nI R (i + 1)) = (k2 : Int)) := by
  have hk : ∀ d, ∀ y ∈ M.bins (nI L) (nC L) q L.length d, bt y.2 q - 48 = (d : Int) := fun d y hy => by
    obtain ⟨j, hj, e⟩ := List.getElem_of_mem hy
    have := (bin_at hL hq hj).2
    rw [nC_at hj, e] at this
    exact this
  have ha := flatA hk 10
  rw [hR] at ha
  have h1 := List.pairwise_iff_getElem.1 ha.1 i (i + 1) (by omega) hi (by omega)
  have h9 := ha.2 _ (List.getElem_mem (show i < R.length by omega))
  rw [nC_at (by omega), nC_at hi]
  refine ⟨by omega, fun e => ?_⟩
  have hb := bt_nonneg R[i].2 q
  obtain ⟨v, hv⟩ : ∃ v : Nat, (bt R[i].2 q - 48).toNat = v := ⟨_, rfl⟩
  have hv10 : v < 10 := by omega
  have d1 : digK q R[i].2 = some v := by unfold digK; rw [hv]
  have d2 : digK q R[i + 1].2 = some v := by unfold digK; rw [← e, hv]
  have h2 := (sub_next hi).filter fun y => digK q y.2 == some v
  have h3 : ([R[i], R[i + 1]].filter fun y => digK q y.2 == some v) = [R[i], R[i + 1]] := by
    rw [List.filter_eq_self]
    intro y hy
    rcases List.mem_cons.1 hy with rfl | hy
    · rw [d1]; simp
    · rw [List.mem_singleton.1 hy, d2]; simp
  have h4 := pass_bucket L q hv10
  rw [hR] at h4
  rw [h3, h4] at h2
  obtain ⟨k1, k2, hk, l1, l2, e1, e2⟩ := sub_two (h2.trans List.filter_sublist)
  refine ⟨k1, k2, hk, ?_, ?_⟩
  · rw [← find_at hL l1, nI_at l1, e1, nI_at (by omega)]
  · rw [← find_at hL l2, nI_at l2, e2, nI_at hi]
end Go.Proofs.Ytedhenffolfkeaa
