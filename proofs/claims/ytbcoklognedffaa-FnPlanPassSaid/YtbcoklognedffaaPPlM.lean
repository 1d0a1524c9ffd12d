/-
  What the bins of an ordinary pass have: keys, places, lengths. No program is named here.
-/
import Derived.Test.YtbcoklognedffaaStab
import Derived.Test.YtbcoklognedffaaLoads
import Derived.Test.YtbcoklognedffaaRadA
namespace Go.Proofs.Ytbcoklognedffaa
set_option linter.unusedVariables false

theorem flat_upto (MM : Nat → List (Int × ByteArray)) : ∀ {N i : Nat}, i < N → (MM i).length ≤ (M.flat MM N).length
  | N + 1, i, h => by
    show (MM i).length ≤ (M.flat MM N ++ MM N).length
    rw [List.length_append]
    by_cases e : i = N
    · subst e; omega
    · have := flat_upto MM (show i < N by omega); omega
theorem bin_key {b p : Int} {n : Nat} {S : Nat → ByteArray} {L : List (Int × ByteArray)} {q d : Nat} (hp : M.plan b p n S = true) (hq : (q : Int) < p) {i : Nat} (hi : i < (stepB b n S L q d).length) : M.planBin b p n S (nC (stepB b n S L q d) i) q = (d : Int) := by
  obtain ⟨s1, s2, s3, s4⟩ := M.plan_shape hp
  have h := List.getElem_mem hi
  rw [nC_at hi]
  obtain ⟨y, hy⟩ : ∃ y, (stepB b n S L q d)[i] = y := ⟨_, rfl⟩
  rw [hy] at h ⊢
  rw [stepB_filter] at h
  have hk := beq_iff_eq.1 (List.mem_filter.1 h).2
  unfold keyOf at hk
  have hbd := M.rankBin_bd (b := b) (r := M.rankTo S y.2 n) (k := q) s1
  by_cases h0 : M.rankTo S y.2 n < 0
  · rw [if_pos h0] at hk; cases hk
  · rw [if_neg h0] at hk
    have := Option.some.inj hk
    unfold M.planBin
    rw [if_pos ⟨hp, by omega, hq, by omega⟩, Int.toNat_natCast]
    omega
theorem bin_place {b : Int} {n : Nat} {S : Nat → ByteArray} {L : List (Int × ByteArray)} {q d : Nat} (hL : BatchL L) {i : Nat} (hi : i + 1 < (stepB b n S L q d).length) :
    ∃ k1 k2 : Nat, k1 < k2 ∧ M.findLetter L.length (nI L) (nC L) (nI (stepB b n S L q d) i) = (k1 : Int) ∧ M.findLetter L.length (nI L) (nC L) (nI (stepB b n S L q d) (i + 1)) = (k2 : Int) := by
  have h1 := next_sub hi
  have h2 : [(stepB b n S L q d)[i], (stepB b n S L q d)[i + 1]].Sublist L := by
    refine h1.trans ?_
    rw [stepB_filter]
    exact List.filter_sublist
  obtain ⟨k1, k2, hk, l1, l2, e1, e2⟩ := two_sub h2
  refine ⟨k1, k2, hk, ?_, ?_⟩
  · rw [← find_at hL l1, nI_at l1, e1, nI_at (by omega)]
  · rw [← find_at hL l2, nI_at l2, e2, nI_at hi]
theorem rest_rank {b p : Int} {n : Nat} {S : Nat → ByteArray} {L : List (Int × ByteArray)} {q : Nat} (hp : M.plan b p n S = true) {R : List (Int × ByteArray)} (hR : M.restTo (M.planKey b n S (nC L) q) (nI L) (nC L) L.length = R) {i : Nat} (hi : i < R.length) : M.planRank b p n S (nC R i) = -1 := by
  have h := List.getElem_mem hi
  rw [nC_at hi]
  obtain ⟨y, hy⟩ : ∃ y, R[i] = y := ⟨_, rfl⟩
  rw [hy] at h ⊢
  rw [← hR, restL_filter] at h
  have h2 := (List.mem_filter.1 h).2
  unfold hasR at h2
  rw [Bool.not_eq_true', decide_eq_false_iff_not] at h2
  have := M.rank_bd S y.2 n
  unfold M.planRank
  rw [if_pos hp]
  omega
theorem pass_len {b : Int} {n : Nat} {S : Nat → ByteArray} (s1 : 2 ≤ b) (L : List (Int × ByteArray)) (q : Nat) : (M.restTo (M.planKey b n S (nC L) q) (nI L) (nC L) L.length).length + (M.flat (stepB b n S L q) b.toNat).length = L.length := by
  have hp := flat_rest (M.planKey b n S (nC L) q) (nI L) (nC L) b.toNat L.length fun i _ d hd => planKey_bd s1 hd
  have := hp.length_eq
  rw [List.length_append, M.lst_length] at this
  have e : M.flat (M.binTo (M.planKey b n S (nC L) q) (nI L) (nC L) L.length) b.toNat = M.flat (stepB b n S L q) b.toNat := rfl
  rw [e] at this
  omega
theorem lens_at (MM : Nat → List (Int × ByteArray)) {k N : Nat} (h : k < N) (h2 : k < (lens MM N).length) : (lens MM N)[k] = ((MM k).length : Int) := by
  simp [lens]
end Go.Proofs.Ytbcoklognedffaa
