/-
  What the bins of a pass by a digit have: digits, places, lengths. No program is named here.
-/
import Derived.Test.YtedhenffolfkeaaSoAll
import Derived.Test.YtedhenffolfkeaaPureA
namespace Go.Proofs.Ytedhenffolfkeaa
open Go.PlainAid (bt get_bt bt_nonneg bt_le)
set_option linter.unusedVariables false

theorem sub_two {α : Type} {x y : α} : ∀ {L : List α}, [x, y].Sublist L → ∃ k1 k2, k1 < k2 ∧ ∃ (h1 : k1 < L.length) (h2 : k2 < L.length), L[k1] = x ∧ L[k2] = y
  | [], h => by simp at h
  | z :: L, h => by
    rcases List.sublist_cons_iff.1 h with h | ⟨t, e, h⟩
    · obtain ⟨k1, k2, hk, h1, h2, e1, e2⟩ := sub_two h
      exact ⟨k1 + 1, k2 + 1, by omega, by simpa using h1, by simpa using h2, by simpa using e1, by simpa using e2⟩
    · injection e with e1 e2
      subst e1 e2
      obtain ⟨k, hk, he⟩ := List.getElem_of_mem (h.subset List.mem_cons_self)
      exact ⟨0, k + 1, by omega, by simp, by simpa using hk, by simp, by simpa using he⟩
theorem sub_next {α : Type} {L : List α} {i : Nat} (hi : i + 1 < L.length) : [L[i], L[i + 1]].Sublist L := by
  have e1 : L.drop i = L[i] :: L.drop (i + 1) := (List.getElem_cons_drop (by omega)).symm
  have e2 : L.drop (i + 1) = L[i + 1] :: L.drop (i + 1 + 1) := (List.getElem_cons_drop hi).symm
  have h : [L[i], L[i + 1]].Sublist (L.drop i) := by
    rw [e1, e2]
    exact ((List.nil_sublist _).cons_cons _).cons_cons _
  exact h.trans (List.drop_sublist _ _)
def digK (q : Nat) (c : ByteArray) : Option Nat := some (bt c q - 48).toNat
theorem binTo_dig (I : Nat → Int) (C : Nat → ByteArray) (q d : Nat) : ∀ k, M.binTo (fun i => digK q (C i)) I C k d = (M.lst I C k).filter fun y => digK q y.2 == some d
  | 0 => rfl
  | k + 1 => by
    have ih := binTo_dig I C q d k
    rw [M.lst_succ, List.filter_append, ← ih]
    obtain ⟨c, h⟩ : ∃ c, digK q (C k) = some c := ⟨_, rfl⟩
    rw [M.binTo_some (key := fun i => digK q (C i)) h]
    simp only
    by_cases e : d = c
    · subst e
      rw [if_pos rfl]
      have e2 : [(I k, C k)].filter (fun y => digK q y.2 == some d) = [(I k, C k)] := by simp [h]
      rw [e2]
    · rw [if_neg e]
      have e2 : [(I k, C k)].filter (fun y => digK q y.2 == some d) = [] := by simp [h]; exact fun e3 => e e3.symm
      rw [e2, List.append_nil]
theorem bins_list (L : List (Int × ByteArray)) (q d : Nat) : M.bins (nI L) (nC L) q L.length d = L.filter fun y => digK q y.2 == some d := by
  have h := binTo_dig (nI L) (nC L) q d L.length
  rw [lst_nI] at h
  exact h
theorem bin_at {L : List (Int × ByteArray)} (hL : BatchL L) {q d : Nat} (hq : q ≤ 6) {i : Nat} (hi : i < (M.bins (nI L) (nC L) q L.length d).length) :
    M.code (nC (M.bins (nI L) (nC L) q L.length d) i) = true ∧ bt (nC (M.bins (nI L) (nC L) q L.length d) i) q - 48 = (d : Int) := by
  have h := List.getElem_mem hi
  rw [nC_at hi]
  obtain ⟨y, hy⟩ : ∃ y, (M.bins (nI L) (nC L) q L.length d)[i] = y := ⟨_, rfl⟩
  rw [hy] at h ⊢
  rw [bins_list] at h
  obtain ⟨hm, hk⟩ := List.mem_filter.1 h
  have hc := (hL.1 y hm).1
  refine ⟨hc, ?_⟩
  have h2 := M.code_yes hc
  have h3 := M.digs_bt h2.1 q (by omega)
  have h4 := beq_iff_eq.1 hk
  unfold digK at h4
  have := Option.some.inj h4
  omega
theorem bin_plc {L : List (Int × ByteArray)} (hL : BatchL L) {q d : Nat} {i : Nat} (hi : i + 1 < (M.bins (nI L) (nC L) q L.length d).length) :
    ∃ k1 k2 : Nat, k1 < k2 ∧ M.findLetter L.length (nI L) (nC L) (nI (M.bins (nI L) (nC L) q L.length d) i) = (k1 : Int) ∧ M.findLetter L.length (nI L) (nC L) (nI (M.bins (nI L) (nC L) q L.length d) (i + 1)) = (k2 : Int) := by
  have h1 := sub_next hi
  have h2 : [(M.bins (nI L) (nC L) q L.length d)[i], (M.bins (nI L) (nC L) q L.length d)[i + 1]].Sublist L := by
    refine h1.trans ?_
    rw [bins_list]
    exact List.filter_sublist
  obtain ⟨k1, k2, hk, l1, l2, e1, e2⟩ := sub_two h2
  refine ⟨k1, k2, hk, ?_, ?_⟩
  · rw [← find_at hL l1, nI_at l1, e1, nI_at (by omega)]
  · rw [← find_at hL l2, nI_at l2, e2, nI_at hi]
theorem flat_le10 (MM : Nat → List (Int × ByteArray)) {N k : Nat} (hk : k < N) : (M.flat MM k).length + (MM k).length ≤ (M.flat MM N).length := by
  have h1 : (M.flat MM (k + 1)).length = (M.flat MM k).length + (MM k).length := by
    show (M.flat MM k ++ MM k).length = _
    rw [List.length_append]
  have h2 : ∀ d, (M.flat MM (k + 1)).length ≤ (M.flat MM (k + 1 + d)).length := fun d => by
    induction d with
    | zero => exact Nat.le_refl _
    | succ d ih =>
      refine Nat.le_trans ih ?_
      show _ ≤ (M.flat MM (k + 1 + d) ++ MM (k + 1 + d)).length
      rw [List.length_append]
      omega
  have h3 := h2 (N - (k + 1))
  rw [show k + 1 + (N - (k + 1)) = N by omega] at h3
  omega
end Go.Proofs.Ytedhenffolfkeaa
