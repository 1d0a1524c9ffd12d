/-
  The seal of letters is that of the sum of their squares: their order does not matter, and one letter less is noticed.
-/
import Derived.Test.YtlamckdnnnifcaaSeal
import Derived.Test.YtlamckdnnnifcaaOrdM
import Derived.Test.YtlamckdnnnifcaaPermM
namespace Go.Proofs.Ytlamckdnnnifcaa
open Go.RowKit
set_option linter.unusedVariables false

def M.sumSq : List (Int × ByteArray) → Int
  | [] => 0
  | y :: L => y.1 * y.1 + M.sumSq L
theorem M.sumSq_append : ∀ A B : List (Int × ByteArray), M.sumSq (A ++ B) = M.sumSq A + M.sumSq B
  | [], B => by show M.sumSq B = 0 + M.sumSq B; omega
  | y :: A, B => by
    show y.1 * y.1 + M.sumSq (A ++ B) = y.1 * y.1 + M.sumSq A + M.sumSq B
    rw [M.sumSq_append A B, Int.add_assoc]
theorem M.sumSq_perm {A B : List (Int × ByteArray)} (p : A.Perm B) : M.sumSq A = M.sumSq B := by
  induction p with
  | nil => rfl
  | cons x _ ih => show x.1 * x.1 + _ = x.1 * x.1 + _; rw [ih]
  | swap x y l => show y.1 * y.1 + (x.1 * x.1 + _) = x.1 * x.1 + (y.1 * y.1 + _); omega
  | trans _ _ h1 h2 => exact h1.trans h2
theorem M.seal_sum (L : List (Int × ByteArray)) : ∀ k, k ≤ L.length → M.seal M.sq (nI L) k = M.sumSq (L.take k) % 9973
  | 0, _ => by rw [List.take_zero]; rfl
  | k + 1, hk => by
    have hk' : k < L.length := by omega
    rw [M.seal_succ, M.seal_sum L k (by omega), List.take_add_one, List.getElem?_eq_getElem hk', Option.toList_some, M.sumSq_append, nI_at hk']
    show (M.sumSq (L.take k) % 9973 + L[k].1 * L[k].1) % 9973 = (M.sumSq (L.take k) + (L[k].1 * L[k].1 + 0)) % 9973
    rw [Int.add_zero, Int.emod_add_emod]
theorem M.seal_all (L : List (Int × ByteArray)) : M.seal M.sq (nI L) L.length = M.sumSq L % 9973 := by
  rw [M.seal_sum L _ (Nat.le_refl _), List.take_length]
theorem seal_perm {A B : List (Int × ByteArray)} (p : A.Perm B) (hB : BatchL B) {n : Nat} (hn : A.length = n) : M.sealOf M.sq n (nI A) (nC A) = M.sealOf M.sq B.length (nI B) (nC B) := by
  subst hn
  rw [M.sealOf_yes ((batchL_list A).2 (hB.perm p.symm)), M.sealOf_yes ((batchL_list B).2 hB), M.seal_all, M.seal_all, M.sumSq_perm p]
theorem prime_all : ((List.range 100).all fun i => (List.range 100).all fun j => decide ((100 * i + j) * (100 * i + j) % 9973 = 0 → (100 * i + j) % 9973 = 0)) = true := by decide +kernel
theorem prime_sq {x : Int} (h0 : 0 ≤ x) (h1 : x ≤ 9999) (h : x * x % 9973 = 0) : x % 9973 = 0 := by
  obtain ⟨k, rfl⟩ := Int.eq_ofNat_of_zero_le h0
  have hk : k < 10000 := by omega
  have h2 := List.all_eq_true.1 (List.all_eq_true.1 prime_all (k / 100) (List.mem_range.2 (by omega))) (k % 100) (List.mem_range.2 (by omega))
  have h3 := of_decide_eq_true h2
  rw [show 100 * (k / 100) + k % 100 = k by omega] at h3
  have h4 : k * k % 9973 = 0 := by
    have : ((k * k : Nat) : Int) % 9973 = 0 := by rw [Int.natCast_mul]; exact h
    omega
  have := h3 h4
  omega
/-- Without one letter. -/
theorem seal_rest {L : List (Int × ByteArray)} (hL : BatchL L) {i : Nat} (hi : i < L.length) :
    BatchL (L.take i ++ L.drop (i + 1)) ∧ (M.sealOf M.sq (L.take i ++ L.drop (i + 1)).length (nI (L.take i ++ L.drop (i + 1))) (nC (L.take i ++ L.drop (i + 1))) + nI L i * nI L i - M.sealOf M.sq L.length (nI L) (nC L)) % 9973 = 0 ∧
      (M.sealOf M.sq (L.take i ++ L.drop (i + 1)).length (nI (L.take i ++ L.drop (i + 1))) (nC (L.take i ++ L.drop (i + 1))) = M.sealOf M.sq L.length (nI L) (nC L) → nI L i % 9973 = 0) ∧ 1 ≤ nI L i ∧ nI L i ≤ 9999 := by
  have hp : (L[i] :: (L.take i ++ L.drop (i + 1))).Perm L := by
    have e : L.take i ++ L[i] :: L.drop (i + 1) = L := by
      rw [← List.drop_eq_getElem_cons hi, List.take_append_drop]
    have := (List.perm_middle (a := L[i]) (l₁ := L.take i) (l₂ := L.drop (i + 1))).symm
    rw [e] at this
    exact this
  have hb : BatchL (L.take i ++ L.drop (i + 1)) := by
    obtain ⟨h1, h2, h3⟩ := hL.perm hp.symm
    rw [List.map_cons] at h2
    exact ⟨fun x hx => h1 x (List.mem_cons_of_mem _ hx), (List.pairwise_cons.1 h2).2, by simp only [List.length_cons] at h3; omega⟩
  have hs := M.sumSq_perm hp
  have hx := (hL.1 _ (List.getElem_mem hi)).2
  rw [nI_at hi]
  have h1 : M.sealOf M.sq L.length (nI L) (nC L) = M.sumSq L % 9973 := by rw [M.sealOf_yes ((batchL_list L).2 hL), M.seal_all]
  have h2 : M.sealOf M.sq (L.take i ++ L.drop (i + 1)).length (nI (L.take i ++ L.drop (i + 1))) (nC (L.take i ++ L.drop (i + 1))) = M.sumSq (L.take i ++ L.drop (i + 1)) % 9973 := by rw [M.sealOf_yes ((batchL_list _).2 hb), M.seal_all]
  have h3 : L[i].1 * L[i].1 + M.sumSq (L.take i ++ L.drop (i + 1)) = M.sumSq L := hs
  rw [h1, h2]
  generalize M.sumSq (L.take i ++ L.drop (i + 1)) = t at h3
  generalize M.sumSq L = u at h3
  obtain ⟨z, hz⟩ : ∃ z, L[i].1 * L[i].1 = z := ⟨_, rfl⟩
  rw [hz] at h3 ⊢
  refine ⟨hb, by omega, fun e => ?_, hx⟩
  refine prime_sq (by omega) (by omega) ?_
  rw [hz]
  omega
end Go.Proofs.Ytlamckdnnnifcaa
