/-
  Sorted is: no pair in the wrong order. And the pairs of letters turned round.
-/
import Derived.Test.YtedhenffolfkeaaInvM
import Derived.Test.YtedhenffolfkeaaPermM
import Derived.Test.YtedhenffolfkeaaSoTurn
namespace Go.Proofs.Ytedhenffolfkeaa
open Go.RowKit

theorem M.coless : ∀ c a b : List UInt8, Op.bytesLess c a = true → Op.bytesLess c b = true ∨ Op.bytesLess b a = true
  | [], [], _, h => by simp [Op.bytesLess] at h
  | _ :: _, [], _, h => by simp [Op.bytesLess] at h
  | c, _ :: _, [], _ => Or.inr (by simp [Op.bytesLess])
  | [], _ :: _, _ :: _, _ => Or.inl (by simp [Op.bytesLess])
  | x :: c, z :: a, y :: b, h => by
    have ih := M.coless c a b
    unfold Op.bytesLess at h ⊢
    simp only [UInt8.lt_iff_toNat_lt] at h ⊢
    by_cases h1 : x.toNat < y.toNat
    · left; simp [h1]
    · by_cases h2 : y.toNat < z.toNat
      · right; simp [h2]
      · by_cases h3 : x.toNat < z.toNat
        · omega
        · by_cases h4 : z.toNat < x.toNat
          · have hz : ¬ x = z := fun e => by subst e; omega
            simp [h3, hz] at h
          · have e1 : x = y := UInt8.toNat_inj.1 (by omega)
            have e2 : y = z := UInt8.toNat_inj.1 (by omega)
            subst e1 e2
            simp only [Nat.lt_irrefl, decide_false, Bool.false_or, beq_self_eq_true, Bool.true_and] at h ⊢
            exact ih h
theorem M.invAt_zero {C : Nat → ByteArray} {i : Nat} : ∀ {k : Nat}, M.invAt C i k = 0 ↔ ∀ j, j < k → M.less (C i) (C j) = false
  | 0 => ⟨fun _ j hj => absurd hj (by omega), fun _ => rfl⟩
  | k + 1 => by
    have ih := M.invAt_zero (C := C) (i := i) (k := k)
    cases h : M.less (C i) (C k)
    · rw [M.invAt_no h, ih]
      constructor
      · intro hh j hj
        by_cases e : j = k
        · rw [e]; exact h
        · exact hh j (by omega)
      · intro hh j hj
        exact hh j (by omega)
    · rw [M.invAt_yes h]
      constructor
      · intro hh; omega
      · intro hh
        have := hh k (by omega)
        rw [h] at this
        cases this
theorem M.inv_zero {C : Nat → ByteArray} : ∀ {n : Nat}, M.inv C n = 0 ↔ ∀ i, i < n → ∀ j, j < i → M.less (C i) (C j) = false
  | 0 => ⟨fun _ i hi => absurd hi (by omega), fun _ => rfl⟩
  | n + 1 => by
    have ih := M.inv_zero (C := C) (n := n)
    have hz := M.invAt_zero (C := C) (i := n) (k := n)
    rw [M.inv_succ]
    constructor
    · intro h i hi
      by_cases e : i = n
      · rw [e]; exact hz.1 (by omega)
      · exact ih.1 (by omega) i (by omega)
    · intro h
      have h1 := ih.2 fun i hi => h i (by omega)
      have h2 := hz.2 (h n (by omega))
      omega
theorem M.asc_inv (C : Nat → ByteArray) : ∀ n, M.asc C n = decide (M.inv C n = 0)
  | 0 => rfl
  | 1 => rfl
  | n + 2 => by
    have ih := M.asc_inv C (n + 1)
    show (M.asc C (n + 1) && !M.less (C (n + 1)) (C n)) = _
    rw [ih]
    by_cases h : M.inv C (n + 1) = 0
    · rw [decide_eq_true h]
      have hall := M.inv_zero.1 h
      cases hl : M.less (C (n + 1)) (C n)
      · symm
        simp only [Bool.true_and, Bool.not_false, decide_eq_true_eq]
        refine M.inv_zero.2 fun i hi j hj => ?_
        by_cases e : i = n + 1
        · subst e
          by_cases e2 : j = n
          · rw [e2]; exact hl
          · cases hx : M.less (C (n + 1)) (C j)
            · rfl
            · rcases M.coless _ _ (C n).toList hx with h1 | h1
              · exact absurd (show M.less (C (n + 1)) (C n) = true from h1) (by rw [hl]; decide)
              · exact absurd (show M.less (C n) (C j) = true from h1) (by rw [hall n (by omega) j (by omega)]; decide)
        · exact hall i (by omega) j hj
      · symm
        simp only [Bool.true_and, Bool.not_true, decide_eq_false_iff_not]
        intro hz
        have := M.inv_zero.1 hz (n + 1) (by omega) n (by omega)
        rw [hl] at this
        cases this
    · rw [decide_eq_false h, Bool.false_and]
      symm
      rw [decide_eq_false_iff_not]
      intro hz
      exact h (M.inv_zero.2 fun i hi => M.inv_zero.1 hz i (by omega))
theorem inversions_turned {n : Nat} {I : Nat → Int} {C : Nat → ByteArray} (h : M.batch n I C = true) : M.inversions (M.lst I C n).reverse.length (nI (M.lst I C n).reverse) (nC (M.lst I C n).reverse) = (M.ups C n : Int) := by
  have hb := (batchL_list _).2 (((batchL_iff n I C).1 h).perm (List.reverse_perm _).symm)
  have hl : (M.lst I C n).reverse.length = n := by rw [List.length_reverse, lst_len]
  rw [M.inversions_yes hb, hl, ← M.inv_rev C n]
  congr 1
  refine M.inv_congr n fun i hi => ?_
  rw [nC_at (by omega), List.getElem_reverse, lst_get, lst_len]
theorem pairs_sum (C : Nat → ByteArray) (n : Nat) (hn : n ≤ 61) : (n : Int) * ((n : Int) - 1) = 2 * ((M.inv C n : Int) + M.ups C n + M.eqs C n) ∧ (M.inv C n : Int) + M.ups C n + M.eqs C n ≤ 1860 := by
  have h := M.all_pairs C n
  have e : (n : Int) * ((n : Int) - 1) = ((n * n : Nat) : Int) - n := by rw [Int.mul_sub, Int.mul_one]; simp
  have h2 : n * n ≤ 61 * 61 := Nat.mul_le_mul hn hn
  rw [e]
  omega
end Go.Proofs.Ytedhenffolfkeaa
