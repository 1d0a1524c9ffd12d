/-
  The codes of a batch: each once, ascending; together they have all letters.
-/
import Derived.Test.YtedhenffolfkeaaCodes
import Derived.Test.YtedhenffolfkeaaStbH
import Derived.Test.YtedhenffolfkeaaSplit
namespace Go.Proofs.Ytedhenffolfkeaa
open Go.RowKit
set_option linter.unusedVariables false

theorem M.codesTo_mem (C : Nat → ByteArray) : ∀ k i, i < k → C i ∈ M.codesTo C k
  | k + 1, i, hi => by
    by_cases h : k = 0 ∨ C k ≠ C (k - 1)
    · rw [M.codesTo_yes h]
      by_cases hik : i = k
      · rw [hik]; exact List.mem_append_right _ (List.mem_singleton.2 rfl)
      · exact List.mem_append_left _ (M.codesTo_mem C k i (by omega))
    · rw [M.codesTo_no h]
      by_cases hik : i = k
      · have h0 : ¬ k = 0 := fun e => h (Or.inl e)
        have he : C k = C (k - 1) := Classical.byContradiction fun e => h (Or.inr e)
        rw [hik, he]
        exact M.codesTo_mem C k (k - 1) (by omega)
      · exact M.codesTo_mem C k i (by omega)
theorem M.codesTo_from (C : Nat → ByteArray) : ∀ k c, c ∈ M.codesTo C k → ∃ i, i < k ∧ C i = c
  | 0, c, h => by cases h
  | k + 1, c, hc => by
    by_cases h : k = 0 ∨ C k ≠ C (k - 1)
    · rw [M.codesTo_yes h] at hc
      rcases List.mem_append.1 hc with hc | hc
      · obtain ⟨i, hi, e⟩ := M.codesTo_from C k c hc
        exact ⟨i, by omega, e⟩
      · exact ⟨k, by omega, (List.mem_singleton.1 hc).symm⟩
    · rw [M.codesTo_no h] at hc
      obtain ⟨i, hi, e⟩ := M.codesTo_from C k c hc
      exact ⟨i, by omega, e⟩
theorem less_or {a b : ByteArray} (h : M.less b a = false) (hne : b ≠ a) : M.less a b = true := by
  unfold M.less at h ⊢
  rw [M.bytesLess_other b.toList a.toList, h]
  have : (b.toList == a.toList) = false := by
    rw [beq_eq_false_iff_ne]
    intro e
    rw [ByteArray.toList_eq, ByteArray.toList_eq] at e
    exact hne (WideShapes.bytes_inj e)
  rw [this]; rfl
theorem less_ntr {a b c : ByteArray} (h1 : M.less a b = false) (h2 : M.less b c = false) : M.less a c = false := (ltL_ord (fun _ => 0)).ntr (0, a) (0, b) (0, c) h1 h2
theorem M.codesTo_asc {C : Nat → ByteArray} {n : Nat} (hs : ∀ i j, i < j → j < n → M.less (C j) (C i) = false) : ∀ k, k ≤ n → (M.codesTo C k).Pairwise fun x y => M.less x y = true
  | 0, _ => List.Pairwise.nil
  | k + 1, hk => by
    have ih := M.codesTo_asc hs k (by omega)
    by_cases h : k = 0 ∨ C k ≠ C (k - 1)
    · rw [M.codesTo_yes h, List.pairwise_append]
      refine ⟨ih, List.pairwise_singleton _ _, fun x hx y hy => ?_⟩
      obtain ⟨i, hi, rfl⟩ := M.codesTo_from C k x hx
      rw [List.mem_singleton.1 hy]
      have hne : C k ≠ C (k - 1) := h.resolve_left (by omega)
      have h1 : M.less (C (k - 1)) (C k) = true := less_or (hs (k - 1) k (by omega) (by omega)) hne
      cases e : M.less (C i) (C k)
      · have h2 : M.less (C (k - 1)) (C i) = false := by
          by_cases e2 : i = k - 1
          · rw [e2]; exact bl_irr _
          · exact hs i (k - 1) (by omega) (by omega)
        exact absurd ((less_ntr h2 e).symm.trans h1) (by decide)
      · rfl
    · rw [M.codesTo_no h]; exact ih
/-- How many letters have the code. -/
def cntC (L : List (Int × ByteArray)) (c : ByteArray) : Nat := (L.filter fun y => decide (y.2 = c)).length
/-- How many letters the first codes have. -/
def cumC (L : List (Int × ByteArray)) (K : List ByteArray) : Nat → Nat
  | 0 => 0
  | k + 1 => cumC L K k + cntC L (sC K k)
def inK (K : List ByteArray) (c : ByteArray) : Bool := K.any fun d => decide (c = d)
theorem inK_iff (K : List ByteArray) (c : ByteArray) : inK K c = true ↔ c ∈ K := by
  unfold inK
  rw [List.any_eq_true]
  constructor
  · rintro ⟨d, hd, e⟩
    rw [of_decide_eq_true e]; exact hd
  · exact fun h => ⟨c, h, decide_eq_true rfl⟩
theorem inK_more (K : List ByteArray) (c d : ByteArray) : inK (K ++ [d]) c = (inK K c || decide (c = d)) := by
  unfold inK
  rw [List.any_append]
  simp
theorem filter_one {K : List ByteArray} {c : ByteArray} (hc : c ∉ K) : ∀ L : List (Int × ByteArray), (L.filter fun y => inK (K ++ [c]) y.2).length = (L.filter fun y => inK K y.2).length + (L.filter fun y => decide (y.2 = c)).length
  | [] => rfl
  | x :: L => by
    have ih := filter_one hc L
    cases h1 : inK K x.2
    · by_cases h2 : x.2 = c
      · rw [List.filter_cons_of_pos (by rw [inK_more, h1, decide_eq_true h2]; rfl), List.filter_cons_of_neg (by rw [h1]; decide), List.filter_cons_of_pos (p := fun y : Int × ByteArray => decide (y.2 = c)) (decide_eq_true h2)]
        simp only [List.length_cons]
        omega
      · rw [List.filter_cons_of_neg (by rw [inK_more, h1, decide_eq_false h2]; decide), List.filter_cons_of_neg (by rw [h1]; decide), List.filter_cons_of_neg (by rw [decide_eq_false h2]; decide)]
        exact ih
    · have h2 : ¬ x.2 = c := fun e => hc (e ▸ (inK_iff _ _).1 h1)
      rw [List.filter_cons_of_pos (by rw [inK_more, h1]; rfl), List.filter_cons_of_pos (p := fun y : Int × ByteArray => inK K y.2) h1, List.filter_cons_of_neg (by rw [decide_eq_false h2]; decide)]
      simp only [List.length_cons]
      omega
theorem cumC_is {K : List ByteArray} (hK : K.Nodup) (L : List (Int × ByteArray)) : ∀ k, k ≤ K.length → cumC L K k = (L.filter fun y => inK (K.take k) y.2).length
  | 0, _ => by
    have : L.filter (fun y => inK (K.take 0) y.2) = [] := List.filter_eq_nil_iff.2 fun y _ => by simp [inK]
    rw [this]; rfl
  | k + 1, hk => by
    have e : K.take (k + 1) = K.take k ++ [K[k]] := by rw [List.take_add_one, List.getElem?_eq_getElem (by omega)]; rfl
    have hn : K[k] ∉ K.take k := by
      rw [List.mem_take_iff_getElem]
      rintro ⟨i, hi, e⟩
      exact List.pairwise_iff_getElem.1 hK i k (by omega) (by omega) (by omega) e
    show cumC L K k + cntC L (sC K k) = _
    rw [cumC_is hK L k (by omega), sC_at (by omega), e, filter_one hn L]
    rfl
theorem less_ne {a b : ByteArray} (h : M.less a b = true) : a ≠ b := fun e => by
  rw [e, show M.less b b = false from bl_irr _] at h; cases h
/-- What the law of the codes of a batch asks. -/
theorem codes_law {L : List (Int × ByteArray)} (hL : BatchL L) {K : List ByteArray} (hK : M.codesL L.length (nI L) (nC L) = K) :
    (∀ i, i < K.length → M.countP L.length (nI L) (nC L) (sC K i) = (cntC L (sC K i) : Int) ∧ 1 ≤ cntC L (sC K i) ∧ (sC K i).size = 7) ∧
    (∀ i, i + 1 < K.length → M.less (sC K i) (sC K (i + 1)) = true) ∧ cumC L K K.length = L.length ∧ ∀ k, k ≤ K.length → cumC L K k ≤ 60 := by
  have hb : M.batch L.length (nI L) (nC L) = true := (batchL_list L).2 hL
  have hsl : M.sortL L.length (nI L) (nC L) = sortS L := by rw [sortL_yes hb, lst_nI]
  unfold M.codesL at hK
  rw [hsl] at hK
  have hpm := sortS_perm hL
  have hpw := sorted_pw hL
  obtain ⟨R, hR⟩ : ∃ R, sortS L = R := ⟨_, rfl⟩
  rw [hR] at hK hpm hpw
  have hs : ∀ i j, i < j → j < R.length → M.less (nC R j) (nC R i) = false := fun i j hij hj => by
    rw [nC_at hj, nC_at (by omega : i < R.length)]
    exact List.pairwise_iff_getElem.1 hpw i j (by omega) hj hij
  have hasc := M.codesTo_asc hs R.length (Nat.le_refl _)
  have hmem := M.codesTo_mem (nC R) R.length
  have hfrom := M.codesTo_from (nC R) R.length
  rw [hK] at hasc hmem hfrom
  have hnd : K.Nodup := hasc.imp fun h => less_ne h
  have hin : ∀ c ∈ K, ∃ y ∈ L, y.2 = c := fun c hc => by
    obtain ⟨i, hi, e⟩ := hfrom c hc
    rw [nC_at hi] at e
    exact ⟨R[i], hpm.mem_iff.1 (List.getElem_mem hi), e⟩
  have hall : ∀ y ∈ L, y.2 ∈ K := fun y hy => by
    obtain ⟨i, hi, e⟩ := List.getElem_of_mem (hpm.mem_iff.2 hy)
    have := hmem i hi
    rw [nC_at hi, e] at this
    exact this
  refine ⟨fun i hi => ?_, fun i hi => ?_, ?_, fun k hk => ?_⟩
  · rw [sC_at hi]
    obtain ⟨y, hy, e⟩ := hin _ (List.getElem_mem hi)
    obtain ⟨hd, h7⟩ := M.code_yes (hL.1 y hy).1
    rw [e] at hd h7
    have hok : M.splitOk L.length (nI L) (nC L) K[i] = true := by
      unfold M.splitOk M.prefixOk
      rw [hb, hd, decide_eq_true (by omega : K[i].size ≤ 7)]
      rfl
    refine ⟨?_, ?_, h7⟩
    · have hf : M.withP K[i] L = L.filter fun y => decide (y.2 = K[i]) := by
        unfold M.withP
        refine List.filter_congr fun z hz => ?_
        have hz7 := (M.code_yes (hL.1 z hz).1).2
        rw [M.begins_long (by omega), h7]
        have hz8 : z.2.extract 0 7 = z.2 := by
          rw [← hz7]
          exact ByteArray.extract_zero_size
        rw [hz8]
      rw [M.countP_yes hok, lst_nI, hf]
      rfl
    · unfold cntC
      exact List.length_pos_of_mem (List.mem_filter.2 ⟨hy, decide_eq_true e⟩)
  · rw [sC_at hi, sC_at (by omega)]
    exact List.pairwise_iff_getElem.1 hasc i (i + 1) (by omega) hi (by omega)
  · rw [cumC_is hnd L _ (Nat.le_refl _), List.take_length, List.filter_eq_self.2 fun y hy => (inK_iff _ _).2 (hall y hy)]
  · rw [cumC_is hnd L k hk]
    exact Nat.le_trans (List.length_filter_le _ _) hL.2.2
end Go.Proofs.Ytedhenffolfkeaa
