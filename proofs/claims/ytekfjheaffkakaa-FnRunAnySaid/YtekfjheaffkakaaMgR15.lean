/-
  Letters in order are those that lie rank by rank. No program is named here.
-/
import Derived.Test.YtekfjheaffkakaaRadM
import Derived.Test.YtekfjheaffkakaaMgR5
import Derived.Test.YtekfjheaffkakaaMgR12
import Derived.Test.YtekfjheaffkakaaMgR13
import Derived.BigQuiet
namespace Go.Proofs.Ytekfjheaffkakaa
set_option linter.unusedVariables false

theorem ord_back {S : Nat → ByteArray} {n : Nat} {C : Nat → ByteArray} {k : Nat} (h : 0 ≤ M.ordTo S n C (k + 1)) : 0 ≤ M.ordTo S n C k ∧ M.ordTo S n C k ≤ M.rankTo S (C k) n ∧ M.ordTo S n C (k + 1) = M.rankTo S (C k) n := by
  have e : M.ordTo S n C (k + 1) = if M.ordTo S n C k < 0 then -1 else (if M.rankTo S (C k) n < M.ordTo S n C k then -1 else M.rankTo S (C k) n) := rfl
  by_cases h1 : M.ordTo S n C k < 0
  · rw [e, if_pos h1] at h; omega
  · rw [if_neg h1] at e
    by_cases h2 : M.rankTo S (C k) n < M.ordTo S n C k
    · rw [e, if_pos h2] at h; omega
    · rw [if_neg h2] at e
      exact ⟨by omega, by omega, e⟩
theorem asc_of_ord {S : Nat → ByteArray} {n : Nat} {I : Nat → Int} {C : Nat → ByteArray} : ∀ m, 0 ≤ M.ordTo S n C m → (M.lst I C m).Pairwise (fun x y => rkN n S x ≤ rkN n S y) ∧ (∀ y ∈ M.lst I C m, hasR n S y = true ∧ (rkN n S y : Int) ≤ M.ordTo S n C m)
  | 0, _ => ⟨List.Pairwise.nil, fun y hy => by cases hy⟩
  | m + 1, h => by
    obtain ⟨h1, h2, h3⟩ := ord_back h
    obtain ⟨i1, i2⟩ := asc_of_ord m h1
    have hr : 0 ≤ M.rankTo S (C m) n := by omega
    have hk : (rkN n S (I m, C m) : Int) = M.rankTo S (C m) n := Int.toNat_of_nonneg hr
    rw [M.lst_succ]
    refine ⟨List.pairwise_append.2 ⟨i1, List.pairwise_singleton _ _, fun x hx y hy => ?_⟩, fun y hy => ?_⟩
    · rw [List.mem_singleton.1 hy]
      have := (i2 x hx).2
      omega
    · rcases List.mem_append.1 hy with hy | hy
      · have := i2 y hy
        exact ⟨this.1, by omega⟩
      · rw [List.mem_singleton.1 hy]
        exact ⟨decide_eq_true hr, by omega⟩
theorem cut_asc {n : Nat} {S : Nat → ByteArray} (N : Nat) : ∀ {L : List (Int × ByteArray)}, L.Pairwise (fun x y => rkN n S x ≤ rkN n S y) → L.filter (fun y => decide (rkN n S y < N)) ++ L.filter (fun y => rkN n S y == N) = L.filter (fun y => decide (rkN n S y < N + 1))
  | [], _ => rfl
  | x :: L, h => by
    obtain ⟨h1, h2⟩ := List.pairwise_cons.1 h
    have ih := cut_asc (n := n) (S := S) N h2
    by_cases a : rkN n S x < N
    · have e1 : decide (rkN n S x < N) = true := decide_eq_true a
      have e2 : (rkN n S x == N) = false := by rw [beq_eq_false_iff_ne]; omega
      have e3 : decide (rkN n S x < N + 1) = true := decide_eq_true (by omega)
      rw [List.filter_cons_of_pos (by simpa using a), List.filter_cons_of_neg (by simpa using e2), List.filter_cons_of_pos (by rw [e3]), List.cons_append, ih]
    · have z : L.filter (fun y => decide (rkN n S y < N)) = [] := by
        rw [List.filter_eq_nil_iff]
        intro y hy h5
        have := h1 y hy
        have := of_decide_eq_true h5
        omega
      rw [z, List.nil_append] at ih
      by_cases b : rkN n S x = N
      · rw [List.filter_cons_of_neg (by simpa using a), List.filter_cons_of_pos (by simpa using b), List.filter_cons_of_pos (by simp; omega), z, List.nil_append, ih]
      · rw [List.filter_cons_of_neg (by simpa using a), List.filter_cons_of_neg (by simpa using b), List.filter_cons_of_neg (by simp; omega), z, List.nil_append, ih]
theorem srt_of_asc {n : Nat} {S : Nat → ByteArray} {L : List (Int × ByteArray)} (h : L.Pairwise (fun x y => rkN n S x ≤ rkN n S y)) (hr : ∀ y ∈ L, hasR n S y = true) : srt n S L = L := by
  have e : ∀ N, M.flat (fun v => L.filter fun y => hasR n S y && rkN n S y == v) N = L.filter fun y => decide (rkN n S y < N) := by
    intro N
    induction N with
    | zero =>
      symm
      show L.filter (fun y => decide (rkN n S y < 0)) = []
      rw [List.filter_eq_nil_iff]
      intro y _ h
      have := of_decide_eq_true h
      omega
    | succ N ih =>
      show M.flat _ N ++ L.filter (fun y => hasR n S y && rkN n S y == N) = _
      rw [ih, ← cut_asc N h]
      congr 1
      exact List.filter_congr fun y hy => by rw [hr y hy, Bool.true_and]
  unfold srt
  rw [e n, List.filter_eq_self]
  intro y hy
  exact decide_eq_true (rank_lt n S y (hr y hy))
theorem inOrder_yes {b p : Int} {n : Nat} {S : Nat → ByteArray} {m : Nat} {I : Nat → Int} {C : Nat → ByteArray} (h : runOk b p n S m I C = true) : M.inOrder b p n S m I C = decide (0 ≤ M.ordTo S n C m) := by
  obtain ⟨hp, hb⟩ := runOk_yes h
  unfold M.inOrder
  rw [hp, hb]
  rfl
theorem inOrder_not {b p : Int} {n : Nat} {S : Nat → ByteArray} {m : Nat} {I : Nat → Int} {C : Nat → ByteArray} (h : runOk b p n S m I C = false) : M.inOrder b p n S m I C = false := by
  unfold runOk at h
  rcases (Bool.and_eq_false_iff).1 h with h | h
  · exact M.inOrder_no (Or.inl h)
  · exact M.inOrder_no (Or.inr (Or.inl h))
/-- Letters that lie rank by rank are in order. -/
theorem ord_srt (n : Nat) (S : Nat → ByteArray) (L : List (Int × ByteArray)) : 0 ≤ M.ordTo S n (nC (srt n S L)) (srt n S L).length :=
  (ordTo_asc (srt_asc n S L).1 (srt_asc n S L).2 _ (Nat.le_refl _)).1
/-- A batch is in order exactly if no letter is without a rank and all lie rank by rank. -/
theorem inOrder_iff {b p : Int} {n : Nat} {S : Nat → ByteArray} {m : Nat} {I : Nat → Int} {C : Nat → ByteArray} (h : runOk b p n S m I C = true) : M.inOrder b p n S m I C = (decide (((M.lst I C m).filter fun y => !hasR n S y) = []) && decide (srt n S (M.lst I C m) = M.lst I C m)) := by
  rw [inOrder_yes h, Bool.eq_iff_iff, Bool.and_eq_true, decide_eq_true_eq, decide_eq_true_eq, decide_eq_true_eq]
  constructor
  · intro h0
    obtain ⟨h1, h2⟩ := asc_of_ord (I := I) m h0
    refine ⟨?_, srt_of_asc h1 fun y hy => (h2 y hy).1⟩
    rw [List.filter_eq_nil_iff]
    intro y hy
    rw [(h2 y hy).1]
    decide
  · rintro ⟨_, h2⟩
    have := ord_srt n S (M.lst I C m)
    rw [h2] at this
    rw [M.lst_length] at this
    have hc : ∀ k, k ≤ m → M.ordTo S n (nC (M.lst I C m)) k = M.ordTo S n C k := by
      intro k
      induction k with
      | zero => intro _; rfl
      | succ k ih =>
        intro hk
        show (if M.ordTo S n (nC (M.lst I C m)) k < 0 then -1 else (if M.rankTo S (nC (M.lst I C m) k) n < M.ordTo S n (nC (M.lst I C m)) k then -1 else M.rankTo S (nC (M.lst I C m) k) n)) = (if M.ordTo S n C k < 0 then -1 else (if M.rankTo S (C k) n < M.ordTo S n C k then -1 else M.rankTo S (C k) n))
        rw [ih (by omega), (show nC (M.lst I C m) k = C k from by
          have hl : k < (M.lst I C m).length := by rw [M.lst_length]; omega
          rw [nC_at hl]; simp [M.lst])]
    rw [hc m (Nat.le_refl _)] at this
    exact this
end Go.Proofs.Ytekfjheaffkakaa

/-
  Where a letter stands; whether two batches have the same letters in any order.
-/
namespace Go.Proofs.Ytekfjheaffkakaa
open Go.RowKit
set_option linter.unusedVariables false

/-- Where a letter of a batch stands. -/
theorem find_at {L : List (Int × ByteArray)} (h : BatchL L) {k : Nat} (hk : k < L.length) : M.findLetter L.length (nI L) (nC L) (nI L k) = (k : Int) := by
  rw [M.findLetter_yes ((batchL_list L).2 h)]
  refine M.find_hit hk rfl fun j hj e => ?_
  have hd := (List.pairwise_map.1 h.2.1)
  have := List.pairwise_iff_getElem.1 hd j k (by omega) hk hj
  rw [nI_at (by omega), nI_at hk] at e
  exact this e
end Go.Proofs.Ytekfjheaffkakaa
