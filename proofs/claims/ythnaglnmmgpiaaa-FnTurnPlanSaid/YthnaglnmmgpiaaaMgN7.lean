/-
  slices.Reverse of strings that the call itself has made.
-/
import Derived.Test.YthnaglnmmgpiaaaMgN6
import Derived.Test.YthnaglnmmgpiaaaRadM
namespace Go.Proofs.Ythnaglnmmgpiaaa
open Go.RowKit
set_option linter.unusedVariables false

theorem srow_cell {w : World} {base g n c : Nat} {S : Nat → ByteArray} (h : SRow w base (.slice (some ⟨g, 0, none⟩) n c) (sst S n)) {j : Nat} (hj : j < n) :
    w.cell? ⟨g, j, none⟩ = some (.string (S j)) ∧ w.frozen? ⟨g, j, none⟩ = false := by
  have h' : SRow w base (.slice (some ⟨g, 0, none⟩) (sst S n).length c) (sst S n) := by rw [sst_length]; exact h
  have := h'.cellAt j (by rw [sst_length]; exact hj)
  have e3 : (sst S n)[j]'(by rw [sst_length]; exact hj) = S j := by simp [sst]
  rw [e3] at this
  exact this
theorem sst_set (S : Nat → ByteArray) (n j : Nat) (s : ByteArray) : (sst S n).set j s = sst (fun t => if t = j then s else S t) n := by
  apply List.ext_getElem?
  intro i
  simp only [sst, List.getElem?_set, List.length_map, List.length_range, List.getElem?_map]
  by_cases h : i < n
  · by_cases e : j = i
    · subst e; simp [h]
    · have e' : ¬ i = j := fun q => e q.symm
      simp [h, e, e']
  · by_cases e : j = i
    · subst e; simp [h]
    · simp [h, e]
theorem srow_put {w : World} {base g n c : Nat} {S : Nat → ByteArray} (h : SRow w base (.slice (some ⟨g, 0, none⟩) n c) (sst S n)) (j : Nat) (s : ByteArray) :
    SRow (w.setCell ⟨g, j, none⟩ (.string s)) base (.slice (some ⟨g, 0, none⟩) n c) (sst (fun t => if t = j then s else S t) n) := by
  have h' : SRow w base (.slice (some ⟨g, 0, none⟩) (sst S n).length c) (sst S n) := by rw [sst_length]; exact h
  have := h'.put j s
  rw [sst_set, sst_length] at this
  exact this
theorem sst_congr {S T : Nat → ByteArray} {n : Nat} (h : ∀ i, i < n → S i = T i) : sst S n = sst T n := by
  unfold sst
  exact List.map_congr_left fun i hi => h i (List.mem_range.1 hi)
/-- The outer k have changed places. -/
def rvTo (S : Nat → ByteArray) (n k : Nat) (t : Nat) : ByteArray := if t < k ∨ n ≤ t + k then S (n - 1 - t) else S t
theorem rvTo_zero (S : Nat → ByteArray) (n : Nat) : sst (rvTo S n 0) n = sst S n :=
  sst_congr fun i hi => by unfold rvTo; rw [if_neg (by omega)]
theorem rvTo_end (S : Nat → ByteArray) (n k : Nat) (h : n ≤ 2 * k + 1) : sst (rvTo S n k) n = sst (fun t => S (n - 1 - t)) n :=
  sst_congr fun i hi => by
    unfold rvTo
    by_cases c : i < k ∨ n ≤ i + k
    · rw [if_pos c]
    · rw [if_neg c]
      have : n - 1 - i = i := by omega
      rw [this]
theorem rvTo_swap (S : Nat → ByteArray) (n k : Nat) (h : 2 * k + 1 < n) :
    sst (fun t => if t = n - 1 - k then S k else if t = k then S (n - 1 - k) else rvTo S n k t) n = sst (rvTo S n (k + 1)) n :=
  sst_congr fun i hi => by
    by_cases e1 : i = n - 1 - k
    · subst e1
      rw [if_pos rfl]
      unfold rvTo
      rw [if_pos (by omega)]
      congr 1; omega
    · rw [if_neg e1]
      by_cases e2 : i = k
      · subst e2
        rw [if_pos rfl]
        unfold rvTo
        rw [if_pos (by omega)]
      · rw [if_neg e2]
        unfold rvTo
        by_cases c : i < k ∨ n ≤ i + k
        · rw [if_pos c, if_pos (by omega)]
        · rw [if_neg c, if_neg (by omega)]
theorem rvTo_lo (S : Nat → ByteArray) (n k : Nat) (h : 2 * k + 1 < n) : rvTo S n k k = S k := by unfold rvTo; rw [if_neg (by omega)]
theorem rvTo_hi (S : Nat → ByteArray) (n k : Nat) (h : 2 * k + 1 < n) : rvTo S n k (n - 1 - k) = S (n - 1 - k) := by unfold rvTo; rw [if_neg (by omega)]

set_option maxHeartbeats 2000000 in
theorem sreverse_some (w : World) (base g n c : Nat) (S : Nat → ByteArray) (hr : SRow w base (.slice (some ⟨g, 0, none⟩) n c) (sst S n)) (hbw : base ≤ w.heap.size) (hbg : base ≤ g) (hn : n ≤ 1048576) (hc : n ≤ c) :
    Calls Try.prog 25 #[.slice (some ⟨g, 0, none⟩) n c] w fun e w' => e = .returned (.tuple #[]) ∧ SRow w' base (.slice (some ⟨g, 0, none⟩) n c) (sst (fun t => S (n - 1 - t)) n) ∧ Below base w w' ∧ w.heap.size ≤ w'.heap.size := by
  have HR := Lib.hid hr
  clear hr
  go_enter Try.func25, Try.ntmps25
  go_wp2
  go_loopw [2, 3] (fun i j wr => ∃ k : Nat, 2 * k ≤ n + 1 ∧ i = .int .i64 k ∧ j = .int .i64 ((n : Int) - 1 - k) ∧ Hid (SRow wr base (.slice (some ⟨g, 0, none⟩) n c) (sst (rvTo S n k) n)) ∧ Hid (Below base w wr) ∧ w.heap.size ≤ wr.heap.size) (fun i j _ => n + 1 - (intOf i).toNat)
  case atStart => exact ⟨0, by omega, rfl, by go_num, by rw [Hid, rvTo_zero]; exact HR.out, Below.refl _ _, Nat.le_refl _⟩
  case round =>
    obtain ⟨k, hk, rfl, rfl, hrow, hb, hz⟩ := hrel
    by_cases hlt : 2 * k + 1 < n
    · obtain ⟨c1, f1⟩ := srow_cell hrow.out (j := k) (by omega)
      obtain ⟨c2, f2⟩ := srow_cell hrow.out (j := n - 1 - k) (by omega)
      rw [rvTo_lo S n k hlt] at c1
      rw [rvTo_hi S n k hlt] at c2
      have hj : (n : Int) - 1 - k = ((n - 1 - k : Nat) : Int) := by omega
      obtain ⟨m, hm⟩ : ∃ m, n - 1 - k = m := ⟨_, rfl⟩
      rw [hm] at hj c2 f2
      rw [hj]
      have hkm : k < m := by omega
      have hmn : m < n := by omega
      have R3 : Hid (SRow ((wr.setCell ⟨g, k, none⟩ (.string (S m))).setCell ⟨g, m, none⟩ (.string (S k))) base (.slice (some ⟨g, 0, none⟩) n c) (sst (rvTo S n (k + 1)) n)) := by
        have := srow_put (srow_put hrow.out k (S m)) m (S k)
        rw [← rvTo_swap S n k hlt, hm]
        exact this
      have HM := Lib.hid hm
      clear hm hj
      go_wp2
      go_region
      all_goals
        go_wp2
        exact ⟨⟨k + 1, by omega, by go_num, by have := HM.out; go_num, R3.out, ((hb.out.setCell hbg _).setCell hbg _).drew, by simp; exact hz⟩, by simp [intOf]; omega⟩
    · have hd : ¬ ((k : Int) < (n : Int) - 1 - k) := by omega
      rw [rvTo_end S n k (by omega)] at hrow
      go_wp2
      go_returns
      exact ⟨rfl, hrow.out, hb.out, hz⟩

set_option maxHeartbeats 1000000 in
theorem sreverse_none (w : World) :
    Calls Try.prog 25 #[.slice none 0 0] w fun e w' => e = .returned (.tuple #[]) ∧ w = w' := by
  go_enter Try.func25, Try.ntmps25
  go_wp2
  go_rounds 1
  go_returns
  exact ⟨rfl, rfl⟩
end Go.Proofs.Ythnaglnmmgpiaaa

/-
  Letters in order are those that lie rank by rank. No program is named here.
-/
namespace Go.Proofs.Ythnaglnmmgpiaaa
set_option linter.unusedVariables false

theorem ord_back {S : Nat → ByteArray} {n : Nat} {C : Nat → ByteArray} {k : Nat} (h : 0 ≤ M.ordTo S n C (k + 1)) : 0 ≤ M.ordTo S n C k ∧ M.ordTo S n C k ≤ M.rankTo S (C k) n ∧ M.ordTo S n C (k + 1) = M.rankTo S (C k) n := by
  have e : M.ordTo S n C (k + 1) = if M.ordTo S n C k < 0 then -1 else (if M.rankTo S (C k) n < M.ordTo S n C k then -1 else M.rankTo S (C k) n) := rfl
  by_cases h1 : M.ordTo S n C k < 0
  · rw [e, if_pos h1] at h; omega
  · rw [if_neg h1] at e
    by_cases h2 : M.rankTo S (C k) n < M.ordTo S n C k
    · rw [e, if_pos h2] at h; omega
    · rw [if_neg h2] at e
      exact ⟨by omega, by omega, e⟩
theorem asc_of_ord {S : Nat → ByteArray} {n : Nat} {I : Nat → Int} {C : Nat → ByteArray} : ∀ m, 0 ≤ M.ordTo S n C m → (M.lst I C m).Pairwise (fun x y => rkN n S x ≤ rkN n S y) ∧ (∀ y ∈ M.lst I C m, hasR n S y = true ∧ (rkN n S y : Int) ≤ M.ordTo S n C m)
  | 0, _ => ⟨List.Pairwise.nil, fun y hy => by cases hy⟩
  | m + 1, h => by
    obtain ⟨h1, h2, h3⟩ := ord_back h
    obtain ⟨i1, i2⟩ := asc_of_ord m h1
    have hr : 0 ≤ M.rankTo S (C m) n := by omega
    have hk : (rkN n S (I m, C m) : Int) = M.rankTo S (C m) n := Int.toNat_of_nonneg hr
    rw [M.lst_succ]
    refine ⟨List.pairwise_append.2 ⟨i1, List.pairwise_singleton _ _, fun x hx y hy => ?_⟩, fun y hy => ?_⟩
    · rw [List.mem_singleton.1 hy]
      have := (i2 x hx).2
      omega
    · rcases List.mem_append.1 hy with hy | hy
      · have := i2 y hy
        exact ⟨this.1, by omega⟩
      · rw [List.mem_singleton.1 hy]
        exact ⟨decide_eq_true hr, by omega⟩
theorem cut_asc {n : Nat} {S : Nat → ByteArray} (N : Nat) : ∀ {L : List (Int × ByteArray)}, L.Pairwise (fun x y => rkN n S x ≤ rkN n S y) → L.filter (fun y => decide (rkN n S y < N)) ++ L.filter (fun y => rkN n S y == N) = L.filter (fun y => decide (rkN n S y < N + 1))
  | [], _ => rfl
  | x :: L, h => by
    obtain ⟨h1, h2⟩ := List.pairwise_cons.1 h
    have ih := cut_asc (n := n) (S := S) N h2
    by_cases a : rkN n S x < N
    · have e1 : decide (rkN n S x < N) = true := decide_eq_true a
      have e2 : (rkN n S x == N) = false := by rw [beq_eq_false_iff_ne]; omega
      have e3 : decide (rkN n S x < N + 1) = true := decide_eq_true (by omega)
      rw [List.filter_cons_of_pos (by simpa using a), List.filter_cons_of_neg (by simpa using e2), List.filter_cons_of_pos (by rw [e3]), List.cons_append, ih]
    · have z : L.filter (fun y => decide (rkN n S y < N)) = [] := by
        rw [List.filter_eq_nil_iff]
        intro y hy h5
        have := h1 y hy
        have := of_decide_eq_true h5
        omega
      rw [z, List.nil_append] at ih
      by_cases b : rkN n S x = N
      · rw [List.filter_cons_of_neg (by simpa using a), List.filter_cons_of_pos (by simpa using b), List.filter_cons_of_pos (by simp; omega), z, List.nil_append, ih]
      · rw [List.filter_cons_of_neg (by simpa using a), List.filter_cons_of_neg (by simpa using b), List.filter_cons_of_neg (by simp; omega), z, List.nil_append, ih]
theorem srt_of_asc {n : Nat} {S : Nat → ByteArray} {L : List (Int × ByteArray)} (h : L.Pairwise (fun x y => rkN n S x ≤ rkN n S y)) (hr : ∀ y ∈ L, hasR n S y = true) : srt n S L = L := by
  have e : ∀ N, M.flat (fun v => L.filter fun y => hasR n S y && rkN n S y == v) N = L.filter fun y => decide (rkN n S y < N) := by
    intro N
    induction N with
    | zero =>
      symm
      show L.filter (fun y => decide (rkN n S y < 0)) = []
      rw [List.filter_eq_nil_iff]
      intro y _ h
      have := of_decide_eq_true h
      omega
    | succ N ih =>
      show M.flat _ N ++ L.filter (fun y => hasR n S y && rkN n S y == N) = _
      rw [ih, ← cut_asc N h]
      congr 1
      exact List.filter_congr fun y hy => by rw [hr y hy, Bool.true_and]
  unfold srt
  rw [e n, List.filter_eq_self]
  intro y hy
  exact decide_eq_true (rank_lt n S y (hr y hy))
theorem inOrder_yes {b p : Int} {n : Nat} {S : Nat → ByteArray} {m : Nat} {I : Nat → Int} {C : Nat → ByteArray} (h : runOk b p n S m I C = true) : M.inOrder b p n S m I C = decide (0 ≤ M.ordTo S n C m) := by
  obtain ⟨hp, hb⟩ := runOk_yes h
  unfold M.inOrder
  rw [hp, hb]
  rfl
theorem inOrder_not {b p : Int} {n : Nat} {S : Nat → ByteArray} {m : Nat} {I : Nat → Int} {C : Nat → ByteArray} (h : runOk b p n S m I C = false) : M.inOrder b p n S m I C = false := by
  unfold runOk at h
  rcases (Bool.and_eq_false_iff).1 h with h | h
  · exact M.inOrder_no (Or.inl h)
  · exact M.inOrder_no (Or.inr (Or.inl h))
/-- Letters that lie rank by rank are in order. -/
theorem ord_srt (n : Nat) (S : Nat → ByteArray) (L : List (Int × ByteArray)) : 0 ≤ M.ordTo S n (nC (srt n S L)) (srt n S L).length :=
  (ordTo_asc (srt_asc n S L).1 (srt_asc n S L).2 _ (Nat.le_refl _)).1
/-- A batch is in order exactly if no letter is without a rank and all lie rank by rank. -/
theorem inOrder_iff {b p : Int} {n : Nat} {S : Nat → ByteArray} {m : Nat} {I : Nat → Int} {C : Nat → ByteArray} (h : runOk b p n S m I C = true) : M.inOrder b p n S m I C = (decide (((M.lst I C m).filter fun y => !hasR n S y) = []) && decide (srt n S (M.lst I C m) = M.lst I C m)) := by
  rw [inOrder_yes h, Bool.eq_iff_iff, Bool.and_eq_true, decide_eq_true_eq, decide_eq_true_eq, decide_eq_true_eq]
  constructor
  · intro h0
    obtain ⟨h1, h2⟩ := asc_of_ord (I := I) m h0
    refine ⟨?_, srt_of_asc h1 fun y hy => (h2 y hy).1⟩
    rw [List.filter_eq_nil_iff]
    intro y hy
    rw [(h2 y hy).1]
    decide
  · rintro ⟨_, h2⟩
    have := ord_srt n S (M.lst I C m)
    rw [h2] at this
    rw [M.lst_length] at this
    have hc : ∀ k, k ≤ m → M.ordTo S n (nC (M.lst I C m)) k = M.ordTo S n C k := by
      intro k
      induction k with
      | zero => intro _; rfl
      | succ k ih =>
        intro hk
        show (if M.ordTo S n (nC (M.lst I C m)) k < 0 then -1 else (if M.rankTo S (nC (M.lst I C m) k) n < M.ordTo S n (nC (M.lst I C m)) k then -1 else M.rankTo S (nC (M.lst I C m) k) n)) = (if M.ordTo S n C k < 0 then -1 else (if M.rankTo S (C k) n < M.ordTo S n C k then -1 else M.rankTo S (C k) n))
        rw [ih (by omega), (show nC (M.lst I C m) k = C k from by
          have hl : k < (M.lst I C m).length := by rw [M.lst_length]; omega
          rw [nC_at hl]; simp [M.lst])]
    rw [hc m (Nat.le_refl _)] at this
    exact this
end Go.Proofs.Ythnaglnmmgpiaaa
