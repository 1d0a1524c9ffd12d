/-
  Longest chains of letters in order: as the program counts them (for each rank) and as the model does (for each letter). No program is named here.
-/
import Derived.Test.YtnaghfppeejaoaaDoorPureA
import Derived.Test.YtnaghfppeejaoaaDoorRadA
import Derived.Test.YtnaghfppeejaoaaDoorDrawX
import Derived.Test.YtnaghfppeejaoaaDoorOrd
import Derived.Test.YtnaghfppeejaoaaDoorNumA
import Derived.Laws.Small
import Derived.BigQuiet
namespace Go.Proofs.YtnaghfppeejaoaaDoor.M

/-- The greatest of f 0 .. f r. -/
def maxTo (f : Nat → Nat) : Nat → Nat
  | 0 => f 0
  | r + 1 => max (maxTo f r) (f (r + 1))
theorem maxTo_ge (f : Nat → Nat) : ∀ r i, i ≤ r → f i ≤ maxTo f r
  | 0, i, h => by obtain rfl : i = 0 := by omega
                  exact Nat.le_refl _
  | r + 1, i, h => by
    show f i ≤ max (maxTo f r) (f (r + 1))
    by_cases e : i = r + 1
    · subst e; omega
    · have := maxTo_ge f r i (by omega); omega
theorem maxTo_le (f : Nat → Nat) (b : Nat) : ∀ r, (∀ i, i ≤ r → f i ≤ b) → maxTo f r ≤ b
  | 0, h => h 0 (Nat.le_refl _)
  | r + 1, h => by
    show max (maxTo f r) (f (r + 1)) ≤ b
    have h1 := maxTo_le f b r fun i hi => h i (by omega)
    have h2 := h (r + 1) (Nat.le_refl _)
    omega
theorem maxTo_congr {f g : Nat → Nat} : ∀ r, (∀ i, i ≤ r → f i = g i) → maxTo f r = maxTo g r
  | 0, h => h 0 (Nat.le_refl _)
  | r + 1, h => by
    show max (maxTo f r) (f (r + 1)) = max (maxTo g r) (g (r + 1))
    rw [maxTo_congr r fun i hi => h i (by omega), h (r + 1) (Nat.le_refl _)]
/-- For each rank the greatest number of letters in order, of the first k, the last of which has this rank. -/
def most (K : Nat → Int) : Nat → Nat → Nat
  | 0, _ => 0
  | k + 1, r => if K k = (r : Int) then 1 + maxTo (most K k) r else most K k r
/-- The longest chain that ends at a letter. -/
def lng (K : Nat → Int) (k : Nat) : Nat := if K k < 0 then 0 else 1 + maxTo (most K k) (K k).toNat
theorem most_none {K : Nat → Int} {k : Nat} (h : K k < 0) : most K (k + 1) = most K k := by
  funext r
  show (if K k = (r : Int) then _ else _) = _
  rw [if_neg (by omega)]
theorem most_hit {K : Nat → Int} {k r : Nat} (h : K k = (r : Int)) : most K (k + 1) r = lng K k := by
  show (if K k = (r : Int) then _ else _) = _
  rw [if_pos h]
  unfold lng
  rw [if_neg (by omega), h, Int.toNat_natCast]
theorem most_miss {K : Nat → Int} {k r : Nat} (h : K k ≠ (r : Int)) : most K (k + 1) r = most K k r := by
  show (if K k = (r : Int) then _ else _) = _
  rw [if_neg h]
theorem lng_some {K : Nat → Int} {k r : Nat} (h : K k = (r : Int)) : lng K k = 1 + maxTo (most K k) r := by
  unfold lng
  rw [if_neg (by omega), h, Int.toNat_natCast]
theorem most_le (K : Nat → Int) : ∀ k r, most K k r ≤ k
  | 0, _ => Nat.le_refl _
  | k + 1, r => by
    show (if K k = (r : Int) then _ else _) ≤ _
    by_cases h : K k = (r : Int)
    · rw [if_pos h]
      have := maxTo_le (most K k) k r fun i _ => most_le K k i
      omega
    · rw [if_neg h]
      have := most_le K k r
      omega
theorem maxTo_most_le (K : Nat → Int) (k r : Nat) : maxTo (most K k) r ≤ k := maxTo_le _ _ _ fun i _ => most_le K k i
theorem lng_le (K : Nat → Int) (k : Nat) : lng K k ≤ k + 1 := by
  unfold lng
  have := maxTo_most_le K k (K k).toNat
  split <;> omega
theorem maxTo_most_succ {K : Nat → Int} {k r n : Nat} (h : K k = (r : Int)) (hr : r ≤ n) : maxTo (most K (k + 1)) n = max (maxTo (most K k) n) (lng K k) := by
  have hl := lng_some h
  apply Nat.le_antisymm
  · apply maxTo_le
    intro i hi
    by_cases e : K k = (i : Int)
    · rw [most_hit e]; omega
    · rw [most_miss e]
      have := maxTo_ge (most K k) n i hi
      omega
  · have h1 : lng K k ≤ maxTo (most K (k + 1)) n := by
      have := maxTo_ge (most K (k + 1)) n r hr
      rw [most_hit h] at this
      exact this
    have h2 : maxTo (most K k) n ≤ maxTo (most K (k + 1)) n := by
      apply maxTo_le
      intro i hi
      have h3 := maxTo_ge (most K (k + 1)) n i hi
      by_cases e : K k = (i : Int)
      · rw [most_hit e] at h3
        have h4 := maxTo_ge (most K k) r i (by omega)
        omega
      · rw [most_miss e] at h3
        exact h3
    omega
theorem maxTo_most_skip {K : Nat → Int} {k n : Nat} (h : K k < 0 ∨ (n : Int) < K k) : maxTo (most K (k + 1)) n = maxTo (most K k) n :=
  maxTo_congr n fun i hi => most_miss (by omega)
/-- The longest chain that ends at one of the first k letters whose rank is n at most. -/
def inTo (K : Nat → Int) (n : Int) : Nat → Nat
  | 0 => 0
  | k + 1 => if 0 ≤ K k ∧ K k ≤ n then max (inTo K n k) (lng K k) else inTo K n k
theorem maxTo_zero (n : Nat) : maxTo (fun _ => 0) n = 0 := Nat.le_zero.1 (maxTo_le _ _ _ fun _ _ => Nat.le_refl _)
theorem inTo_most (K : Nat → Int) (n : Nat) : ∀ k, inTo K n k = maxTo (most K k) n
  | 0 => (maxTo_zero n).symm
  | k + 1 => by
    show (if 0 ≤ K k ∧ K k ≤ (n : Int) then _ else _) = _
    by_cases h : 0 ≤ K k ∧ K k ≤ (n : Int)
    · obtain ⟨r, hr⟩ := Int.eq_ofNat_of_zero_le h.1
      rw [if_pos h, inTo_most K n k, maxTo_most_succ hr (by omega)]
    · rw [if_neg h, inTo_most K n k, maxTo_most_skip (by omega)]
theorem inTo_yes {K : Nat → Int} {n : Int} {k : Nat} (h : 0 ≤ K k) (h2 : K k ≤ n) : inTo K n (k + 1) = max (inTo K n k) (lng K k) := if_pos ⟨h, h2⟩
theorem inTo_no {K : Nat → Int} {n : Int} {k : Nat} (h : K k < 0 ∨ n < K k) : inTo K n (k + 1) = inTo K n k := if_neg (by omega)
theorem inTo_le (K : Nat → Int) (n : Int) : ∀ k, inTo K n k ≤ k
  | 0 => Nat.le_refl _
  | k + 1 => by
    have h1 := inTo_le K n k
    have h2 := lng_le K k
    show (if 0 ≤ K k ∧ K k ≤ n then _ else _) ≤ _
    split <;> omega
theorem lng_of_in {K : Nat → Int} {k r : Nat} (h : K k = (r : Int)) : lng K k = 1 + inTo K (r : Int) k := by rw [lng_some h, inTo_most]
theorem lng_pos {K : Nat → Int} {k : Nat} : 0 < lng K k ↔ 0 ≤ K k := by
  unfold lng
  by_cases h : K k < 0
  · rw [if_pos h]; omega
  · rw [if_neg h]; omega
theorem lng_none {K : Nat → Int} {k : Nat} (h : K k < 0) : lng K k = 0 := if_pos h
/-- The longest chain of the first k letters. -/
def best (K : Nat → Int) : Nat → Nat
  | 0 => 0
  | k + 1 => max (best K k) (lng K k)
theorem best_le (K : Nat → Int) : ∀ k, best K k ≤ k
  | 0 => Nat.le_refl _
  | k + 1 => by
    have h1 := best_le K k
    have h2 := lng_le K k
    show max _ _ ≤ _
    omega
theorem best_in {K : Nat → Int} {n : Int} : ∀ {k : Nat}, (∀ j, j < k → K j ≤ n) → best K k = inTo K n k
  | 0, _ => rfl
  | k + 1, h => by
    show max (best K k) (lng K k) = _
    rw [best_in fun j hj => h j (by omega)]
    by_cases h0 : K k < 0
    · rw [lng_none h0, inTo_no (Or.inl h0)]; omega
    · rw [inTo_yes (by omega) (h k (by omega))]
theorem best_most {K : Nat → Int} {n k : Nat} (h : ∀ j, j < k → K j ≤ (n : Int)) : best K k = maxTo (most K k) n := by rw [best_in h, inTo_most]

/-- How many letters can stay. -/
def kept (b p : Int) (n : Nat) (S : Nat → ByteArray) (m : Nat) (I : Nat → Int) (C : Nat → ByteArray) : Int :=
  if plan b p n S && batch m I C then (best (fun k => rankTo S (C k) n) m : Nat) else -1
theorem kept_no {b p : Int} {n : Nat} {S : Nat → ByteArray} {m : Nat} {I : Nat → Int} {C : Nat → ByteArray} (h : (plan b p n S && batch m I C) = false) : kept b p n S m I C = -1 := by
  unfold kept; rw [h]; rfl
theorem kept_yes {b p : Int} {n : Nat} {S : Nat → ByteArray} {m : Nat} {I : Nat → Int} {C : Nat → ByteArray} (h : (plan b p n S && batch m I C) = true) : kept b p n S m I C = (best (fun k => rankTo S (C k) n) m : Nat) := by
  unfold kept; rw [h]; rfl
/-- How many letters must be moved. -/
def moved (b p : Int) (n : Nat) (S : Nat → ByteArray) (m : Nat) (I : Nat → Int) (C : Nat → ByteArray) : Int :=
  if kept b p n S m I C < 0 then -1 else m - kept b p n S m I C
theorem kept_bd (b p : Int) (n : Nat) (S : Nat → ByteArray) (m : Nat) (I : Nat → Int) (C : Nat → ByteArray) : -1 ≤ kept b p n S m I C ∧ kept b p n S m I C ≤ m := by
  unfold kept
  have := best_le (fun k => rankTo S (C k) n) m
  split <;> omega
end Go.Proofs.YtnaghfppeejaoaaDoor.M

/-
  Longest chains of letters in order as parts of the list: without one letter at most one less can stay, and all can of a list in order. No program is named here.
-/
namespace Go.Proofs.YtnaghfppeejaoaaDoor

/-- A part of a list in order, none beyond n. -/
def Chain (n : Int) (s : List Int) : Prop := s.Pairwise (fun x y => x ≤ y) ∧ ∀ x ∈ s, 0 ≤ x ∧ x ≤ n
def keyL (K : Nat → Int) (m : Nat) : List Int := (List.range m).map K
theorem keyL_succ (K : Nat → Int) (m : Nat) : keyL K (m + 1) = keyL K m ++ [K m] := by simp [keyL, List.range_succ]
theorem keyL_length (K : Nat → Int) (m : Nat) : (keyL K m).length = m := by simp [keyL]
theorem chain_up (K : Nat → Int) : ∀ (m : Nat) (n : Int) (s : List Int), s.Sublist (keyL K m) → Chain n s → s.length ≤ M.inTo K n m
  | 0, n, s, h, hc => by
    have : s = [] := by simpa [keyL] using h
    subst this
    exact Nat.zero_le _
  | m + 1, n, s, h, hc => by
    rw [keyL_succ] at h
    obtain ⟨s1, s2, rfl, h1, h2⟩ := List.sublist_append_iff.1 h
    have hc1 : Chain n s1 := ⟨(List.pairwise_append.1 hc.1).1, fun x hx => hc.2 x (List.mem_append_left _ hx)⟩
    have i1 := chain_up K m n s1 h1 hc1
    cases s2 with
    | nil =>
      rw [List.append_nil]
      by_cases hk : 0 ≤ K m ∧ K m ≤ n
      · rw [M.inTo_yes hk.1 hk.2]; omega
      · rw [M.inTo_no (by omega)]; exact i1
    | cons x t =>
      have hl := h2.length_le
      have ht : t = [] := by
        rw [List.length_cons, List.length_singleton] at hl
        exact List.eq_nil_of_length_eq_zero (by omega)
      subst ht
      have hx : x = K m := by
        have := h2.subset (List.mem_cons_self)
        simpa using this
      subst hx
      have hk := hc.2 (K m) (List.mem_append_right _ (List.mem_cons_self))
      obtain ⟨r, hr⟩ := Int.eq_ofNat_of_zero_le hk.1
      have hc2 : Chain (r : Int) s1 := ⟨hc1.1, fun y hy => ⟨(hc1.2 y hy).1, by rw [← hr]; exact (List.pairwise_append.1 hc.1).2.2 y hy (K m) List.mem_cons_self⟩⟩
      have i2 := chain_up K m (r : Int) s1 h1 hc2
      rw [M.inTo_yes hk.1 hk.2, M.lng_of_in hr, List.length_append]
      simp
      omega
theorem chain_ex (K : Nat → Int) : ∀ (m : Nat) (n : Int), ∃ s, s.Sublist (keyL K m) ∧ Chain n s ∧ s.length = M.inTo K n m
  | 0, n => ⟨[], List.nil_sublist _, ⟨List.Pairwise.nil, fun x hx => by cases hx⟩, rfl⟩
  | m + 1, n => by
    obtain ⟨s, h1, h2, h3⟩ := chain_ex K m n
    by_cases hk : 0 ≤ K m ∧ K m ≤ n
    · rw [M.inTo_yes hk.1 hk.2]
      obtain ⟨r, hr⟩ := Int.eq_ofNat_of_zero_le hk.1
      by_cases hm : M.lng K m ≤ M.inTo K n m
      · refine ⟨s, ?_, h2, by omega⟩
        rw [keyL_succ]
        exact h1.trans (List.sublist_append_left _ _)
      · obtain ⟨t, g1, g2, g3⟩ := chain_ex K m (r : Int)
        refine ⟨t ++ [K m], ?_, ⟨?_, ?_⟩, ?_⟩
        · rw [keyL_succ]
          exact g1.append (List.Sublist.refl _)
        · refine List.pairwise_append.2 ⟨g2.1, by simp, fun x hx y hy => ?_⟩
          rw [List.mem_singleton.1 hy, hr]
          exact (g2.2 x hx).2
        · intro x hx
          rcases List.mem_append.1 hx with hx | hx
          · have := g2.2 x hx
            exact ⟨this.1, by omega⟩
          · rw [List.mem_singleton.1 hx]; exact hk
        · rw [List.length_append, g3, M.lng_of_in hr] at *
          simp
          omega
    · rw [M.inTo_no (by omega)]
      refine ⟨s, ?_, h2, h3⟩
      rw [keyL_succ]
      exact h1.trans (List.sublist_append_left _ _)

/-- How many letters of a list can stay. -/
def stay (n : Nat) (S : Nat → ByteArray) (L : List (Int × ByteArray)) : Nat := M.best (fun k => M.rankTo S (nC L k) n) L.length
def rks (n : Nat) (S : Nat → ByteArray) (L : List (Int × ByteArray)) : List Int := L.map fun y => M.rankTo S y.2 n
theorem rks_keyL (n : Nat) (S : Nat → ByteArray) (L : List (Int × ByteArray)) : keyL (fun k => M.rankTo S (nC L k) n) L.length = rks n S L := by
  apply List.ext_getElem
  · simp [keyL, rks]
  · intro i h1 h2
    have h : i < L.length := by simpa [rks] using h2
    simp [keyL, rks, nC_at h]
theorem rank_le (n : Nat) (S : Nat → ByteArray) (c : ByteArray) : M.rankTo S c n ≤ (n : Int) := by have := (M.rank_bd S c n).2; omega
theorem stay_in (n : Nat) (S : Nat → ByteArray) (L : List (Int × ByteArray)) : stay n S L = M.inTo (fun k => M.rankTo S (nC L k) n) (n : Int) L.length := M.best_in fun _ _ => rank_le n S _
theorem stay_up {n : Nat} {S : Nat → ByteArray} {L : List (Int × ByteArray)} {s : List Int} (h : s.Sublist (rks n S L)) (hc : Chain n s) : s.length ≤ stay n S L := by
  rw [stay_in]
  exact chain_up _ _ _ s (by rw [rks_keyL]; exact h) hc
theorem stay_ex (n : Nat) (S : Nat → ByteArray) (L : List (Int × ByteArray)) : ∃ s, s.Sublist (rks n S L) ∧ Chain n s ∧ s.length = stay n S L := by
  obtain ⟨s, h1, h2, h3⟩ := chain_ex (fun k => M.rankTo S (nC L k) n) L.length (n : Int)
  rw [rks_keyL] at h1
  exact ⟨s, h1, h2, by rw [h3, stay_in]⟩
theorem stay_le (n : Nat) (S : Nat → ByteArray) (L : List (Int × ByteArray)) : stay n S L ≤ L.length := M.best_le _ _
theorem stay_sub {n : Nat} {S : Nat → ByteArray} {L R : List (Int × ByteArray)} (h : R.Sublist L) : stay n S R ≤ stay n S L := by
  obtain ⟨s, h1, h2, h3⟩ := stay_ex n S R
  rw [← h3]
  exact stay_up (h1.trans (h.map _)) h2
/-- Without one letter at most one less can stay. -/
theorem stay_less (n : Nat) (S : Nat → ByteArray) (A B : List (Int × ByteArray)) (y : Int × ByteArray) : stay n S (A ++ y :: B) ≤ stay n S (A ++ B) + 1 := by
  obtain ⟨s, h1, h2, h3⟩ := stay_ex n S (A ++ y :: B)
  unfold rks at h1
  rw [List.map_append, List.map_cons] at h1
  obtain ⟨s1, s2, rfl, g1, g2⟩ := List.sublist_append_iff.1 h1
  have hp := List.pairwise_append.1 h2.1
  rcases List.sublist_cons_iff.1 g2 with g2 | ⟨t, rfl, g4⟩
  · have := stay_up (n := n) (S := S) (L := A ++ B) (s := s1 ++ s2) (by unfold rks; rw [List.map_append]; exact g1.append g2) h2
    omega
  · have := stay_up (n := n) (S := S) (L := A ++ B) (s := s1 ++ t) (by unfold rks; rw [List.map_append]; exact g1.append g4)
      ⟨List.pairwise_append.2 ⟨hp.1, (List.pairwise_cons.1 hp.2.1).2, fun x hx z hz => hp.2.2 x hx z (List.mem_cons_of_mem _ hz)⟩, fun x hx => h2.2 x (by
        rcases List.mem_append.1 hx with hx | hx
        · exact List.mem_append_left _ hx
        · exact List.mem_append_right _ (List.mem_cons_of_mem _ hx))⟩
    rw [List.length_append] at this
    rw [List.length_append, List.length_cons] at h3
    omega
theorem stay_one {n : Nat} {S : Nat → ByteArray} {L : List (Int × ByteArray)} {i : Nat} (hi : i < L.length) : stay n S (L.take i ++ L.drop (i + 1)) ≤ stay n S L ∧ stay n S L ≤ stay n S (L.take i ++ L.drop (i + 1)) + 1 := by
  have e : L = L.take i ++ L[i] :: L.drop (i + 1) := by rw [List.getElem_cons_drop, List.take_append_drop]
  constructor
  · refine stay_sub ?_
    conv => rhs; rw [e]
    exact (List.Sublist.refl _).append (List.sublist_cons_self _ _)
  · have := stay_less n S (L.take i) (L.drop (i + 1)) L[i]
    rw [← e] at this
    exact this
/-- All letters can stay exactly if they are in order. -/
theorem stay_all {n : Nat} {S : Nat → ByteArray} {L : List (Int × ByteArray)} : stay n S L = L.length ↔ L.Pairwise (fun x y => M.rankTo S x.2 n ≤ M.rankTo S y.2 n) ∧ ∀ y ∈ L, 0 ≤ M.rankTo S y.2 n := by
  constructor
  · intro h
    obtain ⟨s, h1, h2, h3⟩ := stay_ex n S L
    have he : s = rks n S L := h1.eq_of_length (by rw [h3, h]; simp [rks])
    subst he
    refine ⟨List.pairwise_map.1 h2.1, fun y hy => (h2.2 _ (List.mem_map_of_mem hy)).1⟩
  · intro h
    have := stay_up (n := n) (S := S) (L := L) (List.Sublist.refl _) ⟨List.pairwise_map.2 h.1, fun x hx => by
      obtain ⟨y, hy, rfl⟩ := List.mem_map.1 hx
      exact ⟨h.2 y hy, rank_le n S _⟩⟩
    have h2 := stay_le n S L
    simp [rks] at this
    omega
theorem stay_ord {n : Nat} {S : Nat → ByteArray} {L : List (Int × ByteArray)} : stay n S L = L.length ↔ 0 ≤ M.ordTo S n (nC L) L.length := by
  rw [stay_all]
  constructor
  · intro h
    refine (ordTo_asc (R := L) ?_ ?_ L.length (Nat.le_refl _)).1
    · refine h.1.imp fun {x y} hxy => ?_
      unfold rkN
      omega
    · intro y hy
      unfold hasR
      rw [decide_eq_true (h.2 y hy)]
  · intro h
    have := asc_of_ord (n := n) (S := S) (I := nI L) (C := nC L) L.length h
    rw [lst_nI] at this
    have hr : ∀ y ∈ L, 0 ≤ M.rankTo S y.2 n := fun y hy => by
      have := (this.2 y hy).1
      unfold hasR at this
      exact of_decide_eq_true this
    refine ⟨?_, hr⟩
    refine this.1.imp_of_mem fun {x y} hx hy hxy => ?_
    have h1 := hr x hx
    have h2 := hr y hy
    unfold rkN at hxy
    omega
theorem stay_srt (n : Nat) (S : Nat → ByteArray) (L : List (Int × ByteArray)) : stay n S (srt n S L) = (srt n S L).length := stay_ord.2 (ord_srt n S L)
/-- No more can stay than have ranks. -/
theorem stay_ranked (n : Nat) (S : Nat → ByteArray) (L : List (Int × ByteArray)) : stay n S L + (L.filter fun y => !hasR n S y).length ≤ L.length := by
  obtain ⟨s, h1, h2, h3⟩ := stay_ex n S L
  have h4 : s.Sublist ((rks n S L).filter fun x => decide (0 ≤ x)) := by
    have := h1.filter fun x => decide (0 ≤ x)
    rw [List.filter_eq_self.2 (fun x hx => decide_eq_true (h2.2 x hx).1)] at this
    exact this
  have h5 := h4.length_le
  have h6 : ((rks n S L).filter fun x => decide (0 ≤ x)).length = (L.filter fun y => hasR n S y).length := by
    unfold rks
    rw [List.filter_map, List.length_map]
    rfl
  have h7 : ∀ M : List (Int × ByteArray), M.length = (M.filter fun y => hasR n S y).length + (M.filter fun y => !hasR n S y).length := by
    intro M
    induction M with
    | nil => rfl
    | cons y t ih =>
      cases hy : hasR n S y <;> simp [hy] <;> omega
  have := h7 L
  omega
theorem BatchL.sub {L R : List (Int × ByteArray)} (h : BatchL L) (s : R.Sublist L) : BatchL R :=
  ⟨fun x hx => h.1 x (s.subset hx), h.2.1.sublist (s.map _), Nat.le_trans s.length_le h.2.2⟩
theorem kept_stay {b p : Int} {n : Nat} {S : Nat → ByteArray} {L : List (Int × ByteArray)} (hp : M.plan b p n S = true) (h : BatchL L) : M.kept b p n S L.length (nI L) (nC L) = (stay n S L : Nat) :=
  M.kept_yes (by rw [hp, (batchL_list L).2 h]; rfl)
theorem sub_one (L : List (Int × ByteArray)) (i : Nat) : (L.take i ++ L.drop (i + 1)).Sublist L := by
  by_cases hi : i < L.length
  · have e : L = L.take i ++ L[i] :: L.drop (i + 1) := by rw [List.getElem_cons_drop, List.take_append_drop]
    conv => rhs; rw [e]
    exact (List.Sublist.refl _).append (List.sublist_cons_self _ _)
  · rw [List.drop_eq_nil_of_le (by omega), List.append_nil]
    exact List.take_sublist _ _
/-- Without one letter. -/
theorem kept_one {b p : Int} {n : Nat} {S : Nat → ByteArray} {L : List (Int × ByteArray)} (hp : M.plan b p n S = true) (h : BatchL L) (i : Nat) (hi : i < L.length) :
    BatchL (L.take i ++ L.drop (i + 1)) ∧ ∃ k : Nat, M.kept b p n S (L.take i ++ L.drop (i + 1)).length (nI (L.take i ++ L.drop (i + 1))) (nC (L.take i ++ L.drop (i + 1))) = (k : Int) ∧ k ≤ stay n S L ∧ stay n S L ≤ k + 1 :=
  have hb := h.sub (sub_one L i)
  ⟨hb, _, kept_stay hp hb, stay_one hi⟩
theorem srt_batch {n : Nat} {S : Nat → ByteArray} {L : List (Int × ByteArray)} (h : BatchL L) : BatchL (srt n S L) := by
  have hp := srt_perm n S L.length (nI L) (nC L)
  rw [lst_nI] at hp
  exact (h.perm hp.symm).left
theorem srt_len (n : Nat) (S : Nat → ByteArray) (L : List (Int × ByteArray)) : (srt n S L).length + (L.filter fun y => !hasR n S y).length = L.length := by
  have hp := (srt_perm n S L.length (nI L) (nC L)).length_eq
  rw [lst_nI, List.length_append] at hp
  exact hp
end Go.Proofs.YtnaghfppeejaoaaDoor

/-
  How many letters can stay, and how many must be moved: KeptLetters and MovedLetters, in the program and in the model of the document.
-/
namespace Go.Proofs.YtnaghfppeejaoaaDoor
open Go.RowKit
open Go.PlainAid (bt get_bt bt_nonneg bt_le)

set_option maxHeartbeats 1000000 in
/-- The greatest of some numbers in memory. -/
theorem slices_Max (w : World) (g r l c : Nat) (hl : l = r + 1) (f : Nat → Nat) (h : ∀ i, i ≤ r → w.cell? ⟨g, i, none⟩ = some (.int .i64 ((f i : Nat) : Int))) (hf : ∀ i, i ≤ r → f i ≤ 1048576) (hr : r ≤ 1048576) :
    Calls Tryd.prog 114 #[.slice (some ⟨g, 0, none⟩) l c] w fun e w' => e = .returned (.int .i64 ((M.maxTo f r : Nat) : Int)) ∧ w = w' := by
  subst hl
  have HL := Lib.hid h
  have HF := Lib.hid hf
  have h0 := h 0 (Nat.zero_le _)
  clear h hf
  go_enter Tryd.func114, Tryd.ntmps114
  go_wp2
  clear h0
  go_loop [3, 4] (fun t i => ∃ k : Nat, k ≤ r ∧ i = .int .i64 ((k : Int) + 1) ∧ t = .int .i64 ((M.maxTo f k : Nat) : Int)) (fun _ i => (r + 1) - (intOf i).toNat)
  case atStart => exact ⟨0, Nat.zero_le _, rfl, rfl⟩
  case round =>
    obtain ⟨k, hk, rfl, rfl⟩ := hrel
    have hb := M.maxTo_le f 1048576 k fun i hi => HF.out i (by omega)
    by_cases hlt : k < r
    · have c0 := HL.out (k + 1) (by omega)
      have hb1 := HF.out (k + 1) (by omega)
      have HS : Hid (M.maxTo f (k + 1) = max (M.maxTo f k) (f (k + 1))) := rfl
      obtain ⟨x, hx⟩ : ∃ x, f (k + 1) = x := ⟨_, rfl⟩
      obtain ⟨y, hy⟩ : ∃ y, M.maxTo f k = y := ⟨_, rfl⟩
      rw [hx, hy] at HS
      rw [hx] at c0 hb1
      rw [hy] at hb ⊢
      clear hx hy
      have hmax : ∀ (ts : Array TypeId) (t : TypeId) (W : World), (Builtin.max_ ts t #[.int .i64 (y : Int), .int .i64 (x : Int)]).run Tryd.prog W = .ok (.int .i64 ((max y x : Nat) : Int)) W := fun ts t W => by
        rw [run_max_int2]
        congr 2
        split <;> omega
      go_wp2
      go_round
      case rel => exact ⟨k + 1, by omega, by go_num, by rw [HS.out]⟩
      case measure => simp [intOf]; omega
    · obtain rfl : k = r := by omega
      go_wp2
      go_ret
      exact ⟨rfl, rfl⟩

/-- The numbers that the program keeps, one for each rank. -/
def mostL (K : Nat → Int) (n k : Nat) : List Int := (List.range n).map fun r => ((M.most K k r : Nat) : Int)
theorem mostL_length (K : Nat → Int) (n k : Nat) : (mostL K n k).length = n := by simp [mostL]
theorem mostL_at {K : Nat → Int} {n k j : Nat} (h : j < n) : MW.gz (mostL K n k) j = ((M.most K k j : Nat) : Int) := by
  rw [MW.gz_at (by rw [mostL_length]; exact h)]
  simp [mostL]
theorem mostL_zero (K : Nat → Int) (n : Nat) : mostL K n 0 = List.replicate n 0 := by
  apply List.ext_getElem
  · simp [mostL]
  · intro i h1 h2
    simp [mostL, M.most]
theorem mostL_none {K : Nat → Int} {n k : Nat} (h : K k < 0) : mostL K n (k + 1) = mostL K n k := by unfold mostL; rw [M.most_none h]
theorem mostL_set {K : Nat → Int} {n k r : Nat} (h : K k = (r : Int)) : (mostL K n k).set r (((M.maxTo (M.most K k) r : Nat) : Int) + 1) = mostL K n (k + 1) := by
  apply List.ext_getElem?
  intro i
  by_cases hi : i < n
  · by_cases e : r = i
    · subst e
      rw [List.getElem?_set_self (by rw [mostL_length]; exact hi)]
      simp [mostL, hi, M.most_hit h, M.lng_some h]
      omega
    · rw [List.getElem?_set_ne e]
      simp [mostL, hi, M.most_miss (show K k ≠ ((i : Nat) : Int) by omega)]
  · rw [List.getElem?_eq_none (by rw [List.length_set, mostL_length]; omega), List.getElem?_eq_none (by rw [mostL_length]; omega)]

set_option maxRecDepth 100000 in
set_option maxHeartbeats 2000000 in
theorem impl_KeptLetters (w : World) (b p : Int) (a : Option Addr) (n c : Nat) (S : Nat → ByteArray) (h : Strs w a n S) (hf : SFits n S) (hn : n ≤ 1048576) (a2 : Option Addr) (m c2 : Nat) (I : Nat → Int) (C : Nat → ByteArray) (h2 : Lts w a2 m I C) (hf2 : Fits m I C) :
    Calls Tryd.prog 82 #[.agg #[.int .i64 b, .int .i64 p, .slice a n c], .slice a2 m c2] w fun e w' => e = .returned (.int .i64 (M.kept b p n S m I C)) ∧ Below w.heap.size w w' := by
  have HL := Lib.hid (h.on ((Below.refl _ _).alloc (Nat.le_refl _) (.cells #[.int .i64 b, .int .i64 p, .slice a n c] 25)))
  have HL2 := Lib.hid (h2.on ((Below.refl _ _).alloc (Nat.le_refl _) (.cells #[.int .i64 b, .int .i64 p, .slice a n c] 25)))
  have bx := Lib.hid (tri_made w (.int .i64 b) (.int .i64 p) (.slice a n c) 25)
  have HF := Lib.hid hf
  have HF2 := Lib.hid hf2
  clear h hf h2 hf2
  cases hp : M.plan b p n S
  · have hv := Lib.hid (M.kept_no (b := b) (p := p) (n := n) (S := S) (m := m) (I := I) (C := C) (by rw [hp]; rfl))
    go_enter Tryd.func82, Tryd.ntmps82
    go_wp2_with fail
    refine (impl_PlanValid _ b p a n c S HL.out HF.out hn).mono ?_
    rw [hp]
    rintro e w1 ⟨rfl, hb1⟩
    go_wp2
    go_ret
    exact ⟨ret_int hv.out.symm, sstep (by go_grown) hb1⟩
  cases hb : M.batch m I C
  · have hv := Lib.hid (M.kept_no (b := b) (p := p) (n := n) (S := S) (m := m) (I := I) (C := C) (by rw [hp, hb]; rfl))
    go_enter Tryd.func82, Tryd.ntmps82
    go_wp2_with fail
    refine (impl_PlanValid _ b p a n c S HL.out HF.out hn).mono ?_
    rw [hp]
    rintro e w1 ⟨rfl, hb1⟩
    go_wp2_with fail
    refine (impl_BatchValid _ a2 m c2 I C (HL2.out.on hb1) HF2.out).mono ?_
    rw [hb]
    rintro e w2 ⟨rfl, hb2⟩
    go_wp2
    go_ret
    exact ⟨ret_int hv.out.symm, sstep (sstep (by go_grown) hb1) hb2⟩
  have hv := Lib.hid (M.kept_yes (b := b) (p := p) (n := n) (S := S) (m := m) (I := I) (C := C) (by rw [hp, hb]; rfl))
  have hm60 := (M.batch_yes hb).1
  obtain ⟨q0, q1⟩ : 1 ≤ n ∧ n ≤ 60 := by have := M.fits_yes (M.plan_yes hp).1; omega
  obtain ⟨N, hN⟩ : ∃ N, n = N + 1 := ⟨n - 1, by omega⟩
  have HN := Lib.hid hN
  obtain ⟨K, hK⟩ : ∃ K : Nat → Int, (fun k => M.rankTo S (C k) n) = K := ⟨_, rfl⟩
  have hbd : Hid (∀ k, -1 ≤ K k ∧ K k < n) := fun k => by have := M.rank_bd S (C k) n; have := HN.out; rw [← hK]; show -1 ≤ M.rankTo S (C k) n ∧ M.rankTo S (C k) n < (n : Int); omega
  have hSI : Hid (∀ W (hs : Strs W a n S) k, Calls Tryd.prog 80 #[.slice a n c, .string (C k)] W fun e w' => e = .returned (.int .i64 (K k)) ∧ W = w') := fun W hs k => by rw [← hK]; exact slices_Index W a n c S hs hn (C k)
  have hbm : Hid (M.best K m = M.maxTo (M.most K m) N) := M.best_most fun j _ => by have := (hbd.out j).2; have := HN.out; omega
  rw [hK] at hv
  have HP := Lib.hid hp
  have HB := Lib.hid hb
  clear hp hb hK hN
  have hmk := make_ints n hn
  go_enter Tryd.func82, Tryd.ntmps82
  go_wp2_with fail
  refine (impl_PlanValid _ b p a n c S HL.out HF.out hn).mono ?_
  rw [HP.out]
  rintro e w1 ⟨rfl, hb1⟩
  go_wp2_with fail
  refine (impl_BatchValid _ a2 m c2 I C (HL2.out.on hb1) HF2.out).mono ?_
  rw [HB.out]
  rintro e w2 ⟨rfl, hb2⟩
  have HS := Lib.hid ((HL.out.on hb1).on hb2)
  have HT := Lib.hid ((HL2.out.on hb1).on hb2)
  have BX := Lib.hid ((bx.out.on hb1).on hb2)
  have BL : Hid (Below w.heap.size w w2) := sstep (sstep (by go_grown) hb1) hb2
  have hzw : w.heap.size < w2.heap.size := BX.out.lt
  obtain ⟨⟨t0, t1, t2⟩, _⟩ := BX.out
  clear hb1 hb2
  go_wp2
  clear t0 t1 t2
  go_loopw [23] (fun i wr => ∃ k : Nat, k ≤ m ∧ i = .int .i64 k ∧ Hid (IRow wr w2.heap.size (.slice (some ⟨w2.heap.size, 0, none⟩) n n) (mostL K n k)) ∧ Below w2.heap.size w2 wr) (fun i _ => m - (intOf i).toNat)
  case atStart => exact ⟨0, Nat.zero_le _, rfl, by rw [mostL_zero]; exact irow_made w2 n _ hn (Nat.le_refl _), by go_grown⟩
  case round =>
    obtain ⟨k, hk, rfl, hrow, hb⟩ := hrel
    have hz := hb.size
    have hzl : w.heap.size < wr.heap.size := by omega
    by_cases hlt : k < m
    · obtain ⟨b1, o1, rfl, c0, c1⟩ := (HT.out.on hb) k hlt
      obtain ⟨⟨t0, t1, t2⟩, _⟩ := BX.out.on hb
      have hst := Lib.hid (HS.out.on hb)
      obtain ⟨r0, r1⟩ := hbd.out k
      have hSk := Lib.hid (fun W hs => hSI.out W hs k)
      have hno := Lib.hid (fun h => mostL_none (K := K) (n := n) (k := k) h)
      have hyes := Lib.hid (fun r h => mostL_set (K := K) (n := n) (k := k) (r := r) h)
      obtain ⟨x, hx⟩ : ∃ x, K k = x := ⟨_, rfl⟩
      rw [hx] at r0 r1 hSk hno hyes
      clear hx
      have hlg := hrow.out.lt _ rfl
      by_cases hx : x < 0
      · have hno2 := Lib.hid (hno.out hx)
        go_wp2_with fail
        refine (hSk.out _ (hst.out.on (by go_grown))).mono ?_
        rintro e w3 ⟨rfl, rfl⟩
        go_wp2
        go_roundw
        case rel => exact ⟨k + 1, by omega, by go_num, by rw [hno2.out]; exact hrow.out.alloc _, by go_grown⟩
        case measure => simp [intOf]; omega
      · obtain ⟨r, rfl⟩ := Int.eq_ofNat_of_zero_le (show 0 ≤ x by omega)
        have hyes2 := Lib.hid (hyes.out r rfl)
        have hmb := M.maxTo_most_le K k r
        have hrow2 := Lib.hid (hrow.out.alloc (.cells #[.int .i64 (I k), .string (C k)] 37))
        have HM : Hid (∀ W, (∀ i, i ≤ r → W.cell? ⟨w2.heap.size, i, none⟩ = some (.int .i64 ((M.most K k i : Nat) : Int))) → Calls Tryd.prog 114 #[.slice (some ⟨w2.heap.size, 0, none⟩) (r + 1) n] W fun e w' => e = .returned (.int .i64 ((M.maxTo (M.most K k) r : Nat) : Int)) ∧ W = w') := fun W hW =>
          slices_Max W _ r _ _ rfl (M.most K k) hW (fun i hi => by have := M.most_le K k i; omega) (by omega)
        obtain ⟨d0, d1⟩ := hrow2.out.at r (by rw [mostL_length]; omega)
        obtain ⟨y, hy⟩ : ∃ y, M.maxTo (M.most K k) r = y := ⟨_, rfl⟩
        rw [hy] at hmb HM hyes2
        clear hy
        go_wp2_with fail
        refine (hSk.out _ (hst.out.on (by go_grown))).mono ?_
        rintro e w3 ⟨rfl, rfl⟩
        go_wp2_with fail
        refine (HM.out _ fun i hi => by
          obtain ⟨e0, _⟩ := hrow2.out.at i (by rw [mostL_length]; omega)
          rw [e0, mostL_at (by omega)]).mono ?_
        rintro e w3 ⟨rfl, rfl⟩
        go_wp2
        go_roundw
        case rel => exact ⟨k + 1, by omega, by go_num, by rw [← hyes2.out]; exact (hrow.out.put (by rw [mostL_length]) r _).alloc _, by go_grown⟩
        case measure => simp [intOf]; omega
    · obtain rfl : k = m := by omega
      have HM : Hid (∀ W, (∀ i, i ≤ N → W.cell? ⟨w2.heap.size, i, none⟩ = some (.int .i64 ((M.most K k i : Nat) : Int))) → Calls Tryd.prog 114 #[.slice (some ⟨w2.heap.size, 0, none⟩) n n] W fun e w' => e = .returned (.int .i64 ((M.maxTo (M.most K k) N : Nat) : Int)) ∧ W = w') := fun W hW =>
        slices_Max W _ N _ _ HN.out (M.most K k) hW (fun i hi => by have := M.most_le K k i; omega) (by have := HN.out; omega)
      rw [← hbm.out] at HM
      go_wp2_with fail
      refine (HM.out _ fun i hi => by
        obtain ⟨e0, _⟩ := hrow.out.at i (by rw [mostL_length]; have := HN.out; omega)
        rw [e0, mostL_at (by have := HN.out; omega)]).mono ?_
      rintro e w3 ⟨rfl, rfl⟩
      go_wp2
      go_ret
      exact ⟨ret_int hv.out.symm, BL.out.trans (hb.mono BL.out.size)⟩

set_option maxHeartbeats 1000000 in
theorem impl_MovedLetters (w : World) (b p : Int) (a : Option Addr) (n c : Nat) (S : Nat → ByteArray) (h : Strs w a n S) (hf : SFits n S) (hn : n ≤ 1048576) (a2 : Option Addr) (m c2 : Nat) (I : Nat → Int) (C : Nat → ByteArray) (h2 : Lts w a2 m I C) (hf2 : Fits m I C) (hm : m ≤ 1048576) :
    Calls Tryd.prog 39 #[.agg #[.int .i64 b, .int .i64 p, .slice a n c], .slice a2 m c2] w fun e w' => e = .returned (.int .i64 (M.moved b p n S m I C)) ∧ Below w.heap.size w w' := by
  have b0 := below_alloc0 w (.cells #[.int .i64 b, .int .i64 p, .slice a n c] 25)
  have HR := Lib.hid (impl_KeptLetters _ b p a n c S (h.on b0) hf hn a2 m c2 I C (h2.on b0) hf2)
  have B0 := Lib.hid b0
  obtain ⟨k0, k1⟩ := M.kept_bd b p n S m I C
  have hv : Hid (M.moved b p n S m I C = if M.kept b p n S m I C < 0 then -1 else m - M.kept b p n S m I C) := rfl
  obtain ⟨x, hx⟩ : ∃ x, M.kept b p n S m I C = x := ⟨_, rfl⟩
  rw [hx] at HR k0 k1 hv
  clear h hf h2 hf2 b0 hx
  by_cases h0 : x < 0
  · have hv2 : Hid (M.moved b p n S m I C = -1) := by rw [hv.out, if_pos h0]; rfl
    go_enter Tryd.func39, Tryd.ntmps39
    go_wp2_with fail
    refine HR.out.mono ?_
    rintro e w1 ⟨rfl, hb1⟩
    go_wp2
    go_ret
    exact ⟨ret_int hv2.out.symm, sstep B0.out hb1⟩
  · have hv2 : Hid (M.moved b p n S m I C = m - x) := by rw [hv.out, if_neg h0]; rfl
    go_enter Tryd.func39, Tryd.ntmps39
    go_wp2_with fail
    refine HR.out.mono ?_
    rintro e w1 ⟨rfl, hb1⟩
    go_wp2
    go_ret
    exact ⟨ret_int hv2.out.symm, sstep B0.out hb1⟩

/-- The numbers that the model keeps, one for each letter. -/
def lngL (K : Nat → Int) (m k : Nat) : List Int := (List.range m).map fun j => if j < k then ((M.lng K j : Nat) : Int) else 0
theorem lngL_length (K : Nat → Int) (m k : Nat) : (lngL K m k).length = m := by simp [lngL]
theorem lngL_at {K : Nat → Int} {m k j : Nat} (h : j < k) (hm : j < m) : MW.gz (lngL K m k) j = ((M.lng K j : Nat) : Int) := by
  rw [MW.gz_at (by rw [lngL_length]; exact hm)]
  simp [lngL, h]
theorem lngL_zero (K : Nat → Int) (m : Nat) : lngL K m 0 = List.replicate m 0 := by
  apply List.ext_getElem
  · simp [lngL]
  · intro i h1 h2
    simp [lngL]
theorem lngL_set {K : Nat → Int} {m k : Nat} {x : Int} (hx : x = ((M.lng K k : Nat) : Int)) : (lngL K m k).set k x = lngL K m (k + 1) := by
  subst hx
  apply List.ext_getElem?
  intro i
  by_cases hi : i < m
  · by_cases e : k = i
    · subst e
      rw [List.getElem?_set_self (by rw [lngL_length]; exact hi)]
      simp [lngL, hi]
    · rw [List.getElem?_set_ne e]
      simp [lngL, hi]
      by_cases h1 : i < k
      · rw [if_pos h1, if_pos (by omega)]
      · rw [if_neg h1, if_neg (by omega)]
  · rw [List.getElem?_eq_none (by rw [List.length_set, lngL_length]; omega), List.getElem?_eq_none (by rw [lngL_length]; omega)]
theorem lngL_none {K : Nat → Int} {m k : Nat} (h : K k < 0) : lngL K m (k + 1) = lngL K m k := by
  apply List.ext_getElem?
  intro i
  by_cases hi : i < m
  · simp [lngL, hi]
    by_cases e : i = k
    · subst e
      rw [if_pos (by omega), if_neg (by omega), M.lng_none h]; rfl
    · by_cases h1 : i < k
      · rw [if_pos h1, if_pos (by omega)]
      · rw [if_neg h1, if_neg (by omega)]
  · rw [List.getElem?_eq_none (by rw [lngL_length]; omega), List.getElem?_eq_none (by rw [lngL_length]; omega)]

theorem IRow.put2 {w : World} {base g n c k : Nat} {L : List Int} {Y : Int} (h : IRow w base (.slice (some ⟨g, 0, none⟩) n c) (L.set k Y)) (hn : n = (L.set k Y).length) (k' : Nat) (x : Int) (e : k = k' := by rfl) :
    IRow (w.setCell ⟨g, k', none⟩ (.int .i64 x)) base (.slice (some ⟨g, 0, none⟩) n c) (L.set k' x) := by
  subst e
  have := h.put hn k x
  rwa [List.set_set] at this

end Go.Proofs.YtnaghfppeejaoaaDoor
