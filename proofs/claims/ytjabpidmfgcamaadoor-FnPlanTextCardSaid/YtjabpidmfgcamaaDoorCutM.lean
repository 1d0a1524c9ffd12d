/-
  Cutting a string at a sign, on paper: all its parts, and the two parts around the first sign. No program is named here.
-/
import Derived.Test.YtjabpidmfgcamaaDoorTextM
import Derived.Lib.Split
import Derived.Lib.CutLaws
import Derived.PlainAid
namespace Go.Proofs.YtjabpidmfgcamaaDoor.M
open Go.PlainAid (bt get_bt)
set_option linter.unusedVariables false

/-- The first part goes on with what stands ahead of it. -/
def consH (p : List UInt8) : List (List UInt8) → List (List UInt8)
  | [] => [p]
  | x :: r => (p ++ x) :: r
/-- The parts of a list between the signs c. -/
def lparts (c : UInt8) : List UInt8 → List (List UInt8)
  | [] => [[]]
  | b :: l => if b = c then [] :: lparts c l else consH [b] (lparts c l)
theorem lparts_ne (c : UInt8) : ∀ l, lparts c l ≠ []
  | [] => by simp [lparts]
  | b :: l => by
    unfold lparts
    by_cases h : b = c
    · rw [if_pos h]; simp
    · rw [if_neg h]
      cases h2 : lparts c l with
      | nil => simp [consH]
      | cons x r => simp [consH]
theorem lparts_cons (c : UInt8) (l : List UInt8) : ∃ x r, lparts c l = x :: r := by
  cases h : lparts c l with
  | nil => exact absurd h (lparts_ne c l)
  | cons x r => exact ⟨x, r, rfl⟩
theorem consH_consH (p q : List UInt8) (L : List (List UInt8)) (h : L ≠ []) : consH p (consH q L) = consH (p ++ q) L := by
  cases L with
  | nil => exact absurd rfl h
  | cons x r => simp [consH]
theorem lparts_clean {c : UInt8} : ∀ (p l : List UInt8), c ∉ p → lparts c (p ++ l) = consH p (lparts c l)
  | [], l, _ => by
    obtain ⟨x, r, e⟩ := lparts_cons c l
    rw [List.nil_append, e]; rfl
  | b :: p, l, h => by
    have hb : ¬ b = c := fun e => h (by simp [e])
    have ih := lparts_clean p l fun e => h (List.mem_cons_of_mem _ e)
    show (if b = c then _ else consH [b] (lparts c (p ++ l))) = _
    rw [if_neg hb, ih, consH_consH _ _ _ (lparts_ne c l)]
    rfl
theorem lparts_hit {c : UInt8} (p r : List UInt8) (h : c ∉ p) : lparts c (p ++ c :: r) = p :: lparts c r := by
  rw [lparts_clean p _ h]
  have : lparts c (c :: r) = [] :: lparts c r := by
    show (if c = c then _ else _) = _
    rw [if_pos rfl]
  rw [this]
  simp [consH]
theorem lparts_miss {c : UInt8} (p : List UInt8) (h : c ∉ p) : lparts c p = [p] := by
  have := lparts_clean p [] h
  rw [List.append_nil] at this
  rw [this]
  simp [consH, lparts]
theorem join_cons2 (x y : List UInt8) (r : List (List UInt8)) (sep : List UInt8) : Lib.join (x :: y :: r) sep = x ++ sep ++ Lib.join (y :: r) sep := by
  rw [Lib.join_cons, Lib.join_cons]
  simp [Lib.joinTail, List.append_assoc]
theorem lparts_join (c : UInt8) : ∀ l, Lib.join (lparts c l) [c] = l
  | [] => rfl
  | b :: l => by
    have ih := lparts_join c l
    obtain ⟨x, r, e⟩ := lparts_cons c l
    unfold lparts
    by_cases h : b = c
    · rw [if_pos h, e, join_cons2, ← e, ih, h]
      rfl
    · rw [if_neg h, e]
      rw [e, Lib.join_cons] at ih
      show Lib.join (([b] ++ x) :: r) [c] = _
      rw [Lib.join_cons, List.append_assoc, ih]
      rfl
theorem join_lparts (c : UInt8) : ∀ (L : List (List UInt8)), L ≠ [] → (∀ p ∈ L, c ∉ p) → lparts c (Lib.join L [c]) = L
  | [], h, _ => absurd rfl h
  | [p], _, h => by
    rw [Lib.join_one]
    exact lparts_miss p (h p (by simp))
  | p :: q :: r, _, h => by
    rw [join_cons2, List.append_assoc]
    show lparts c (p ++ c :: Lib.join (q :: r) [c]) = _
    rw [lparts_hit _ _ (h p (by simp)), join_lparts c (q :: r) (by simp) fun p hp => h p (by simp [hp])]
theorem lparts_mem {c : UInt8} : ∀ {l : List UInt8} {p : List UInt8}, p ∈ lparts c l → p.length ≤ l.length ∧ c ∉ p
  | [], p, h => by
    have : p = [] := by simpa [lparts] using h
    subst this
    simp
  | b :: l, p, h => by
    unfold lparts at h
    by_cases hb : b = c
    · rw [if_pos hb] at h
      rcases List.mem_cons.1 h with rfl | h
      · simp
      · have := lparts_mem h
        exact ⟨by simp; omega, this.2⟩
    · rw [if_neg hb] at h
      obtain ⟨x, r, e⟩ := lparts_cons c l
      rw [e] at h
      rcases List.mem_cons.1 h with rfl | h
      · have := lparts_mem (l := l) (p := x) (by rw [e]; simp)
        refine ⟨by simp; omega, fun hc => ?_⟩
        rcases List.mem_append.1 hc with hc | hc
        · simp at hc; exact hb hc.symm
        · exact this.2 hc
      · have := lparts_mem (l := l) (p := p) (by rw [e]; simp [h])
        exact ⟨by simp; omega, this.2⟩
theorem iByte_spec : ∀ (l : List UInt8) (c : UInt8), (Lib.indexByte l c = -1 ∧ c ∉ l) ∨ ∃ i : Nat, Lib.indexByte l c = i ∧ i < l.length ∧ l = l.take i ++ c :: l.drop (i + 1) ∧ c ∉ l.take i
  | [], c => Or.inl ⟨rfl, by simp⟩
  | b :: l, c => by
    by_cases h : b = c
    · subst h
      refine Or.inr ⟨0, ?_, by simp, by simp, by simp⟩
      unfold Lib.indexByte
      rw [if_pos (by simp)]
      rfl
    · have hb : ¬ (b == c) = true := by simpa using h
      rcases iByte_spec l c with ⟨h1, h2⟩ | ⟨i, h1, h2, h3, h4⟩
      · refine Or.inl ⟨?_, fun hc => ?_⟩
        · unfold Lib.indexByte
          rw [if_neg hb, h1, if_pos (by rfl)]
        · rcases List.mem_cons.1 hc with e | e
          · exact h e.symm
          · exact h2 e
      · refine Or.inr ⟨i + 1, ?_, by simp; omega, ?_, fun hc => ?_⟩
        · unfold Lib.indexByte
          rw [if_neg hb, h1, if_neg (by simp)]
          rfl
        · rw [List.take_succ_cons, List.drop_succ_cons, List.cons_append, ← h3]
        · rw [List.take_succ_cons] at hc
          rcases List.mem_cons.1 hc with e | e
          · exact h e.symm
          · exact h4 e
/-- The index of the first sign, or -1. -/
def findB (s : ByteArray) (c : UInt8) : Int := Lib.indexByte s.data.toList c
theorem data_at (s : ByteArray) (i : Nat) (h : i < s.size) : s.data.toList[i]? = some (s[i]'h) := Lib.data_getElem? s i h
theorem bt_ne {s : ByteArray} {c : UInt8} {j : Nat} (h : j < s.size) : bt s j = (c.toNat : Int) ↔ s.data.toList[j]? = some c := by
  rw [data_at s j h, ← get_bt s j h]
  constructor
  · intro e
    rw [UInt8.toNat_inj.1 (by omega : (s[j]'h).toNat = c.toNat)]
  · intro e
    rw [Option.some.inj e]
theorem take_clean {s : ByteArray} {c : UInt8} {a b : Nat} (hb : b ≤ s.size) (h : ∀ j, a ≤ j → j < b → bt s j ≠ (c.toNat : Int)) : c ∉ (s.data.toList.drop a).take (b - a) := by
  intro hc
  obtain ⟨j, hj, e⟩ := List.mem_iff_getElem?.1 hc |>.imp fun j e => (⟨(by
    rw [List.getElem?_take] at e
    by_cases hjb : j < b - a
    · exact hjb
    · rw [if_neg hjb] at e; cases e), e⟩ : j < b - a ∧ ((s.data.toList.drop a).take (b - a))[j]? = some c)
  rw [List.getElem?_take, if_pos hj, List.getElem?_drop] at e
  exact h (a + j) (by omega) (by omega) ((bt_ne (by omega)).2 e)
theorem findB_at {s : ByteArray} {c : UInt8} {k : Nat} (hk : k < s.size) (hb : bt s k = (c.toNat : Int)) (h : ∀ j, j < k → bt s j ≠ (c.toNat : Int)) : findB s c = k := by
  have h1 := (bt_ne hk).1 hb
  have h2 := take_clean (s := s) (c := c) (a := 0) (b := k) (by omega) fun j _ hj => h j hj
  rw [List.drop_zero, Nat.sub_zero] at h2
  rcases iByte_spec s.data.toList c with ⟨_, h4⟩ | ⟨i, h3, h4, h5, h6⟩
  · exact absurd (List.mem_of_getElem? h1) h4
  · unfold findB
    rw [h3]
    have h7 : s.data.toList[i]? = some c := by
      rw [h5]
      rw [List.getElem?_append_right (by rw [List.length_take]; omega), List.length_take]
      rw [show i - min i s.data.toList.length = 0 by omega]
      rfl
    by_cases e : i = k
    · rw [e]
    · exfalso
      rcases Nat.lt_or_gt_of_ne e with hlt | hgt
      · exact h i hlt ((bt_ne (by omega)).2 h7)
      · apply h6
        refine List.mem_of_getElem? (i := k) ?_
        rw [List.getElem?_take, if_pos hgt]
        exact h1
theorem findB_no {s : ByteArray} {c : UInt8} (h : ∀ j, j < s.size → bt s j ≠ (c.toNat : Int)) : findB s c = -1 := by
  have h2 := take_clean (s := s) (c := c) (a := 0) (b := s.size) (by omega) fun j _ hj => h j hj
  rw [List.drop_zero, Nat.sub_zero, List.take_of_length_le (by rw [Array.length_toList]; exact Nat.le_refl _)] at h2
  rcases iByte_spec s.data.toList c with ⟨h3, _⟩ | ⟨i, _, h4, h5, _⟩
  · exact h3
  · exact absurd (by rw [h5]; simp) h2
theorem findB_cases (s : ByteArray) (c : UInt8) : findB s c = -1 ∨ ∃ i : Nat, findB s c = i ∧ i < s.size := by
  rcases iByte_spec s.data.toList c with ⟨h, _⟩ | ⟨i, h, h2, _⟩
  · exact Or.inl h
  · exact Or.inr ⟨i, h, by rw [Array.length_toList] at h2; exact h2⟩
/-- What stands ahead of the first sign, and behind it. -/
def cutL (c : UInt8) (s : ByteArray) : ByteArray := if findB s c < 0 then s else s.extract 0 (findB s c).toNat
def cutR (c : UInt8) (s : ByteArray) : ByteArray := if findB s c < 0 then ⟨#[]⟩ else s.extract ((findB s c).toNat + 1) s.size
theorem cut_lib (c : UInt8) (s : ByteArray) : (⟨(Lib.cut s.data.toList (⟨#[c]⟩ : ByteArray).data.toList).1.toArray⟩ : ByteArray) = cutL c s ∧ (⟨(Lib.cut s.data.toList (⟨#[c]⟩ : ByteArray).data.toList).2.1.toArray⟩ : ByteArray) = cutR c s := by
  have e : Lib.indexB s ⟨#[c]⟩ = findB s c := Lib.index_one _ _
  rcases findB_cases s c with h | ⟨i, h, hi⟩
  · obtain ⟨h1, h2, _⟩ := Lib.cutB_miss s ⟨#[c]⟩ (e.trans h)
    unfold cutL cutR
    rw [if_pos (by omega), if_pos (by omega)]
    exact ⟨h1, h2⟩
  · obtain ⟨h1, h2, _⟩ := Lib.cutB_hit s ⟨#[c]⟩ i (e.trans h)
    have hi2 : (findB s c).toNat = i := by omega
    unfold cutL cutR
    rw [if_neg (by omega), if_neg (by omega), hi2]
    exact ⟨h1, h2⟩
theorem cut_join {c : UInt8} {s : ByteArray} (h : 0 ≤ findB s c) : cutL c s ++ ⟨#[c]⟩ ++ cutR c s = s := by
  rcases iByte_spec s.data.toList c with ⟨h1, _⟩ | ⟨i, h1, h2, h3, _⟩
  · exact absurd h (by show ¬ 0 ≤ Lib.indexByte s.data.toList c; omega)
  · have hi2 : (findB s c).toNat = i := by show (Lib.indexByte s.data.toList c).toNat = i; omega
    unfold cutL cutR
    rw [if_neg (by omega), if_neg (by omega), hi2]
    apply ByteArray.ext
    apply Array.toList_inj.1
    rw [bapp_data, bapp_data, Lib.extract_data, Lib.extract_data, List.drop_zero, Nat.sub_zero]
    rw [List.take_of_length_le (i := s.size - (i + 1)) (by rw [List.length_drop, Array.length_toList]; exact Nat.le_refl _)]
    rw [List.append_assoc]
    exact h3.symm
theorem cutL_size (c : UInt8) (s : ByteArray) : (cutL c s).size ≤ s.size := by
  unfold cutL
  by_cases h : findB s c < 0
  · rw [if_pos h]; exact Nat.le_refl _
  · rw [if_neg h, ByteArray.size_extract]; omega
theorem cutR_size (c : UInt8) (s : ByteArray) : (cutR c s).size ≤ s.size := by
  unfold cutR
  by_cases h : findB s c < 0
  · rw [if_pos h]; exact Nat.zero_le _
  · rw [if_neg h, ByteArray.size_extract]; omega
theorem cutR_none {c : UInt8} {s : ByteArray} (h : findB s c < 0) : cutR c s = ⟨#[]⟩ := if_pos h
/-- All parts of a string between the signs c. -/
def bparts (c : UInt8) (s : ByteArray) : List ByteArray := (lparts c s.data.toList).map fun l => ⟨l.toArray⟩
theorem mk_list (s : ByteArray) : (⟨s.data.toList.toArray⟩ : ByteArray) = s := by
  apply ByteArray.ext; simp
theorem split_lib (c : UInt8) : ∀ (n : Nat) (s : ByteArray), s.size ≤ n → Lib.splitB ⟨#[c]⟩ 0 (Lib.countB s ⟨#[c]⟩) s = bparts c s
  | n, s, hn => by
    have e : Lib.indexB s ⟨#[c]⟩ = Lib.indexByte s.data.toList c := Lib.index_one _ _
    rcases iByte_spec s.data.toList c with ⟨h1, h2⟩ | ⟨i, h1, h2, h3, h4⟩
    · rw [Lib.splitB_miss _ _ _ _ (e.trans h1)]
      unfold bparts
      rw [lparts_miss _ h2, List.map_cons, List.map_nil, mk_list]
    · rw [Array.length_toList] at h2
      have h2' : i < s.size := h2
      rw [Lib.countB_hit s ⟨#[c]⟩ i (Nat.le_refl 1) (e.trans h1), Nat.add_comm 1, Lib.splitB_hit _ _ _ _ i (e.trans h1)]
      have h8 : (⟨#[c]⟩ : ByteArray).size = 1 := rfl
      rw [h8]
      match n, hn with
      | 0, hn => omega
      | n + 1, hn =>
        rw [split_lib c n (s.extract (i + 1) s.size) (by rw [ByteArray.size_extract]; omega)]
        unfold bparts
        conv => rhs; rw [h3]
        rw [lparts_hit _ _ h4, List.map_cons]
        congr 1
        · apply ByteArray.ext
          apply Array.toList_inj.1
          rw [Lib.extract_data, List.drop_zero]
          simp
        · rw [Lib.extract_to_end]
theorem bparts_count (c : UInt8) : ∀ (n : Nat) (s : ByteArray), s.size ≤ n → Lib.countB s ⟨#[c]⟩ + 1 = (bparts c s).length
  | n, s, hn => by
    have e : Lib.indexB s ⟨#[c]⟩ = Lib.indexByte s.data.toList c := Lib.index_one _ _
    rcases iByte_spec s.data.toList c with ⟨h1, h2⟩ | ⟨i, h1, h2, h3, h4⟩
    · rw [Lib.countB_miss _ _ (e.trans h1)]
      unfold bparts
      rw [lparts_miss _ h2]
      rfl
    · rw [Array.length_toList] at h2
      have h2' : i < s.size := h2
      have h8 : (⟨#[c]⟩ : ByteArray).size = 1 := rfl
      rw [Lib.countB_hit s ⟨#[c]⟩ i (Nat.le_refl 1) (e.trans h1), h8]
      match n, hn with
      | 0, hn => omega
      | n + 1, hn =>
        have ih := bparts_count c n (s.extract (i + 1) s.size) (by rw [ByteArray.size_extract]; omega)
        unfold bparts at ih ⊢
        rw [Lib.extract_to_end] at ih
        conv => rhs; rw [h3]
        rw [lparts_hit _ _ h4, List.map_cons, List.length_cons, ← ih]
        omega
theorem bparts_pos (c : UInt8) (s : ByteArray) : 0 < (bparts c s).length := by
  obtain ⟨x, r, e⟩ := lparts_cons c s.data.toList
  unfold bparts
  rw [e]; simp
theorem bparts_mem {c : UInt8} {s p : ByteArray} (h : p ∈ bparts c s) : p.size ≤ s.size := by
  obtain ⟨l, hl, rfl⟩ := List.mem_map.1 h
  have := (lparts_mem hl).1
  rw [Array.length_toList] at this
  exact this
theorem bparts_len (c : UInt8) (s : ByteArray) : (bparts c s).length ≤ s.size + 1 := by
  have : ∀ l : List UInt8, (lparts c l).length ≤ l.length + 1 := by
    intro l
    induction l with
    | nil => simp [lparts]
    | cons b l ih =>
      unfold lparts
      by_cases h : b = c
      · rw [if_pos h]; simp; exact ih
      · rw [if_neg h]
        obtain ⟨x, r, e⟩ := lparts_cons c l
        rw [e] at ih ⊢
        simp [consH] at ih ⊢
        omega
  unfold bparts
  rw [List.length_map]
  have h2 := this s.data.toList
  rw [Array.length_toList] at h2
  exact h2
/-- The parts, joined by the sign, are the string. -/
theorem bparts_gaps (c : UInt8) (s : ByteArray) (S : Nat → ByteArray) (hS : ∀ i (h : i < (bparts c s).length), S i = (bparts c s)[i]) : gapsTo ⟨#[c]⟩ S (bparts c s).length = s := by
  apply ByteArray.ext
  apply Array.toList_inj.1
  rw [gapsTo_join]
  have e : (List.range (bparts c s).length).map S = bparts c s := by
    apply List.ext_getElem
    · simp
    · intro i h1 h2
      simp
      exact hS i h2
  rw [e]
  have e2 : (bparts c s).map (·.data.toList) = lparts c s.data.toList := by
    unfold bparts
    rw [List.map_map]
    conv => rhs; rw [← List.map_id (lparts c s.data.toList)]
    apply List.map_congr_left
    intro l _
    rfl
  rw [e2]
  exact lparts_join c _
/-- One round of the cutting: the parts done, the part under way, the rest. -/
theorem cut_round {c : UInt8} {s : ByteArray} {a k : Nat} (hk : k < s.size) (ha : a ≤ k) (hc : ∀ j, a ≤ j → j < k → bt s j ≠ (c.toNat : Int)) :
    (bt s k = (c.toNat : Int) → lparts c (s.data.toList.drop a) = (s.extract a k).data.toList :: lparts c (s.data.toList.drop (k + 1))) := by
  intro hb
  have h1 := (bt_ne hk).1 hb
  have h2 := take_clean (s := s) (c := c) (by omega) hc
  have e : s.data.toList.drop a = (s.data.toList.drop a).take (k - a) ++ c :: s.data.toList.drop (k + 1) := by
    conv => lhs; rw [← List.take_append_drop (k - a) (s.data.toList.drop a)]
    congr 1
    rw [List.drop_drop, show a + (k - a) = k by omega]
    rw [List.drop_eq_getElem_cons (by rw [Array.length_toList]; exact hk)]
    congr 1
    rw [List.getElem?_eq_getElem (by rw [Array.length_toList]; exact hk)] at h1
    exact Option.some.inj h1
  rw [e, lparts_hit _ _ h2, Lib.extract_data]
theorem cut_last {c : UInt8} {s : ByteArray} {a : Nat} (ha : a ≤ s.size) (hc : ∀ j, a ≤ j → j < s.size → bt s j ≠ (c.toNat : Int)) :
    lparts c (s.data.toList.drop a) = [(s.extract a s.size).data.toList] := by
  have h2 := take_clean (s := s) (c := c) (Nat.le_refl _) hc
  have e : (s.data.toList.drop a).take (s.size - a) = s.data.toList.drop a := List.take_of_length_le (by rw [List.length_drop, Array.length_toList]; exact Nat.le_refl _)
  rw [e] at h2
  rw [lparts_miss _ h2, Lib.extract_data, e]
end Go.Proofs.YtjabpidmfgcamaaDoor.M
