/-
  The text of orders tells the orders, and what is read out of a text that is accepted is written as that text.
-/
import Derived.Test.YtodnolefdapbdaaDoorPrRt
import Derived.Test.YtodnolefdapbdaaDoorFwdParse
namespace Go.Proofs.YtodnolefdapbdaaDoor
open Go.RowKit
open Go.PlainAid (bt get_bt bt_nonneg bt_le)
set_option linter.unusedVariables false

theorem code_clean {s : ByteArray} (h : M.code s = true) {c : UInt8} (hc : c.toNat < 48 ∨ 57 < c.toNat) : c ∉ s.data.toList := fun hm => by
  obtain ⟨j, e⟩ := List.mem_iff_getElem?.1 hm
  have hj : j < s.size := by
    rcases Nat.lt_or_ge j s.size with h | h
    · exact h
    · rw [List.getElem?_eq_none (by rw [Array.length_toList]; exact h)] at e; cases e
  have h1 := M.digs_bt (M.code_yes h).1 j hj
  have h2 := (M.bt_ne hj).2 e
  omega
theorem fwd_plain {n : Nat} {F T : Nat → ByteArray} (h : M.fwd n F T = true) : M.Plain2 n F T ∧ ∀ i, i < n → 0 < (T i).size := by
  obtain ⟨_, hg⟩ := M.fwd_yes h
  refine ⟨fun i hi => ?_, fun i hi => ?_⟩
  · obtain ⟨h1, h2, _⟩ := hg i hi
    exact ⟨code_clean h1 (Or.inl (by decide)), code_clean h1 (Or.inr (by decide)), code_clean h2 (Or.inl (by decide))⟩
  · have := (M.code_yes (hg i hi).2.1).2
    omega
theorem fwd_same {n : Nat} {F T F' T' : Nat → ByteArray} (h : M.fwd n F T = true) (he : ∀ i, i < n → F' i = F i ∧ T' i = T i) : M.fwd n F' T' = true := by
  obtain ⟨h30, hg⟩ := M.fwd_yes h
  rw [M.fwd_end ((M.fwdTo_iff F' T' n).2 fun i hi => ?_)]
  · exact decide_eq_true h30
  · obtain ⟨e1, e2⟩ := he i hi
    obtain ⟨g1, g2, g3⟩ := hg i hi
    rw [e1, e2]
    exact ⟨g1, g2, fun k hk => by rw [(he k (by omega)).1]; exact g3 k hk⟩
theorem fwd_text_same {n : Nat} {F T F' T' : Nat → ByteArray} (h : M.fwd n F T = true) (he : ∀ i, i < n → F' i = F i ∧ T' i = T i) : M.fwdText n F' T' = M.fwdText n F T := by
  unfold M.fwdText
  rw [if_pos h, if_pos (fwd_same h he)]
  unfold M.itemsOf
  split
  · rfl
  · exact M.gapsTo_congr fun i hi => by unfold M.pairT; rw [(he i hi).1, (he i hi).2]
/-- Orders of a row, and their text. -/
def FwdOf (t : ByteArray) (L : List (ByteArray × ByteArray)) : Prop := M.fwd L.length (nF L) (nT L) = true ∧ M.fwdText L.length (nF L) (nT L) = t
theorem fwd_back {t : ByteArray} {L : List (ByteArray × ByteArray)} (h : FwdOf t L) : M.fwdPOk t = true ∧ M.fwdPL t = L := by
  obtain ⟨h1, h2⟩ := h
  obtain ⟨p1, p2⟩ := fwd_plain h1
  obtain ⟨b1, b2⟩ := pr_back p1 p2
  have ht : M.itemsOf (M.pairT (nF L) (nT L)) L.length = t := by rw [← h2]; unfold M.fwdText; rw [if_pos h1]
  rw [ht] at b1 b2
  have hok : M.fwdPOk t = true := by unfold M.fwdPOk; rw [b1]; exact fwd_same h1 b2
  refine ⟨hok, ?_⟩
  unfold M.fwdPL
  rw [if_pos hok, b1]
  conv => rhs; rw [← flst_nI L]
  unfold M.flst
  apply List.map_congr_left
  intro i hi
  rw [(b2 i (List.mem_range.1 hi)).1, (b2 i (List.mem_range.1 hi)).2]
theorem fwd_read {t : ByteArray} (h : M.fwdPOk t = true) : FwdOf t (M.fwdPL t) := by
  have e : M.fwdPL t = M.flst (M.prF t) (M.prT t) (M.prN t) := by unfold M.fwdPL; rw [if_pos h]
  have hl : (M.fwdPL t).length = M.prN t := by rw [e, M.flst_length]
  have he : ∀ i, i < M.prN t → nF (M.fwdPL t) i = M.prF t i ∧ nT (M.fwdPL t) i = M.prT t i := fun i hi => by
    rw [nF_at (by omega), nT_at (by omega)]
    simp only [e, M.flst, List.getElem_map, List.getElem_range]
    exact ⟨trivial, trivial⟩
  have h1 : M.fwd (M.prN t) (M.prF t) (M.prT t) = true := h
  refine ⟨by rw [hl]; exact fwd_same h1 he, ?_⟩
  rw [hl, fwd_text_same h1 he]
  unfold M.fwdText
  rw [if_pos h1]
  by_cases hd : t = ⟨#[45]⟩
  · subst hd
    rw [pr_dash]
    rfl
  · refine pr_text hd fun i hi => ?_
    rcases Int.lt_or_le (M.findB (sC (M.items t) i) 62) 0 with h2 | h2
    · exfalso
      have h3 := pr_bare h2
      have h4 := (M.code_yes ((M.fwd_yes h1).2 i hi).2.1).2
      rw [h3] at h4
      cases h4
    · exact h2
theorem fwd_text_size {n : Nat} {F T : Nat → ByteArray} (h : M.fwd n F T = true) : 1 ≤ (M.fwdText n F T).size ∧ (M.fwdText n F T).size ≤ 1000 := by
  obtain ⟨h30, hz⟩ := fwd_sizes h
  unfold M.fwdText
  rw [if_pos h]
  unfold M.itemsOf
  by_cases h0 : n = 0
  · rw [if_pos h0]; exact ⟨by decide, by decide⟩
  · rw [if_neg h0]
    have h1 := M.gapsTo_size (g := M.gap) (T := M.pairT F T) (m := 17) (k := n) fun i hi => (M.pairT_size (hz i hi).1 (hz i hi).2).1
    have h2 := M.gapsTo_pos (g := M.gap) (T := M.pairT F T) (k := n) h0 (M.pairT_size (hz (n - 1) (by omega)).1 (hz (n - 1) (by omega)).2).2
    have h3 : M.gap.size = 1 := rfl
    rw [h3] at h1
    omega
end Go.Proofs.YtodnolefdapbdaaDoor
