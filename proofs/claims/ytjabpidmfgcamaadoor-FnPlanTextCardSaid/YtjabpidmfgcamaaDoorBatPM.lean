/-
  The text of a batch read back, on paper.
-/
import Derived.Test.YtjabpidmfgcamaaDoorBatText
import Derived.Test.YtjabpidmfgcamaaDoorCut
import Derived.Test.YtjabpidmfgcamaaDoorRow
import Derived.Lib.AtoiAll
namespace Go.Proofs.YtjabpidmfgcamaaDoor
open Go.RowKit
open Go.PlainAid (bt get_bt bt_nonneg bt_le)
set_option linter.unusedVariables false

theorem M.decT_digs : ∀ (u : Nat) (x : UInt8), x ∈ Lib.decDigits u → 48 ≤ x.toNat ∧ x.toNat ≤ 57 := by
  intro u
  induction u using Nat.strongRecOn with
  | _ u ih =>
    intro x hx
    by_cases h : u < 10
    · rw [M.decT_small h] at hx
      have : x = UInt8.ofNat (48 + u) := by simpa using hx
      subst this
      rw [UInt8.toNat_ofNat']
      omega
    · rw [M.decT_big h] at hx
      rcases List.mem_append.1 hx with hx | hx
      · exact ih (u / 10) (by omega) x hx
      · have : x = UInt8.ofNat (48 + u % 10) := by simpa using hx
        subst this
        rw [UInt8.toNat_ofNat']
        omega
theorem M.decT_head (u : Nat) (h : 1 ≤ u) : ∃ c r, Lib.decDigits u = c :: r ∧ c.toNat ≠ 48 := by
  induction u using Nat.strongRecOn with
  | _ u ih =>
    by_cases h9 : u < 10
    · rw [M.decT_small h9]
      refine ⟨_, [], rfl, ?_⟩
      rw [UInt8.toNat_ofNat']
      omega
    · obtain ⟨c, r, e, hc⟩ := ih (u / 10) (by omega) (by omega)
      rw [M.decT_big h9, e]
      exact ⟨c, _, rfl, hc⟩
theorem uint_app : ∀ (l1 l2 : List UInt8) (acc a : Nat), Lib.parseUint10 acc l1 = .ok a → Lib.parseUint10 acc (l1 ++ l2) = Lib.parseUint10 a l2
  | [], l2, acc, a, h => by
    have : acc = a := by simpa [Lib.parseUint10] using h
    rw [this]; rfl
  | c :: r, l2, acc, a, h => by
    rw [List.cons_append]
    simp only [Lib.parseUint10] at h ⊢
    split at h
    · rename_i hc
      rw [if_pos hc]
      split at h
      · cases h
      · rename_i hc2
        rw [if_neg hc2]
        split at h
        · cases h
        · rename_i hc3
          rw [if_neg hc3]
          exact uint_app r l2 _ a h
    · cases h
theorem uint_dec (u : Nat) (h : u ≤ 9999) : Lib.parseUint10 0 (Lib.decDigits u) = .ok u := by
  induction u using Nat.strongRecOn with
  | _ u ih =>
    by_cases h9 : u < 10
    · have e : (UInt8.ofNat (48 + u)).toNat = 48 + u := by rw [UInt8.toNat_ofNat']; omega
      rw [M.decT_small h9]
      simp only [Lib.parseUint10, e]
      rw [if_pos (by omega), if_neg (by omega), if_neg (by omega)]
      congr 1
      omega
    · have e : (UInt8.ofNat (48 + u % 10)).toNat = 48 + u % 10 := by rw [UInt8.toNat_ofNat']; omega
      rw [M.decT_big h9, uint_app _ _ _ (u / 10) (ih (u / 10) (by omega) (by omega))]
      simp only [Lib.parseUint10, e]
      rw [if_pos (by omega), if_neg (by omega), if_neg (by omega)]
      congr 1
      omega
theorem atoi_dec {n : Int} (h0 : 1 ≤ n) (h1 : n ≤ 9999) : Lib.atoiAll (M.decT n).data.toList = .ok n := by
  have e : (M.decT n).data.toList = Lib.decDigits n.toNat := rfl
  obtain ⟨c, r, ec, _⟩ := M.decT_head n.toNat (by omega)
  have hc := M.decT_digs n.toNat c (by rw [ec]; simp)
  have hu := uint_dec n.toNat (by omega)
  rw [e]
  rw [ec] at hu ⊢
  unfold Lib.atoiAll
  have h2 : ¬ (c.toNat = 43 ∨ c.toNat = 45) := by omega
  have h3 : ¬ c.toNat = 45 := by omega
  simp only [if_neg h2]
  unfold Lib.parseMag
  rw [if_neg (by simp), hu]
  simp only [h3, not_false_eq_true, true_and, false_and, if_false]
  rw [if_neg (by omega)]
  congr 1
  omega
theorem atoi_bd {l : List UInt8} {v : Int} (h : Lib.atoiAll l = .ok v) : -9223372036854775808 ≤ v ∧ v ≤ 9223372036854775807 := by
  unfold Lib.atoiAll at h
  split at h
  · cases h
  · rename_i c r
    simp only at h
    split at h
    · cases h
    · cases h
    · rename_i u hu
      split at h
      · cases h
      · rename_i h1
        split at h
        · cases h
        · rename_i h2
          injection h with h
          by_cases hn : c.toNat = 45
          · rw [if_pos hn] at h
            have : ¬ 9223372036854775808 < u := fun e => h2 ⟨hn, e⟩
            omega
          · rw [if_neg hn] at h
            have : ¬ 9223372036854775808 ≤ u := fun e => h1 ⟨hn, e⟩
            omega
/-- What a letter's text says of the letter. -/
def LFit (s : ByteArray) (x : Int × ByteArray) : Prop := (-9223372036854775808 ≤ x.1 ∧ x.1 ≤ 9223372036854775807) ∧ x.2.size ≤ 1048576 ∧ ∀ (i : Int) (c : ByteArray), 1 ≤ i → i ≤ 9999 → s = M.decT i ++ M.colon ++ c → x = (i, c)
theorem no_colon {i : Int} : (58 : UInt8) ∉ (M.decT i).data.toList := fun h => by
  have := M.decT_digs i.toNat 58 h
  have e : (58 : UInt8).toNat = 58 := rfl
  omega
theorem find_app {a c : ByteArray} (h : (58 : UInt8) ∉ a.data.toList) : M.findB (a ++ M.colon ++ c) 58 = (a.size : Int) := by
  have e : (a ++ M.colon ++ c).data.toList = a.data.toList ++ 58 :: c.data.toList := by
    rw [M.bapp_data, M.bapp_data, List.append_assoc]; rfl
  unfold M.findB
  rw [e]
  have : ∀ (l r : List UInt8), (58 : UInt8) ∉ l → Lib.indexByte (l ++ 58 :: r) 58 = (l.length : Int) := by
    intro l r hl
    induction l with
    | nil => rfl
    | cons b l ih =>
      have hb : ¬ (b == 58) = true := fun e => hl (by rw [beq_iff_eq.1 e]; simp)
      have ih := ih fun e => hl (by simp [e])
      rw [List.cons_append]
      unfold Lib.indexByte
      rw [if_neg hb, ih, if_neg (by simp)]
      simp
  rw [this _ _ h, Array.length_toList]
  rfl
theorem cut_app {a c : ByteArray} (h : (58 : UInt8) ∉ a.data.toList) : M.cutL 58 (a ++ M.colon ++ c) = a ∧ M.cutR 58 (a ++ M.colon ++ c) = c := by
  have hf := find_app (c := c) h
  have e : (a ++ M.colon ++ c).data.toList = a.data.toList ++ 58 :: c.data.toList := by
    rw [M.bapp_data, M.bapp_data, List.append_assoc]; rfl
  have hl : a.data.toList.length = a.size := Array.length_toList
  have hs : (a ++ M.colon ++ c).size = a.size + 1 + c.size := by
    rw [ByteArray.size_append, ByteArray.size_append]; rfl
  have hlc : c.data.toList.length = c.size := Array.length_toList
  unfold M.cutL M.cutR
  rw [hf, if_neg (by omega), if_neg (by omega), Int.toNat_natCast]
  constructor
  · apply ByteArray.ext
    apply Array.toList_inj.1
    rw [Lib.extract_data, e, List.drop_zero, Nat.sub_zero, ← hl, List.take_left']
    rfl
  · apply ByteArray.ext
    apply Array.toList_inj.1
    rw [Lib.extract_data, e, hs, show a.size + 1 = (a.data.toList ++ [58]).length by rw [List.length_append, hl]; rfl]
    rw [show a.data.toList ++ 58 :: c.data.toList = (a.data.toList ++ [58]) ++ c.data.toList by simp, List.drop_left']
    · rw [List.take_of_length_le]
      rw [hlc, List.length_append, hl]
      simp
    · rfl
/-- Letters whose text is t. -/
def BatOf (t : ByteArray) (L : List (Int × ByteArray)) : Prop := M.batch L.length (nI L) (nC L) = true ∧ M.batText L.length (nI L) (nC L) = t
theorem no_gap {I : Nat → Int} {C : Nat → ByteArray} {i : Nat} (h : M.code (C i) = true) : (32 : UInt8) ∉ (M.letT I C i).data.toList := fun hc => by
  unfold M.letT at hc
  rw [M.bapp_data, M.bapp_data] at hc
  have e : (32 : UInt8).toNat = 32 := rfl
  rcases List.mem_append.1 hc with hc | hc
  · rcases List.mem_append.1 hc with hc | hc
    · have := M.decT_digs (I i).toNat 32 hc
      omega
    · simp [M.colon] at hc
  · obtain ⟨hd, hs⟩ := M.code_yes h
    have h2 := M.take_clean (s := C i) (c := 32) (a := 0) (b := (C i).size) (Nat.le_refl _) fun j _ hj e2 => by
      have := M.digs_bt hd j hj
      have e3 : ((32 : UInt8).toNat : Int) = 32 := rfl
      omega
    rw [List.drop_zero, Nat.sub_zero, List.take_of_length_le (by rw [Array.length_toList]; exact Nat.le_refl _)] at h2
    exact h2 hc
theorem gaps_parts {S : Nat → ByteArray} {n : Nat} (h0 : n ≠ 0) (h : ∀ i, i < n → (32 : UInt8) ∉ (S i).data.toList) : M.bparts 32 (M.gapsTo M.gap S n) = (List.range n).map S := by
  unfold M.bparts
  rw [M.gapsTo_join, show M.gap.data.toList = [32] from rfl, M.join_lparts]
  · rw [List.map_map]
    conv => rhs; rw [← List.map_id ((List.range n).map S)]
    apply List.map_congr_left
    intro x _
    exact M.mk_list x
  · intro e
    have := congrArg List.length e
    simp at this
    exact h0 this
  · intro p hp
    rw [List.map_map] at hp
    obtain ⟨i, hi, rfl⟩ := List.mem_map.1 hp
    exact h i (List.mem_range.1 hi)
/-- The items of a batch's text. -/
theorem BatOf.items {t : ByteArray} {L : List (Int × ByteArray)} (h : BatOf t L) : (M.items t).length = L.length ∧ ∀ i, i < L.length → sC (M.items t) i = M.letT (nI L) (nC L) i := by
  obtain ⟨hb, ht⟩ := h
  unfold M.batText at ht
  rw [hb, if_pos rfl] at ht
  unfold M.itemsOf at ht
  obtain ⟨_, hall⟩ := M.batch_yes hb
  by_cases h0 : L.length = 0
  · rw [if_pos h0] at ht
    have : M.items t = [] := if_pos ht.symm
    rw [this]
    exact ⟨h0.symm, fun i hi => by omega⟩
  · rw [if_neg h0] at ht
    have hp := gaps_parts h0 (S := M.letT (nI L) (nC L)) fun i hi => no_gap (hall i hi).1
    rw [ht] at hp
    have hne : t ≠ ⟨#[45]⟩ := fun e => by
      have h1 := (bat_sizes hb).2 0 (by omega)
      have h2 : t.size = 1 := by rw [e]; rfl
      have h3 := M.gapsTo_pos (g := M.gap) (T := M.letT (nI L) (nC L)) h0 (by have := (bat_sizes hb).2 (L.length - 1) (by omega); omega)
      have h4 : M.bparts 32 t = [t] := by rw [e]; decide
      rw [h4] at hp
      have h5 : L.length = 1 := by
        have := congrArg List.length hp
        simp at this
        omega
      rw [h5] at hp
      have h6 : t = M.letT (nI L) (nC L) 0 := by simpa using hp
      have h7 : (M.letT (nI L) (nC L) 0).size = (M.decT (nI L 0)).size + 1 + (nC L 0).size := by
        unfold M.letT
        rw [ByteArray.size_append, ByteArray.size_append]
        rfl
      rw [← h6] at h7
      omega
    have hi : M.items t = (List.range L.length).map (M.letT (nI L) (nC L)) := (if_neg hne).trans hp
    rw [hi]
    refine ⟨by simp, fun i hi => ?_⟩
    rw [sC_at (by simpa using hi)]
    simp
theorem BatOf.same {t : ByteArray} {L R : List (Int × ByteArray)} (h : BatOf t L) (hn : R.length = L.length) (hf : ∀ i (h : i < R.length), LFit (sC (M.items t) i) R[i]) : R = L := by
  obtain ⟨h1, h2⟩ := h.items
  obtain ⟨_, hall⟩ := M.batch_yes h.1
  apply List.ext_getElem hn
  intro i hi1 hi2
  have h3 := (hall i hi2).2.1
  have h4 := (hf i hi1).2.2 (nI L i) (nC L i) h3.1 h3.2 (h2 i hi2)
  rw [h4, nI_at hi2, nC_at hi2]
end Go.Proofs.YtjabpidmfgcamaaDoor
