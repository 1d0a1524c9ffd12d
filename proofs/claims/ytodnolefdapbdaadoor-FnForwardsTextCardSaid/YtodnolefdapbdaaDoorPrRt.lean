/-
  What is read out of a text of pairs is what was written.
-/
import Derived.Test.YtodnolefdapbdaaDoorPair
namespace Go.Proofs.YtodnolefdapbdaaDoor
open Go.PlainAid (bt get_bt bt_nonneg bt_le)
set_option linter.unusedVariables false

/-- The pairs can be told apart: no gap in them, no sign > in the first of two. -/
def M.Plain2 (n : Nat) (F T : Nat → ByteArray) : Prop := ∀ i, i < n → (32 : UInt8) ∉ (F i).data.toList ∧ (62 : UInt8) ∉ (F i).data.toList ∧ (32 : UInt8) ∉ (T i).data.toList
theorem pair_clean {F T : Nat → ByteArray} {k : Nat} (h1 : (32 : UInt8) ∉ (F k).data.toList) (h2 : (32 : UInt8) ∉ (T k).data.toList) : (32 : UInt8) ∉ (M.pairT F T k).data.toList := fun hm => by
  unfold M.pairT at hm
  rw [M.bapp_data, M.bapp_data] at hm
  rcases List.mem_append.1 hm with hm | hm
  · rcases List.mem_append.1 hm with hm | hm
    · exact h1 hm
    · exact absurd hm (by decide)
  · exact h2 hm
theorem gaps_parts (c : UInt8) (S : Nat → ByteArray) {n : Nat} (h0 : n ≠ 0) (h : ∀ i, i < n → c ∉ (S i).data.toList) : M.bparts c (M.gapsTo ⟨#[c]⟩ S n) = (List.range n).map S := by
  unfold M.bparts
  rw [M.gapsTo_join]
  have hne : ((List.range n).map S).map (·.data.toList) ≠ [] := by
    intro e
    have := congrArg List.length e
    simp at this
    exact h0 this
  show (M.lparts c (Lib.join _ [c])).map _ = _
  rw [M.join_lparts c _ hne ?_]
  · rw [List.map_map]
    conv => rhs; rw [← List.map_id ((List.range n).map S)]
    apply List.map_congr_left
    intro l _
    exact M.mk_list l
  · intro p hp
    obtain ⟨x, hx, rfl⟩ := List.mem_map.1 hp
    obtain ⟨i, hi, rfl⟩ := List.mem_map.1 hx
    exact h i (List.mem_range.1 hi)
theorem pair_data (F T : Nat → ByteArray) (k : Nat) : (M.pairT F T k).data.toList = (F k).data.toList ++ 62 :: (T k).data.toList := by
  unfold M.pairT
  rw [M.bapp_data, M.bapp_data, List.append_assoc]
  rfl
theorem pair_len (F T : Nat → ByteArray) (k : Nat) : (M.pairT F T k).size = (F k).size + 1 + (T k).size := by
  unfold M.pairT
  rw [ByteArray.size_append, ByteArray.size_append]
  rfl
theorem pair_at {F T : Nat → ByteArray} {k : Nat} (h1 : (62 : UInt8) ∉ (F k).data.toList) : M.findB (M.pairT F T k) 62 = ((F k).size : Nat) := by
  have hz := pair_len F T k
  have hd := pair_data F T k
  have hl : (F k).data.toList.length = (F k).size := by rw [Array.length_toList]; rfl
  refine M.findB_at (by omega) ((M.bt_ne (by omega)).2 ?_) fun j hj e => ?_
  · rw [hd, List.getElem?_append_right (by omega), hl, Nat.sub_self]
    rfl
  · have := (M.bt_ne (s := M.pairT F T k) (c := 62) (by omega)).1 e
    rw [hd, List.getElem?_append_left (by omega)] at this
    exact h1 (List.mem_of_getElem? this)
theorem pair_back {F T : Nat → ByteArray} {k : Nat} (h1 : (62 : UInt8) ∉ (F k).data.toList) : M.cutL 62 (M.pairT F T k) = F k ∧ M.cutR 62 (M.pairT F T k) = T k := by
  have h := pair_at (T := T) h1
  have hz := pair_len F T k
  have hd := pair_data F T k
  have hl : (F k).data.toList.length = (F k).size := by rw [Array.length_toList]; rfl
  have hl2 : (T k).data.toList.length = (T k).size := by rw [Array.length_toList]; rfl
  unfold M.cutL M.cutR
  rw [if_neg (by omega), if_neg (by omega), h, Int.toNat_natCast]
  constructor
  · apply ByteArray.ext
    apply Array.toList_inj.1
    rw [Lib.extract_data, List.drop_zero, Nat.sub_zero, hd]
    exact List.take_left' hl
  · apply ByteArray.ext
    apply Array.toList_inj.1
    rw [Lib.extract_data, hd]
    have e : (F k).data.toList ++ 62 :: (T k).data.toList = ((F k).data.toList ++ [62]) ++ (T k).data.toList := by simp
    rw [e, List.drop_left' (by rw [List.length_append, hl]; rfl), List.take_of_length_le (by omega)]
theorem items_back {F T : Nat → ByteArray} {n : Nat} (h0 : n ≠ 0) (hp : M.Plain2 n F T) (h2 : ∀ i, i < n → 0 < (T i).size) : M.items (M.itemsOf (M.pairT F T) n) = (List.range n).map (M.pairT F T) := by
  have e : M.bparts 32 (M.gapsTo M.gap (M.pairT F T) n) = (List.range n).map (M.pairT F T) := gaps_parts 32 _ h0 fun i hi => pair_clean (hp i hi).1 (hp i hi).2.2
  unfold M.itemsOf M.items
  rw [if_neg h0]
  split
  · rename_i hd
    exfalso
    rw [hd] at e
    have e2 : M.bparts 32 ⟨#[45]⟩ = [⟨#[45]⟩] := rfl
    rw [e2] at e
    have e3 := congrArg (fun L => L[0]?) e
    have hn : 0 < n := by omega
    simp [hn] at e3
    have e4 := congrArg ByteArray.size e3
    rw [pair_len] at e4
    have := h2 0 hn
    have e5 : (⟨#[45]⟩ : ByteArray).size = 1 := rfl
    omega
  · exact e
theorem pr_back {F T : Nat → ByteArray} {n : Nat} (hp : M.Plain2 n F T) (h2 : ∀ i, i < n → 0 < (T i).size) :
    M.prN (M.itemsOf (M.pairT F T) n) = n ∧ ∀ i, i < n → M.prF (M.itemsOf (M.pairT F T) n) i = F i ∧ M.prT (M.itemsOf (M.pairT F T) n) i = T i := by
  by_cases h0 : n = 0
  · subst h0
    exact ⟨pr_dash, fun i hi => absurd hi (by omega)⟩
  · have e := items_back h0 hp h2
    refine ⟨by unfold M.prN; rw [e]; simp, fun i hi => ?_⟩
    unfold M.prF M.prT
    have hc : sC ((List.range n).map (M.pairT F T)) i = M.pairT F T i := by rw [sC_at (by simpa using hi)]; simp
    rw [e, hc]
    exact pair_back (hp i hi).2.1
end Go.Proofs.YtodnolefdapbdaaDoor
