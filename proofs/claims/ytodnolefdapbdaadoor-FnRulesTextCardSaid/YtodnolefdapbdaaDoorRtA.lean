/-
  What is read out of a text of pairs is what was written.
-/
import Derived.Test.YtodnolefdapbdaaDoorPair
import Derived.Test.YtodnolefdapbdaaDoorRulParse
import Derived.Test.YtodnolefdapbdaaDoorDrawRo
import Derived.Test.YtodnolefdapbdaaDoorDrawRm
import Derived.Test.YtodnolefdapbdaaDoorDrawH
import Derived.Deep.RegionWith
import Derived.Test.YtodnolefdapbdaaDoorRRow
namespace Go.Proofs.YtodnolefdapbdaaDoor
open Go.PlainAid (bt get_bt bt_nonneg bt_le)
set_option linter.unusedVariables false

/-- The pairs can be told apart: no gap in them, no sign > in the first of two. -/
def M.Plain2 (n : Nat) (F T : Nat → ByteArray) : Prop := ∀ i, i < n → (32 : UInt8) ∉ (F i).data.toList ∧ (62 : UInt8) ∉ (F i).data.toList ∧ (32 : UInt8) ∉ (T i).data.toList
theorem pair_clean {F T : Nat → ByteArray} {k : Nat} (h1 : (32 : UInt8) ∉ (F k).data.toList) (h2 : (32 : UInt8) ∉ (T k).data.toList) : (32 : UInt8) ∉ (M.pairT F T k).data.toList := fun hm => by
  unfold M.pairT at hm
  rw [M.bapp_data, M.bapp_data] at hm
  rcases List.mem_append.1 hm with hm | hm
  · rcases List.mem_append.1 hm with hm | hm
    · exact h1 hm
    · exact absurd hm (by decide)
  · exact h2 hm
theorem gaps_parts (c : UInt8) (S : Nat → ByteArray) {n : Nat} (h0 : n ≠ 0) (h : ∀ i, i < n → c ∉ (S i).data.toList) : M.bparts c (M.gapsTo ⟨#[c]⟩ S n) = (List.range n).map S := by
  unfold M.bparts
  rw [M.gapsTo_join]
  have hne : ((List.range n).map S).map (·.data.toList) ≠ [] := by
    intro e
    have := congrArg List.length e
    simp at this
    exact h0 this
  show (M.lparts c (Lib.join _ [c])).map _ = _
  rw [M.join_lparts c _ hne ?_]
  · rw [List.map_map]
    conv => rhs; rw [← List.map_id ((List.range n).map S)]
    apply List.map_congr_left
    intro l _
    exact M.mk_list l
  · intro p hp
    obtain ⟨x, hx, rfl⟩ := List.mem_map.1 hp
    obtain ⟨i, hi, rfl⟩ := List.mem_map.1 hx
    exact h i (List.mem_range.1 hi)
theorem pair_data (F T : Nat → ByteArray) (k : Nat) : (M.pairT F T k).data.toList = (F k).data.toList ++ 62 :: (T k).data.toList := by
  unfold M.pairT
  rw [M.bapp_data, M.bapp_data, List.append_assoc]
  rfl
theorem pair_len (F T : Nat → ByteArray) (k : Nat) : (M.pairT F T k).size = (F k).size + 1 + (T k).size := by
  unfold M.pairT
  rw [ByteArray.size_append, ByteArray.size_append]
  rfl
theorem pair_at {F T : Nat → ByteArray} {k : Nat} (h1 : (62 : UInt8) ∉ (F k).data.toList) : M.findB (M.pairT F T k) 62 = ((F k).size : Nat) := by
  have hz := pair_len F T k
  have hd := pair_data F T k
  have hl : (F k).data.toList.length = (F k).size := by rw [Array.length_toList]; rfl
  refine M.findB_at (by omega) ((M.bt_ne (by omega)).2 ?_) fun j hj e => ?_
  · rw [hd, List.getElem?_append_right (by omega), hl, Nat.sub_self]
    rfl
  · have := (M.bt_ne (s := M.pairT F T k) (c := 62) (by omega)).1 e
    rw [hd, List.getElem?_append_left (by omega)] at this
    exact h1 (List.mem_of_getElem? this)
theorem pair_back {F T : Nat → ByteArray} {k : Nat} (h1 : (62 : UInt8) ∉ (F k).data.toList) : M.cutL 62 (M.pairT F T k) = F k ∧ M.cutR 62 (M.pairT F T k) = T k := by
  have h := pair_at (T := T) h1
  have hz := pair_len F T k
  have hd := pair_data F T k
  have hl : (F k).data.toList.length = (F k).size := by rw [Array.length_toList]; rfl
  have hl2 : (T k).data.toList.length = (T k).size := by rw [Array.length_toList]; rfl
  unfold M.cutL M.cutR
  rw [if_neg (by omega), if_neg (by omega), h, Int.toNat_natCast]
  constructor
  · apply ByteArray.ext
    apply Array.toList_inj.1
    rw [Lib.extract_data, List.drop_zero, Nat.sub_zero, hd]
    exact List.take_left' hl
  · apply ByteArray.ext
    apply Array.toList_inj.1
    rw [Lib.extract_data, hd]
    have e : (F k).data.toList ++ 62 :: (T k).data.toList = ((F k).data.toList ++ [62]) ++ (T k).data.toList := by simp
    rw [e, List.drop_left' (by rw [List.length_append, hl]; rfl), List.take_of_length_le (by omega)]
theorem items_back {F T : Nat → ByteArray} {n : Nat} (h0 : n ≠ 0) (hp : M.Plain2 n F T) (h2 : ∀ i, i < n → 0 < (T i).size) : M.items (M.itemsOf (M.pairT F T) n) = (List.range n).map (M.pairT F T) := by
  have e : M.bparts 32 (M.gapsTo M.gap (M.pairT F T) n) = (List.range n).map (M.pairT F T) := gaps_parts 32 _ h0 fun i hi => pair_clean (hp i hi).1 (hp i hi).2.2
  unfold M.itemsOf M.items
  rw [if_neg h0]
  split
  · rename_i hd
    exfalso
    rw [hd] at e
    have e2 : M.bparts 32 ⟨#[45]⟩ = [⟨#[45]⟩] := rfl
    rw [e2] at e
    have e3 := congrArg (fun L => L[0]?) e
    have hn : 0 < n := by omega
    simp [hn] at e3
    have e4 := congrArg ByteArray.size e3
    rw [pair_len] at e4
    have := h2 0 hn
    have e5 : (⟨#[45]⟩ : ByteArray).size = 1 := rfl
    omega
  · exact e
theorem pr_back {F T : Nat → ByteArray} {n : Nat} (hp : M.Plain2 n F T) (h2 : ∀ i, i < n → 0 < (T i).size) :
    M.prN (M.itemsOf (M.pairT F T) n) = n ∧ ∀ i, i < n → M.prF (M.itemsOf (M.pairT F T) n) i = F i ∧ M.prT (M.itemsOf (M.pairT F T) n) i = T i := by
  by_cases h0 : n = 0
  · subst h0
    exact ⟨pr_dash, fun i hi => absurd hi (by omega)⟩
  · have e := items_back h0 hp h2
    refine ⟨by unfold M.prN; rw [e]; simp, fun i hi => ?_⟩
    unfold M.prF M.prT
    have hc : sC ((List.range n).map (M.pairT F T)) i = M.pairT F T i := by rw [sC_at (by simpa using hi)]; simp
    rw [e, hc]
    exact pair_back (hp i hi).2.1
end Go.Proofs.YtodnolefdapbdaaDoor

/-
  The text of rules tells the rules, and what is read out of a text that is accepted is written as that text.
-/
namespace Go.Proofs.YtodnolefdapbdaaDoor
open Go.RowKit
open Go.PlainAid (bt get_bt bt_nonneg bt_le)
set_option linter.unusedVariables false

theorem bt_clean {s : ByteArray} {c : UInt8} (h : ∀ j, j < s.size → bt s j ≠ (c.toNat : Int)) : c ∉ s.data.toList := fun hm => by
  obtain ⟨j, e⟩ := List.mem_iff_getElem?.1 hm
  have hj : j < s.size := by
    rcases Nat.lt_or_ge j s.size with h | h
    · exact h
    · rw [List.getElem?_eq_none (by rw [Array.length_toList]; exact h)] at e; cases e
  exact h j hj ((M.bt_ne hj).2 e)
theorem pfx_clean {s : ByteArray} (h : M.prefixOk s = true) : (32 : UInt8) ∉ s.data.toList ∧ (62 : UInt8) ∉ s.data.toList := by
  unfold M.prefixOk at h
  rw [Bool.and_eq_true] at h
  have hd := fun j hj => M.digs_bt h.1 j hj
  have e1 : (((32 : UInt8).toNat : Nat) : Int) = 32 := rfl
  have e2 : (((62 : UInt8).toNat : Nat) : Int) = 62 := rfl
  exact ⟨bt_clean fun j hj => by have := hd j hj; omega, bt_clean fun j hj => by have := hd j hj; omega⟩
theorem name_clean {s : ByteArray} (h : M.name s = true) : (32 : UInt8) ∉ s.data.toList := by
  have hl := (M.lowTo_iff s s.size).1 (M.name_yes h).1
  have e1 : (((32 : UInt8).toNat : Nat) : Int) = 32 := rfl
  exact bt_clean fun j hj => by have := hl j hj; omega
theorem rul_plain {n : Nat} {F T : Nat → ByteArray} (h : M.rul n F T = true) : M.Plain2 n F T ∧ ∀ i, i < n → 0 < (T i).size := by
  obtain ⟨_, hg⟩ := M.rul_yes h
  refine ⟨fun i hi => ?_, fun i hi => ?_⟩
  · obtain ⟨h1, h2, _⟩ := hg i hi
    exact ⟨(pfx_clean h1).1, (pfx_clean h1).2, name_clean h2⟩
  · have := (M.name_yes (hg i hi).2.1).2.1
    omega
theorem rul_same {n : Nat} {F T F' T' : Nat → ByteArray} (h : M.rul n F T = true) (he : ∀ i, i < n → F' i = F i ∧ T' i = T i) : M.rul n F' T' = true := by
  rw [M.rul_congr he]
  exact h
theorem rul_text_same {n : Nat} {F T F' T' : Nat → ByteArray} (h : M.rul n F T = true) (he : ∀ i, i < n → F' i = F i ∧ T' i = T i) : M.rulText n F' T' = M.rulText n F T := by
  unfold M.rulText
  rw [if_pos h, if_pos (rul_same h he)]
  unfold M.itemsOf
  split
  · rfl
  · exact M.gapsTo_congr fun i hi => by unfold M.pairT; rw [(he i hi).1, (he i hi).2]
/-- Rules of a row, and their text. -/
def RulOf (t : ByteArray) (L : List (ByteArray × ByteArray)) : Prop := M.rul L.length (nF L) (nT L) = true ∧ M.rulText L.length (nF L) (nT L) = t
theorem rul_back {t : ByteArray} {L : List (ByteArray × ByteArray)} (h : RulOf t L) : M.rulPOk t = true ∧ M.rulPL t = L := by
  obtain ⟨h1, h2⟩ := h
  obtain ⟨p1, p2⟩ := rul_plain h1
  obtain ⟨b1, b2⟩ := pr_back p1 p2
  have ht : M.itemsOf (M.pairT (nF L) (nT L)) L.length = t := by rw [← h2]; unfold M.rulText; rw [if_pos h1]
  rw [ht] at b1 b2
  have hok : M.rulPOk t = true := by unfold M.rulPOk; rw [b1]; exact rul_same h1 b2
  refine ⟨hok, ?_⟩
  unfold M.rulPL
  rw [if_pos hok, b1]
  conv => rhs; rw [← flst_nI L]
  unfold M.flst
  apply List.map_congr_left
  intro i hi
  rw [(b2 i (List.mem_range.1 hi)).1, (b2 i (List.mem_range.1 hi)).2]
theorem rul_read {t : ByteArray} (h : M.rulPOk t = true) : RulOf t (M.rulPL t) := by
  have e : M.rulPL t = M.flst (M.prF t) (M.prT t) (M.prN t) := by unfold M.rulPL; rw [if_pos h]
  have hl : (M.rulPL t).length = M.prN t := by rw [e, M.flst_length]
  have he : ∀ i, i < M.prN t → nF (M.rulPL t) i = M.prF t i ∧ nT (M.rulPL t) i = M.prT t i := fun i hi => by
    rw [nF_at (by omega), nT_at (by omega)]
    simp only [e, M.flst, List.getElem_map, List.getElem_range]
    exact ⟨trivial, trivial⟩
  have h1 : M.rul (M.prN t) (M.prF t) (M.prT t) = true := h
  refine ⟨by rw [hl]; exact rul_same h1 he, ?_⟩
  rw [hl, rul_text_same h1 he]
  unfold M.rulText
  rw [if_pos h1]
  by_cases hd : t = ⟨#[45]⟩
  · subst hd
    rw [pr_dash]
    rfl
  · refine pr_text hd fun i hi => ?_
    rcases Int.lt_or_le (M.findB (sC (M.items t) i) 62) 0 with h2 | h2
    · exfalso
      have h3 := pr_bare h2
      have h4 := (M.name_yes ((M.rul_yes h1).2 i hi).2.1).2.1
      rw [h3] at h4
      exact absurd h4 (by decide)
    · exact h2
theorem rul_text_size {n : Nat} {F T : Nat → ByteArray} (h : M.rul n F T = true) : 1 ≤ (M.rulText n F T).size ∧ (M.rulText n F T).size ≤ 1000 := by
  obtain ⟨h20, hz⟩ := rul_sizes h
  unfold M.rulText
  rw [if_pos h]
  unfold M.itemsOf
  by_cases h0 : n = 0
  · rw [if_pos h0]; exact ⟨by decide, by decide⟩
  · rw [if_neg h0]
    have h1 := M.gapsTo_size (g := M.gap) (T := M.pairT F T) (m := 17) (k := n) fun i hi => (M.pairT_size (hz i hi).1 (hz i hi).2).1
    have h2 := M.gapsTo_pos (g := M.gap) (T := M.pairT F T) (k := n) h0 (M.pairT_size (hz (n - 1) (by omega)).1 (hz (n - 1) (by omega)).2).2
    have h3 : M.gap.size = 1 := rfl
    rw [h3] at h1
    omega
end Go.Proofs.YtodnolefdapbdaaDoor

/-
  Drawn rules for texts, and drawn texts of rules.
-/
namespace Go.Proofs.YtodnolefdapbdaaDoor
open Go.RowKit
open Go.PlainAid (bt get_bt bt_nonneg bt_le)
set_option linter.unusedVariables false

theorem names_ok : ∀ x ∈ [(⟨#[97]⟩ : ByteArray), ⟨#[98]⟩, ⟨#[104, 101, 114, 101]⟩], M.name x = true := by decide
theorem IsRow.beyondR {k : IntKind} {w w' : World} {a : Option Addr} {l c : Nat} {z : List Int} (h : IsRow k w a l c z) (hb : Below w.heap.size w w') : IsRow k w' a l c z := by
  rcases h with h | ⟨x, hx, q1, q2, q3, q4, q5⟩
  · exact Or.inl h
  · exact Or.inr ⟨x, hx, q1, q2, q3, fun i hi => (hb.cell (p := x.add i) (World.block_lt_of_cell? _ _ (q4 i hi))).trans (q4 i hi), q5⟩
theorem text_fullR (s : ByteArray) (h : 0 < s.size) : ¬ s.toList = [] := by
  rw [ByteArray.toList_eq]
  intro e
  have h1 : s.data.toList.length = 0 := by rw [e]; rfl
  rw [Array.length_toList] at h1
  have h2 : s.data.size = s.size := rfl
  omega
def StrTwoR (w : World) (e : Ending) (w' : World) : Prop := ∃ s : ByteArray, e = .returned (.string s) ∧ s.size ≤ 2000 ∧ Below w.heap.size w w'
def LetR (w : World) (e : Ending) (w' : World) : Prop := ∃ (v : Value) (L : List (ByteArray × ByteArray)) (B : Nat), e = .returned v ∧ RRow w' B v L ∧ L.length ≤ 31 ∧ SmallR 30 L ∧ Below w.heap.size w w'
set_option maxHeartbeats 1000000 in
theorem DrawRulesValid_row (a : Option Addr) (l k : Nat) (z : List Int) (w : World) (h : IsRow .u8 w a l k z) :
    Calls Tryd.prog 35 #[.slice a l k] w (LetR w) := by
  go_enter Tryd.func35, Tryd.ntmps35
  go_wp2_with fail
  refine (open_any a l k z w h).mono ?_
  rintro e w1 ⟨r, rfl, rd1, b1, hwr⟩
  have hr1 := rd1.lt
  have B1 := Lib.hid b1
  have RD1 := Lib.hid rd1
  have hm := Lib.hid (show NmIs (w1.alloc (.cells #[.string ⟨#[97]⟩, .string ⟨#[98]⟩, .string ⟨#[104, 101, 114, 101]⟩] 9)) (.slice (some ⟨w1.heap.size, 0, none⟩) 3 3) r (w1.alloc (.cells #[.string ⟨#[97]⟩, .string ⟨#[98]⟩, .string ⟨#[104, 101, 114, 101]⟩] 9)).heap.size from
    ⟨w1.heap.size, 3, [⟨#[97]⟩, ⟨#[98]⟩, ⟨#[104, 101, 114, 101]⟩], rfl, by decide, by decide, by omega, by simp, by decide, cells_str [⟨#[97]⟩, ⟨#[98]⟩, ⟨#[104, 101, 114, 101]⟩] _ w1⟩)
  clear b1 rd1 h
  go_wp2_with fail
  refine (l6Rules_any _ _ r _ (RD1.out.below (below_alloc0 w1 _)) (by omega) hm.out).mono ?_
  rintro e w2 ⟨v, L, rfl, R2, l2, S2, sg2⟩
  have sg1 := (Sg.start RD1.out).alloc (.cells #[.string ⟨#[97]⟩, .string ⟨#[98]⟩, .string ⟨#[104, 101, 114, 101]⟩] 9)
  have SG2 := Lib.hid (sg1.trans sg2)
  have R2 := Lib.hid R2
  have S2 := Lib.hid S2
  clear sg1 sg2 hm
  go_wp2_with fail
  refine (l6BadRules_sg w1 _ r _ _ v L SG2.out (by omega) R2.out (by simp; omega) (by simp) (by omega) S2.out).mono ?_
  rintro e w3 ⟨v', L', rfl, R3, l3, S3, sg3⟩
  have R3 := Lib.hid R3
  have SG3 := Lib.hid sg3
  have S3 := Lib.hid S3
  clear SG2 R2 S2 sg3
  have BB := Lib.hid (B1.out.trans ((SG3.out.below_r hr1).mono hwr))
  go_wp2
  go_ret
  exact ⟨_, _, _, rfl, R3.out, l3, S3.out, BB.out⟩
set_option maxHeartbeats 1000000 in
theorem DrawFormatRules_row (a : Option Addr) (l k : Nat) (z : List Int) (w : World) (h : IsRow .u8 w a l k z) :
    Calls Tryd.prog 13 #[.slice a l k] w (LetR w) := by
  go_enter Tryd.func13, Tryd.ntmps13
  go_wp2_with fail
  refine (DrawRulesValid_row a l k z w h).mono ?_
  rintro e w1 ⟨v, L, B, rfl, r1, l1, s1, b1⟩
  go_wp2
  go_ret
  exact ⟨_, _, _, rfl, r1, l1, s1, b1⟩
set_option maxHeartbeats 4000000 in
set_option maxRecDepth 100000 in
theorem DrawParseRules_any (a : Option Addr) (l k : Nat) (z : List Int) (w : World) (h : IsRow .u8 w a l k z) :
    Calls Tryd.prog 19 #[.slice a l k] w (StrTwoR w) := by
  go_enter Tryd.func19, Tryd.ntmps19
  go_wp2_with fail
  refine (open_any a l k z w h).mono ?_
  rintro e w1 ⟨r, rfl, rd1, b1, hwr⟩
  have hr1 := rd1.lt
  have B1 := Lib.hid b1
  have RD1 := Lib.hid rd1
  have hm := Lib.hid (show NmX (w1.alloc (.cells #[.string ⟨#[97]⟩, .string ⟨#[98]⟩, .string ⟨#[104, 101, 114, 101]⟩] 9)) (.slice (some ⟨w1.heap.size, 0, none⟩) 3 3) r (w1.alloc (.cells #[.string ⟨#[97]⟩, .string ⟨#[98]⟩, .string ⟨#[104, 101, 114, 101]⟩] 9)).heap.size from
    ⟨w1.heap.size, 3, [⟨#[97]⟩, ⟨#[98]⟩, ⟨#[104, 101, 114, 101]⟩], rfl, by decide, by decide, by omega, by simp, names_ok, cells_str [⟨#[97]⟩, ⟨#[98]⟩, ⟨#[104, 101, 114, 101]⟩] _ w1⟩)
  clear b1 rd1 h
  go_wp2_with fail
  refine (l6Rules_ok _ _ r _ (RD1.out.below (below_alloc0 w1 _)) (by omega) hm.out).mono ?_
  rintro e w2 ⟨v1, L1, rfl, R1, l1, ok1, sg2⟩
  obtain ⟨a1, c1, rfl, _, lt1⟩ := R1.form
  have hb1 := ok1.rul (by omega)
  obtain ⟨t1, t2⟩ := rul_text_size hb1
  have HF := Lib.hid (show FFits L1.length (nF L1) (nT L1) from fun i hi => by
    have := (rul_sizes hb1).2 i hi
    exact ⟨by unfold maxLen; omega, by unfold maxLen; omega⟩)
  have LT := Lib.hid lt1
  have sg1 := (Sg.start RD1.out).alloc (.cells #[.string ⟨#[97]⟩, .string ⟨#[98]⟩, .string ⟨#[104, 101, 114, 101]⟩] 9)
  have SG2 := Lib.hid (sg1.trans sg2)
  clear R1 lt1 ok1 sg2 sg1 hb1 hm
  go_wp2_with fail
  refine (spec_FormatRules _ a1 L1.length c1 (nF L1) (nT L1) LT.out HF.out (by omega)).mono ?_
  generalize M.rulText L1.length (nF L1) (nT L1) = t at t1 t2
  rintro e w3 ⟨rfl, b3⟩
  have SG3 := Lib.hid (SG2.out.below b3)
  clear b3 SG2 LT HF
  go_wp2_with fail
  refine (pick_sg _ _ _ r _ SG3.out (by omega) (by omega) (by omega)).mono ?_
  rintro e w5 ⟨q, rfl, q0, q1, sg5⟩
  have SG5 := Lib.hid sg5
  clear sg5 SG3
  cases hv : (q == 0)
  · go_wp2_with fail
    refine (pick_sg _ _ _ r _ SG5.out (by omega) (by omega) (by omega)).mono ?_
    rintro e w7 ⟨x, rfl, x0, x1, sg7⟩
    have SG7 := Lib.hid sg7
    have hr := sg7.1.lt
    clear sg7 SG5
    obtain ⟨j, rfl⟩ := Int.eq_ofNat_of_zero_le x0
    have hjl : j < t.size := by omega
    have ht0 : ¬ (t.size : Int) = 0 := by omega
    have ht1 : ¬ t.size = 0 := by omega
    have q1 : (j : Int) ≤ (t.size : Int) := by omega
    go_wp2
    go_region_with (first | (go_at_call 32; refine (of_sg w1 [⟨#[]⟩, ⟨#[48]⟩, ⟨#[32]⟩, ⟨#[62]⟩, ⟨#[45]⟩, ⟨#[97]⟩] w7.heap.size _ r _ ((SG7.out.alloc _).drew) (by omega) (by decide) (by decide) (by omega) (cells_str [⟨#[]⟩, ⟨#[48]⟩, ⟨#[32]⟩, ⟨#[62]⟩, ⟨#[45]⟩, ⟨#[97]⟩] _ w7)).mono ?_; rintro e w8 ⟨s, rfl, hs, st7⟩; have hz1 := (show ∀ x ∈ [(⟨#[]⟩ : ByteArray), ⟨#[48]⟩, ⟨#[32]⟩, ⟨#[62]⟩, ⟨#[45]⟩, ⟨#[97]⟩], x.size ≤ 1 from by decide) s hs; clear hs) | (go_at_call 31; refine (pick_sg w1 _ _ r _ st7 (by omega) (by omega) (by omega)).mono ?_; rintro e w9 ⟨n, rfl, n0, n1, st8⟩; obtain ⟨n, rfl⟩ := Int.eq_ofNat_of_zero_le n0; have q3 : (0 : Int) ≤ (j : Int) + (n : Int) := (by omega); have q4 : (j : Int) + (n : Int) ≤ (t.size : Int) := (by omega); have sj : IntKind.i64.wrap ((j : Int) + (n : Int)) = (j : Int) + (n : Int) := IntWalk.i64_in _ (by omega); have tj : ((j : Int) + (n : Int)).toNat = j + n := (by omega)))
    all_goals
      go_wp2
      go_ret
      exact ⟨_, rfl, by simp only [ByteArray.size_append, ByteArray.size_extract]; omega, B1.out.trans ((st8.below_r hr1).mono hwr)⟩
  · go_wp2
    go_ret
    exact ⟨_, rfl, by omega, B1.out.trans ((SG5.out.below_r hr1).mono hwr)⟩
end Go.Proofs.YtodnolefdapbdaaDoor

/-
  Whether two lists of rules agree.
-/
namespace Go.Proofs.YtodnolefdapbdaaDoor
open Go.RowKit
open Go.PlainAid (bt get_bt bt_nonneg bt_le)
set_option linter.unusedVariables false

set_option maxHeartbeats 1000000 in
theorem soRules_same (w : World) (a a' : Option Addr) (n c c' : Nat) (F T : Nat → ByteArray) (h : Fws w a n F T) (h' : Fws w a' n F T) (hn : n ≤ 1048576) :
    Calls Tryd.prog 18 #[.slice a n c, .slice a' n c'] w fun e w' => e = .returned (.bool true) ∧ Below w.heap.size w w' := by
  have HL := Lib.hid h
  have HL' := Lib.hid h'
  clear h h'
  go_enter Tryd.func18, Tryd.ntmps18
  go_wp2
  go_loopw [5] (fun i wr => ∃ k : Nat, k ≤ n ∧ i = .int .i64 k ∧ Below w.heap.size w wr) (fun i _ => n - (intOf i).toNat)
  case atStart => exact ⟨0, Nat.zero_le _, rfl, Below.refl _ _⟩
  case round =>
    obtain ⟨k, hk, rfl, hb⟩ := hrel
    have hz := hb.size
    by_cases hlt : k < n
    · obtain ⟨b, o, rfl, c0, c1⟩ := (HL.out.on hb) k hlt
      obtain ⟨b', o', rfl, c0', c1'⟩ := (HL'.out.on hb) k hlt
      have hd : ((F k).toList == (F k).toList) = true := by simp
      have hd' : ((T k).toList == (T k).toList) = true := by simp
      go_wp2
      go_region
      all_goals
        go_wp2
        exact ⟨⟨k + 1, by omega, by go_num, by first | exact hb | exact hb.drew⟩, by simp [intOf]; omega⟩
    · obtain rfl : k = n := by omega
      go_wp2
      go_ret
      exact ⟨rfl, hb⟩
theorem soRules_row (w : World) (b1 b2 : Nat) (v v' : Value) (L : List (ByteArray × ByteArray)) (h : RRow w b1 v L) (h' : RRow w b2 v' L) (hn : L.length ≤ 1048576) :
    Calls Tryd.prog 18 #[v, v'] w fun e w' => e = .returned (.bool true) ∧ Below w.heap.size w w' := by
  obtain ⟨a, c, rfl, _, hl⟩ := h.form
  obtain ⟨a', c', rfl, _, hl'⟩ := h'.form
  exact soRules_same w a a' L.length c c' _ _ hl hl' hn
end Go.Proofs.YtodnolefdapbdaaDoor
