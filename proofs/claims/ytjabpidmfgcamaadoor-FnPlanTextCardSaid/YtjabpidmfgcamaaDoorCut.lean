/-
  Cutting strings: the model's l9Find and l9Cut, the program's splitItems, and strings.Cut at a sign.
-/
import Derived.Test.YtjabpidmfgcamaaDoorCutM
import Derived.Test.YtjabpidmfgcamaaDoorSCl
import Derived.Test.YtjabpidmfgcamaaDoorShelf
namespace Go.Proofs.YtjabpidmfgcamaaDoor
open Go.RowKit
open Go.PlainAid (bt get_bt bt_nonneg bt_le)
set_option linter.unusedVariables false

theorem ret_intc {a b : Int} (h : a = b) : Ending.returned (.int .i64 a) = .returned (.int .i64 b) := by rw [h]
/-- The library's variable that a search in strings reads holds a number. -/
def MaxL (w : World) : Prop := ∃ m : Int, w.cell? ⟨3, 0, none⟩ = some (.int .i64 m)
theorem MaxL.below {w w' : World} (h : MaxL w) (hb : Below w.heap.size w w') : MaxL w' := by
  obtain ⟨m, hm⟩ := h
  exact ⟨m, by rw [hb.cell (World.block_lt_of_cell? _ _ hm)]; exact hm⟩

theorem list_of_data {L : List ByteArray} {c : UInt8} {s : ByteArray} (h : L.map (·.data.toList) = M.lparts c s.data.toList) : L = M.bparts c s := by
  unfold M.bparts
  rw [← h, List.map_map]
  conv => lhs; rw [← List.map_id L]
  apply List.map_congr_left
  intro x _
  exact (M.mk_list x).symm

set_option maxHeartbeats 1000000 in
theorem spec_l9Cut (s : ByteArray) (c : UInt8) (cI : Int) (hc : cI = (c.toNat : Int)) (w : World) (hs : s.size ≤ 1048576) :
    Calls Tryd.prog 26 #[.string s, .int .u8 cI] w (SRowOut w (M.bparts c s)) := by
  have hbt := get_bt s
  have HC := Lib.hid hc
  have R0 := Lib.hid (sone_empty w)
  have hB := Lib.hid (below_alloc0 w (.cells #[] 9))
  clear hc
  go_enter Tryd.func26, Tryd.ntmps26
  go_wp2
  go_loopw [5, 6, 7] (fun q f i wr => ∃ (a k : Nat) (L : List ByteArray), k ≤ s.size + 1 ∧ a ≤ k ∧ L.length ≤ k ∧ f = .int .i64 a ∧ i = .int .i64 k ∧ Hid (SRow wr w.heap.size q L) ∧ Hid (∀ j, a ≤ j → j < k → bt s j ≠ cI) ∧ Hid ((k ≤ s.size ∧ L.map (·.data.toList) ++ M.lparts c (s.data.toList.drop a) = M.lparts c s.data.toList) ∨ (k = s.size + 1 ∧ L.map (·.data.toList) = M.lparts c s.data.toList)) ∧ Below w.heap.size w wr) (fun _ _ i _ => s.size + 1 - (intOf i).toNat)
  case atStart => exact ⟨0, 0, [], Nat.zero_le _, Nat.le_refl _, Nat.le_refl _, rfl, rfl, R0, fun j _ hj => absurd hj (by omega), Or.inl ⟨Nat.zero_le _, by rw [List.drop_zero]; rfl⟩, hB.out⟩
  case round =>
    obtain ⟨a, k, L, hk, hak, hLk, rfl, rfl, hrow, hno, hinv, hb⟩ := hrel
    have hz := hb.size
    by_cases hlt : k ≤ s.size
    · have hki : (k : Int) ≤ (s.size : Int) := by omega
      have INV : Hid (L.map (·.data.toList) ++ M.lparts c (s.data.toList.drop a) = M.lparts c s.data.toList) := by
        rcases hinv.out with h | h
        · exact h.2
        · omega
      have ha0 : (0 : Int) ≤ (a : Int) := by omega
      have hak2 : (a : Int) ≤ (k : Int) := by omega
      by_cases he : k = s.size
      · have h1 : ((k : Int) == (s.size : Int)) = true := by rw [beq_iff_eq]; omega
        have HE := Lib.hid he
        have hf : (L ++ [s.extract a k]).map (·.data.toList) = M.lparts c s.data.toList := by
          have hl := M.cut_last (c := c) (s := s) (a := a) (by omega) fun j h1 h2 e => hno.out j h1 (by omega) (e.trans HC.out.symm)
          rw [← INV.out, hl, List.map_append]
          simp [he]
        have HF := Lib.hid hf
        clear he hf
        go_wp2_with (at_builtin; refine wpList_append_string _ rfl _ _ rfl w.heap.size _ L rfl (hrow.out.alloc _) _ (s.extract a k) rfl ?_ (by omega) (by simp; omega) ?_)
        · intro v1 w3 r1 gr1 ho1
          have R1 : Hid (SRow w3 w.heap.size v1 (L ++ [s.extract a k])) := r1
          have B3 : Below w.heap.size w w3 := Below.grown (by go_grown) gr1 (by simp; omega) (fun q e => (hrow.out.lt q e).1)
          clear r1 gr1 ho1
          go_wp2
          go_roundw
          case rel => exact ⟨k + 1, k + 1, L ++ [s.extract a k], by omega, Nat.le_refl _, by simp; omega, by go_num, by go_num, R1, fun j h1 h2 => absurd h2 (by omega), Or.inr ⟨by have := HE.out; omega, HF.out⟩, B3⟩
          case measure => simp [intOf]; omega
      · have hk1 : k < s.size := by omega
        have h1 : ((k : Int) == (s.size : Int)) = false := by rw [beq_eq_false_iff_ne]; omega
        by_cases hcb : bt s k = cI
        · have hf : (L ++ [s.extract a k]).map (·.data.toList) ++ M.lparts c (s.data.toList.drop (k + 1)) = M.lparts c s.data.toList := by
            have hl := M.cut_round (c := c) (s := s) (a := a) hk1 hak (fun j h1 h2 e => hno.out j h1 h2 (e.trans HC.out.symm)) (hcb.trans HC.out)
            rw [← INV.out, hl, List.map_append]
            simp
          have HF := Lib.hid hf
          clear hf
          have hcb2 : (bt s k == cI) = true := by rw [beq_iff_eq]; exact hcb
          clear he
          go_wp2_with (at_builtin; refine wpList_append_string _ rfl _ _ rfl w.heap.size _ L rfl (hrow.out.alloc _) _ (s.extract a k) rfl ?_ (by omega) (by simp; omega) ?_)
          · intro v1 w3 r1 gr1 ho1
            have R1 : Hid (SRow w3 w.heap.size v1 (L ++ [s.extract a k])) := r1
            have B3 : Below w.heap.size w w3 := Below.grown (by go_grown) gr1 (by simp; omega) (fun q e => (hrow.out.lt q e).1)
            clear r1 gr1 ho1
            go_wp2
            go_roundw
            case rel => exact ⟨k + 1, k + 1, L ++ [s.extract a k], by omega, Nat.le_refl _, by simp; omega, by go_num, by go_num, R1, fun j h1 h2 => absurd h2 (by omega), Or.inl ⟨by omega, HF.out⟩, B3⟩
            case measure => simp [intOf]; omega
        · have HE := Lib.hid hcb
          have hcb2 : (bt s k == cI) = false := beq_eq_false_iff_ne.2 hcb
          clear he
          go_wp2
          go_roundw
          case rel => exact ⟨a, k + 1, L, by omega, by omega, by omega, rfl, by go_num, hrow, fun j h1 h2 => by by_cases e : j = k; (subst e; exact HE.out); exact hno.out j h1 (by omega), Or.inl ⟨by omega, INV.out⟩, hb⟩
          case measure => simp [intOf]; omega
    · have HL : Hid (L = M.bparts c s) := list_of_data (by
        rcases hinv.out with h | h
        · omega
        · exact h.2)
      have hk2 : ¬ (k : Int) ≤ (s.size : Int) := by omega
      go_wp2
      go_ret
      exact ⟨_, rfl, HL.out ▸ hrow.out, hb⟩

theorem parts_strs (w : World) (L : List ByteArray) : Strs (w.alloc (.cells (L.map Value.string).toArray 9)) (some ⟨w.heap.size, 0, none⟩) L.length (sC L) := fun i hi => by
  refine ⟨w.heap.size, 0, rfl, ?_⟩
  rw [sC_at hi, Nat.zero_add]
  simp [go_sem, hi]
theorem strings_split (c : UInt8) (s : ByteArray) (w : World) (hM : MaxL w) (hs : s.size ≤ 1048576) :
    Calls Tryd.prog 20 #[.string s, .string ⟨#[c]⟩] w fun e w' => ∃ a, e = .returned (.slice (some a) (M.bparts c s).length (M.bparts c s).length) ∧ Strs w' (some a) (M.bparts c s).length (sC (M.bparts c s)) ∧ Below w.heap.size w w' := by
  obtain ⟨m, hm⟩ := hM
  have h1 := M.split_lib c s.size s (Nat.le_refl _)
  have h2 := M.bparts_count c s.size s (Nat.le_refl _)
  refine (Tryd.strings_Split s ⟨#[c]⟩ m w (by omega) hm (Nat.le_refl 1)).mono ?_
  rintro e w' ⟨rfl, rfl⟩
  rw [h1, h2]
  exact ⟨_, rfl, parts_strs w _, below_alloc0 w _⟩
/-- The items of a text: none for a dash. -/
def M.items (t : ByteArray) : List ByteArray := if t = ⟨#[45]⟩ then [] else M.bparts 32 t
theorem items_len {t : ByteArray} : (M.items t).length ≤ t.size + 1 := by
  unfold M.items
  split
  · exact Nat.zero_le _
  · exact M.bparts_len 32 t
theorem items_fit {t : ByteArray} : ∀ i, i < (M.items t).length → (sC (M.items t) i).size ≤ t.size := by
  unfold M.items
  split
  · intro i hi; exact absurd hi (by simp)
  · intro i hi
    rw [sC_at hi]
    exact M.bparts_mem (List.getElem_mem hi)
theorem neq_txt {a b : ByteArray} (h : a ≠ b) : (a.toList == b.toList) = false := by
  rw [beq_eq_false_iff_ne]
  intro e
  rw [ByteArray.toList_eq, ByteArray.toList_eq] at e
  exact h (ByteArray.ext (Array.toList_inj.1 e))
theorem dash_no {s : ByteArray} (h : s ≠ ⟨#[45]⟩) : (s.toList == [45]) = false := by
  have e : (⟨#[45]⟩ : ByteArray).toList = [45] := by rw [ByteArray.toList_eq]
  rw [← e]
  exact neq_txt h
end Go.Proofs.YtjabpidmfgcamaaDoor
