/-
  What DigitBars and BarsDigit return, in the program and in the model of the document.
-/
import Derived.Test.YthpdcilffbffoaaDoorChecked
import Derived.Test.YthpdcilffbffoaaDoorDig
import Derived.Test.YthpdcilffbffoaaDoorTab
import Derived.WalkKit
import Derived.Below
import Derived.Outline
import Derived.Handy
import Derived.Lib.Hide
import Derived.Lib.Strings
namespace Go.Proofs.YthpdcilffbffoaaDoor
open Go.RowKit
open Go.PlainAid (bt get_bt bt_nonneg bt_le)

theorem ret_str {a b : ByteArray} (h : a = b) : Ending.returned (.string a) = .returned (.string b) := by rw [h]

set_option maxHeartbeats 400000 in
theorem impl_DigitBars_yes (d : Int) (w : World) (hL : Laid.bars w) (h0 : 0 ≤ d) (h9 : d ≤ 9) :
    Calls Tryd.prog 28 #[.int .i64 d] w fun e w' => e = .returned (.string (M.bar d)) ∧ w' = w := by
  have hc := hL.at h0 h9
  clear hL
  go_enter Tryd.func28, Tryd.ntmps28
  go_wp2
  go_ret
  exact ⟨rfl, rfl⟩

set_option maxHeartbeats 400000 in
theorem impl_DigitBars_no (d : Int) (w : World) (h : d < 0 ∨ 9 < d) :
    Calls Tryd.prog 28 #[.int .i64 d] w fun e w' => e = .returned (.string ⟨#[]⟩) ∧ w' = w := by
  rcases h with h | h
  · go_enter Tryd.func28, Tryd.ntmps28
    go_wp2
    go_ret
    exact ⟨rfl, rfl⟩
  · have h' : 0 ≤ d := by omega
    have hf : decide (d ≤ 9) = false := by simp; omega
    go_enter Tryd.func28, Tryd.ntmps28
    go_wp2
    go_ret
    exact ⟨rfl, rfl⟩

set_option maxHeartbeats 1000000 in
theorem spec_l1Bars (d : Int) (w : World) (h0 : 0 ≤ d) (h9 : d ≤ 9) :
    Calls Tryd.prog 32 #[.int .i64 d] w fun e w' => e = .returned (.string (M.bar d)) ∧ Below w.heap.size w w' := by
  rcases M.digit_cases h0 h9 with rfl | rfl | rfl | rfl | rfl | rfl | rfl | rfl | rfl | rfl
  all_goals
    go_enter Tryd.func32, Tryd.ntmps32
    go_wp2
    go_ret
    exact ⟨ret_str (by decide), (Below.refl _ _).alloc (Nat.le_refl _) _⟩



theorem bl (b : ByteArray) : b.toList = b.data.toList := Lib.toList_data b
theorem bd0 {b : ByteArray} (h : ([124, 124, 46, 46, 46] == b.toList) = true) : M.barDigit b = 0 := by
  have e := eq_of_beq h
  unfold M.barDigit
  rw [← bl, ← e]
  decide
theorem bd1 {b : ByteArray} (h : ([46, 46, 46, 124, 124] == b.toList) = true) : M.barDigit b = 1 := by
  have e := eq_of_beq h
  unfold M.barDigit
  rw [← bl, ← e]
  decide
theorem bd2 {b : ByteArray} (h : ([46, 46, 124, 46, 124] == b.toList) = true) : M.barDigit b = 2 := by
  have e := eq_of_beq h
  unfold M.barDigit
  rw [← bl, ← e]
  decide
theorem bd3 {b : ByteArray} (h : ([46, 46, 124, 124, 46] == b.toList) = true) : M.barDigit b = 3 := by
  have e := eq_of_beq h
  unfold M.barDigit
  rw [← bl, ← e]
  decide
theorem bd4 {b : ByteArray} (h : ([46, 124, 46, 46, 124] == b.toList) = true) : M.barDigit b = 4 := by
  have e := eq_of_beq h
  unfold M.barDigit
  rw [← bl, ← e]
  decide
theorem bd5 {b : ByteArray} (h : ([46, 124, 46, 124, 46] == b.toList) = true) : M.barDigit b = 5 := by
  have e := eq_of_beq h
  unfold M.barDigit
  rw [← bl, ← e]
  decide
theorem bd6 {b : ByteArray} (h : ([46, 124, 124, 46, 46] == b.toList) = true) : M.barDigit b = 6 := by
  have e := eq_of_beq h
  unfold M.barDigit
  rw [← bl, ← e]
  decide
theorem bd7 {b : ByteArray} (h : ([124, 46, 46, 46, 124] == b.toList) = true) : M.barDigit b = 7 := by
  have e := eq_of_beq h
  unfold M.barDigit
  rw [← bl, ← e]
  decide
theorem bd8 {b : ByteArray} (h : ([124, 46, 46, 124, 46] == b.toList) = true) : M.barDigit b = 8 := by
  have e := eq_of_beq h
  unfold M.barDigit
  rw [← bl, ← e]
  decide
theorem bd9 {b : ByteArray} (h : ([124, 46, 124, 46, 46] == b.toList) = true) : M.barDigit b = 9 := by
  have e := eq_of_beq h
  unfold M.barDigit
  rw [← bl, ← e]
  decide
theorem bdno {b : ByteArray} (h0 : ([124, 124, 46, 46, 46] == b.toList) = false) (h1 : ([46, 46, 46, 124, 124] == b.toList) = false) (h2 : ([46, 46, 124, 46, 124] == b.toList) = false) (h3 : ([46, 46, 124, 124, 46] == b.toList) = false) (h4 : ([46, 124, 46, 46, 124] == b.toList) = false) (h5 : ([46, 124, 46, 124, 46] == b.toList) = false) (h6 : ([46, 124, 124, 46, 46] == b.toList) = false) (h7 : ([124, 46, 46, 46, 124] == b.toList) = false) (h8 : ([124, 46, 46, 124, 46] == b.toList) = false) (h9 : ([124, 46, 124, 46, 46] == b.toList) = false) : M.barDigit b = -1 := by
  refine M.barDigit_no ?_
  rw [← bl]
  intro hm
  simp only [M.barTable, List.mem_cons, List.not_mem_nil, or_false] at hm
  rcases hm with e | e | e | e | e | e | e | e | e | e
  all_goals (rw [e] at h0 h1 h2 h3 h4 h5 h6 h7 h8 h9; revert h0 h1 h2 h3 h4 h5 h6 h7 h8 h9; decide)
theorem idx0 (w : World) : (Instr.index 45 (.agg #[.string ⟨#[124, 124, 46, 46, 46]⟩, .string ⟨#[46, 46, 46, 124, 124]⟩, .string ⟨#[46, 46, 124, 46, 124]⟩, .string ⟨#[46, 46, 124, 124, 46]⟩, .string ⟨#[46, 124, 46, 46, 124]⟩, .string ⟨#[46, 124, 46, 124, 46]⟩, .string ⟨#[46, 124, 124, 46, 46]⟩, .string ⟨#[124, 46, 46, 46, 124]⟩, .string ⟨#[124, 46, 46, 124, 46]⟩, .string ⟨#[124, 46, 124, 46, 46]⟩]) (.int .i64 0)).run Tryd.prog w = .ok (.string ⟨#[124, 124, 46, 46, 46]⟩) w := by kernel_rfl
theorem idx1 (w : World) : (Instr.index 45 (.agg #[.string ⟨#[124, 124, 46, 46, 46]⟩, .string ⟨#[46, 46, 46, 124, 124]⟩, .string ⟨#[46, 46, 124, 46, 124]⟩, .string ⟨#[46, 46, 124, 124, 46]⟩, .string ⟨#[46, 124, 46, 46, 124]⟩, .string ⟨#[46, 124, 46, 124, 46]⟩, .string ⟨#[46, 124, 124, 46, 46]⟩, .string ⟨#[124, 46, 46, 46, 124]⟩, .string ⟨#[124, 46, 46, 124, 46]⟩, .string ⟨#[124, 46, 124, 46, 46]⟩]) (.int .i64 1)).run Tryd.prog w = .ok (.string ⟨#[46, 46, 46, 124, 124]⟩) w := by kernel_rfl
theorem idx2 (w : World) : (Instr.index 45 (.agg #[.string ⟨#[124, 124, 46, 46, 46]⟩, .string ⟨#[46, 46, 46, 124, 124]⟩, .string ⟨#[46, 46, 124, 46, 124]⟩, .string ⟨#[46, 46, 124, 124, 46]⟩, .string ⟨#[46, 124, 46, 46, 124]⟩, .string ⟨#[46, 124, 46, 124, 46]⟩, .string ⟨#[46, 124, 124, 46, 46]⟩, .string ⟨#[124, 46, 46, 46, 124]⟩, .string ⟨#[124, 46, 46, 124, 46]⟩, .string ⟨#[124, 46, 124, 46, 46]⟩]) (.int .i64 2)).run Tryd.prog w = .ok (.string ⟨#[46, 46, 124, 46, 124]⟩) w := by kernel_rfl
theorem idx3 (w : World) : (Instr.index 45 (.agg #[.string ⟨#[124, 124, 46, 46, 46]⟩, .string ⟨#[46, 46, 46, 124, 124]⟩, .string ⟨#[46, 46, 124, 46, 124]⟩, .string ⟨#[46, 46, 124, 124, 46]⟩, .string ⟨#[46, 124, 46, 46, 124]⟩, .string ⟨#[46, 124, 46, 124, 46]⟩, .string ⟨#[46, 124, 124, 46, 46]⟩, .string ⟨#[124, 46, 46, 46, 124]⟩, .string ⟨#[124, 46, 46, 124, 46]⟩, .string ⟨#[124, 46, 124, 46, 46]⟩]) (.int .i64 3)).run Tryd.prog w = .ok (.string ⟨#[46, 46, 124, 124, 46]⟩) w := by kernel_rfl
theorem idx4 (w : World) : (Instr.index 45 (.agg #[.string ⟨#[124, 124, 46, 46, 46]⟩, .string ⟨#[46, 46, 46, 124, 124]⟩, .string ⟨#[46, 46, 124, 46, 124]⟩, .string ⟨#[46, 46, 124, 124, 46]⟩, .string ⟨#[46, 124, 46, 46, 124]⟩, .string ⟨#[46, 124, 46, 124, 46]⟩, .string ⟨#[46, 124, 124, 46, 46]⟩, .string ⟨#[124, 46, 46, 46, 124]⟩, .string ⟨#[124, 46, 46, 124, 46]⟩, .string ⟨#[124, 46, 124, 46, 46]⟩]) (.int .i64 4)).run Tryd.prog w = .ok (.string ⟨#[46, 124, 46, 46, 124]⟩) w := by kernel_rfl
theorem idx5 (w : World) : (Instr.index 45 (.agg #[.string ⟨#[124, 124, 46, 46, 46]⟩, .string ⟨#[46, 46, 46, 124, 124]⟩, .string ⟨#[46, 46, 124, 46, 124]⟩, .string ⟨#[46, 46, 124, 124, 46]⟩, .string ⟨#[46, 124, 46, 46, 124]⟩, .string ⟨#[46, 124, 46, 124, 46]⟩, .string ⟨#[46, 124, 124, 46, 46]⟩, .string ⟨#[124, 46, 46, 46, 124]⟩, .string ⟨#[124, 46, 46, 124, 46]⟩, .string ⟨#[124, 46, 124, 46, 46]⟩]) (.int .i64 5)).run Tryd.prog w = .ok (.string ⟨#[46, 124, 46, 124, 46]⟩) w := by kernel_rfl
theorem idx6 (w : World) : (Instr.index 45 (.agg #[.string ⟨#[124, 124, 46, 46, 46]⟩, .string ⟨#[46, 46, 46, 124, 124]⟩, .string ⟨#[46, 46, 124, 46, 124]⟩, .string ⟨#[46, 46, 124, 124, 46]⟩, .string ⟨#[46, 124, 46, 46, 124]⟩, .string ⟨#[46, 124, 46, 124, 46]⟩, .string ⟨#[46, 124, 124, 46, 46]⟩, .string ⟨#[124, 46, 46, 46, 124]⟩, .string ⟨#[124, 46, 46, 124, 46]⟩, .string ⟨#[124, 46, 124, 46, 46]⟩]) (.int .i64 6)).run Tryd.prog w = .ok (.string ⟨#[46, 124, 124, 46, 46]⟩) w := by kernel_rfl
theorem idx7 (w : World) : (Instr.index 45 (.agg #[.string ⟨#[124, 124, 46, 46, 46]⟩, .string ⟨#[46, 46, 46, 124, 124]⟩, .string ⟨#[46, 46, 124, 46, 124]⟩, .string ⟨#[46, 46, 124, 124, 46]⟩, .string ⟨#[46, 124, 46, 46, 124]⟩, .string ⟨#[46, 124, 46, 124, 46]⟩, .string ⟨#[46, 124, 124, 46, 46]⟩, .string ⟨#[124, 46, 46, 46, 124]⟩, .string ⟨#[124, 46, 46, 124, 46]⟩, .string ⟨#[124, 46, 124, 46, 46]⟩]) (.int .i64 7)).run Tryd.prog w = .ok (.string ⟨#[124, 46, 46, 46, 124]⟩) w := by kernel_rfl
theorem idx8 (w : World) : (Instr.index 45 (.agg #[.string ⟨#[124, 124, 46, 46, 46]⟩, .string ⟨#[46, 46, 46, 124, 124]⟩, .string ⟨#[46, 46, 124, 46, 124]⟩, .string ⟨#[46, 46, 124, 124, 46]⟩, .string ⟨#[46, 124, 46, 46, 124]⟩, .string ⟨#[46, 124, 46, 124, 46]⟩, .string ⟨#[46, 124, 124, 46, 46]⟩, .string ⟨#[124, 46, 46, 46, 124]⟩, .string ⟨#[124, 46, 46, 124, 46]⟩, .string ⟨#[124, 46, 124, 46, 46]⟩]) (.int .i64 8)).run Tryd.prog w = .ok (.string ⟨#[124, 46, 46, 124, 46]⟩) w := by kernel_rfl
theorem idx9 (w : World) : (Instr.index 45 (.agg #[.string ⟨#[124, 124, 46, 46, 46]⟩, .string ⟨#[46, 46, 46, 124, 124]⟩, .string ⟨#[46, 46, 124, 46, 124]⟩, .string ⟨#[46, 46, 124, 124, 46]⟩, .string ⟨#[46, 124, 46, 46, 124]⟩, .string ⟨#[46, 124, 46, 124, 46]⟩, .string ⟨#[46, 124, 124, 46, 46]⟩, .string ⟨#[124, 46, 46, 46, 124]⟩, .string ⟨#[124, 46, 46, 124, 46]⟩, .string ⟨#[124, 46, 124, 46, 46]⟩]) (.int .i64 9)).run Tryd.prog w = .ok (.string ⟨#[124, 46, 124, 46, 46]⟩) w := by kernel_rfl

set_option maxHeartbeats 2000000 in
theorem impl_BarsDigit (b : ByteArray) (w : World) (hL : Laid.bars w) :
    Calls Tryd.prog 26 #[.string b] w fun e w' => e = .returned (.int .i64 (M.barDigit b)) ∧ w' = w := by
  have c0 := hL 0 (by decide)
  have c1 := hL 1 (by decide)
  have c2 := hL 2 (by decide)
  have c3 := hL 3 (by decide)
  have c4 := hL 4 (by decide)
  have c5 := hL 5 (by decide)
  have c6 := hL 6 (by decide)
  have c7 := hL 7 (by decide)
  have c8 := hL 8 (by decide)
  have c9 := hL 9 (by decide)
  clear hL
  simp [M.barTable] at c0 c1 c2 c3 c4 c5 c6 c7 c8 c9
  have x0 := idx0
  have x1 := idx1
  have x2 := idx2
  have x3 := idx3
  have x4 := idx4
  have x5 := idx5
  have x6 := idx6
  have x7 := idx7
  have x8 := idx8
  have x9 := idx9
  go_enter Tryd.func26, Tryd.ntmps26
  go_wp2
  go_rounds 11
  all_goals
    go_ret
    exact ⟨ret_int (by first | exact (bd0 ‹_›).symm | exact (bd1 ‹_›).symm | exact (bd2 ‹_›).symm | exact (bd3 ‹_›).symm | exact (bd4 ‹_›).symm | exact (bd5 ‹_›).symm | exact (bd6 ‹_›).symm | exact (bd7 ‹_›).symm | exact (bd8 ‹_›).symm | exact (bd9 ‹_›).symm | exact (bdno ‹_› ‹_› ‹_› ‹_› ‹_› ‹_› ‹_› ‹_› ‹_› ‹_›).symm), rfl⟩

theorem bar_eq {b : ByteArray} {k : Nat} (h : ((M.bar k).toList == b.toList) = true) : b = M.bar k := by
  have e := eq_of_beq h
  rw [bl, bl] at e
  exact ByteArray.ext (Array.toList_inj.1 e).symm
theorem bar_ne {b : ByteArray} {k : Nat} (h : ((M.bar k).toList == b.toList) = false) : b ≠ M.bar k := by
  intro e
  rw [e] at h
  simp at h
theorem bars_none {b : ByteArray} (h : ∀ j : Nat, j < 10 → b ≠ M.bar j) : M.barDigit b = -1 := by
  rcases M.bar_cases b with ⟨d, hd, e⟩ | hn
  · exact absurd e (h d hd)
  · exact M.barDigit_no hn

set_option maxHeartbeats 400000 in
theorem spec_BarsDigit (b : ByteArray) (w : World) :
    Calls Tryd.prog 44 #[.string b] w fun e w' => e = .returned (.int .i64 (M.barDigit b)) ∧ Below w.heap.size w w' := by
  go_enter Tryd.func44, Tryd.ntmps44
  go_wp2
  go_loopw [3] (fun d wr => ∃ k : Nat, k ≤ 10 ∧ d = .int .i64 k ∧ Hid (∀ j : Nat, j < k → b ≠ M.bar j) ∧ Below w.heap.size w wr) (fun d _ => 10 - (intOf d).toNat)
  case atStart => exact ⟨0, by omega, rfl, fun j h => absurd h (by omega), Below.refl _ _⟩
  case round =>
    obtain ⟨k, hk, rfl, hno, hb⟩ := hrel
    have hsz := hb.size
    by_cases hlt : k ≤ 9
    · have hd : decide ((k : Int) ≤ 9) = true := by simp; omega
      cases ht : ((M.bar k).toList == b.toList)
      · have hno' := Lib.hid (show ∀ j : Nat, j < k + 1 → b ≠ M.bar j from fun j hj => by
          by_cases e : j = k
          · subst e; exact bar_ne ht
          · exact hno.out j (by omega))
        go_wp2_with (go_at_call 32; refine (spec_l1Bars _ _ (by omega) (by omega)).mono ?_; rintro e w1 ⟨rfl, hb1⟩)
        go_roundw
        case rel => exact ⟨k + 1, by omega, by go_num, hno', hb.trans (hb1.mono hsz)⟩
        case measure => simp [intOf]; omega
      · have hv := Lib.hid (show M.barDigit b = k by rw [bar_eq ht]; exact M.bar_digit (by omega) (by omega))
        go_wp2_with (go_at_call 32; refine (spec_l1Bars _ _ (by omega) (by omega)).mono ?_; rintro e w1 ⟨rfl, hb1⟩)
        go_ret
        exact ⟨ret_int hv.out.symm, hb.trans (hb1.mono hsz)⟩
    · have hd : decide ((k : Int) ≤ 9) = false := by simp; omega
      obtain rfl : k = 10 := by omega
      have hv := Lib.hid (bars_none hno.out)
      go_wp2
      go_ret
      exact ⟨ret_int hv.out.symm, hb⟩
end Go.Proofs.YthpdcilffbffoaaDoor
