/-
  What BarsOf returns, in the program and in the model of the document.
-/
import Derived.Test.YthpdcilffbffoaaDoorBars
import Derived.Test.YthpdcilffbffoaaDoorCheck
import Derived.WalkKit
import Derived.Below
import Derived.Handy
import Derived.Lib.Hide
namespace Go.Proofs.YthpdcilffbffoaaDoor
open Go.RowKit
open Go.PlainAid (bt get_bt bt_nonneg bt_le)

theorem ret_str_ok {a b : ByteArray} {c : Bool} (h : a = b) : Ending.returned (.tuple #[.string a, .bool c]) = .returned (.tuple #[.string b, .bool c]) := by rw [h]

set_option maxHeartbeats 400000 in
theorem spec_BarsOf_no (s : ByteArray) (w : World) (hs : s.size ≤ maxLen) (hc : M.code s = false) :
    Calls Tryd.prog 13 #[.string s] w fun e w' => e = .returned (.tuple #[.string ⟨#[]⟩, .bool false]) ∧ w = w' := by
  go_enter Tryd.func13, Tryd.ntmps13
  go_wp2_with (go_at_call 31; refine (spec_CodeValid _ _ hs).mono ?_; rw [hc]; rintro e w' ⟨rfl, rfl⟩)
  go_ret2
  exact ⟨rfl, rfl⟩

set_option maxHeartbeats 400000 in
theorem impl_BarsOf_no (s : ByteArray) (w : World) (hs : s.size ≤ maxLen) (hc : M.code s = false) :
    Calls Tryd.prog 12 #[.string s] w fun e w' => e = .returned (.tuple #[.string ⟨#[]⟩, .bool false]) ∧ Below w.heap.size w w' := by
  go_enter Tryd.func12, Tryd.ntmps12
  go_wp2_with (go_at_call 14; refine (impl_CodeValid _ _ hs).mono ?_; rw [hc]; rintro e w' ⟨rfl, hb⟩)
  go_ret2
  exact ⟨rfl, hb.below⟩

set_option maxHeartbeats 1000000 in
theorem spec_BarsOf_yes (s : ByteArray) (w : World) (hc : M.code s = true) :
    Calls Tryd.prog 13 #[.string s] w fun e w' => e = .returned (.tuple #[.string (M.barsOf s), .bool true]) ∧ Below w.heap.size w w' := by
  obtain ⟨hdg, h7⟩ := M.code_yes hc
  have HD := Lib.hid (M.digs_bt hdg)
  have hbt := get_bt s
  have hs : s.size ≤ maxLen := by unfold maxLen; omega
  have hs7 : s.size ≤ 7 := by omega
  have H7 := Lib.hid h7
  clear h7
  have hf := Lib.hid (show M.barsOf s = M.barsTo s 7 ++ M.bar (M.checkDigit s) ++ ⟨#[124]⟩ from rfl)
  go_enter Tryd.func13, Tryd.ntmps13
  go_wp2_with (go_at_call 31; refine (spec_CodeValid _ _ hs).mono ?_; rw [hc]; rintro e w' ⟨rfl, rfl⟩)
  go_loopw [4, 5] (fun o i wr => ∃ k : Nat, k ≤ s.size ∧ i = .int .i64 k ∧ o = .string (M.barsTo s k) ∧ Below w.heap.size w wr) (fun _ i _ => s.size - (intOf i).toNat)
  case atStart => exact ⟨0, Nat.zero_le _, rfl, rfl, Below.refl _ _⟩
  case round =>
    obtain ⟨k, hk, rfl, rfl, hb⟩ := hrel
    have hsz := hb.size
    have hB := M.size_le (M.barsTo_size HD.out k hk)
    by_cases hlt : k < s.size
    · obtain ⟨b0, b1⟩ := HD.out k hlt
      have hX := M.size_le (M.bar_size (d := bt s k - 48) (by omega) (by omega))
      have hS := Lib.hid (M.barsTo_succ s k)
      go_wp2_with (go_at_call 32; refine (spec_l1Bars _ _ (by omega) (by omega)).mono ?_; rintro e w1 ⟨rfl, hb1⟩)
      go_roundw
      case rel => exact ⟨k + 1, by omega, by go_num, by rw [hS.out], hb.trans (hb1.mono hsz)⟩
      case measure => simp [intOf]; omega
    · obtain rfl : k = s.size := by omega
      obtain ⟨c0, c1⟩ := M.checkDigit_bd hdg
      have hX := M.size_le (M.bar_size c0 c1)
      go_wp2_with (first | (go_at_call 33; refine (spec_CheckDigit _ _ hs).mono ?_; rintro e w' ⟨rfl, rfl⟩) | (go_at_call 32; refine (spec_l1Bars _ _ c0 c1).mono ?_; rintro e w1 ⟨rfl, hb1⟩))
      go_ret2
      exact ⟨ret_str_ok (by rw [hf.out, H7.out]), hb.trans (hb1.mono hsz)⟩

set_option maxHeartbeats 1000000 in
theorem impl_BarsOf_yes (s : ByteArray) (w : World) (hL : Laid.both w) (hc : M.code s = true) :
    Calls Tryd.prog 12 #[.string s] w fun e w' => e = .returned (.tuple #[.string (M.barsOf s), .bool true]) ∧ Below w.heap.size w w' := by
  obtain ⟨hdg, h7⟩ := M.code_yes hc
  have HD := Lib.hid (M.digs_bt hdg)
  have hbt := get_bt s
  have hs : s.size ≤ maxLen := by unfold maxLen; omega
  have hs7 : s.size ≤ 7 := by omega
  have H7 := Lib.hid h7
  clear h7
  have hf := Lib.hid (show M.barsOf s = M.barsTo s 7 ++ M.bar (M.checkDigit s) ++ ⟨#[124]⟩ from rfl)
  go_enter Tryd.func12, Tryd.ntmps12
  go_wp2_with (go_at_call 14; refine (impl_CodeValid _ _ hs).mono ?_; rw [hc]; rintro e w1 ⟨rfl, hb⟩)
  have hb1 := hb.below
  have hL1 := hL.below hb1
  clear hb hc
  go_loopw [4, 6] (fun o _ wr => ∃ k : Nat, wr = w1.iter s k ∧ k ≤ s.size ∧ o = .string (M.barsTo s k)) (fun _ _ wr => s.size - wr.iterPos w1.heap.size)
  case atStart => exact ⟨0, rfl, Nat.zero_le _, rfl⟩
  case round =>
    obtain ⟨k, rfl, hk, rfl⟩ := hrel
    have hB := M.size_le (M.barsTo_size HD.out k hk)
    by_cases hlt : k < s.size
    · obtain ⟨b0, b1⟩ := HD.out k hlt
      have hX := M.size_le (M.bar_size (d := bt s k - 48) (by omega) (by omega))
      have hS := Lib.hid (M.barsTo_succ s k)
      have ha : (s[k]'hlt).toNat < 128 := by have := hbt k hlt; omega
      have hnx : ∀ ty, (Instr.next (.pointer (some ⟨w1.heap.size, 0, none⟩)) true ty).run Tryd.prog (w1.iter s k) = _ := fun ty => run_next_ascii w1 s k ty hlt ha
      rw [hbt k hlt] at hnx
      clear ha
      have hL2 := (hL1.below (below_iter s (k + 1) w1)).2
      go_wp2_with (first | (go_at_call 28; refine (impl_DigitBars_yes _ _ hL2 (by omega) (by omega)).mono ?_; rintro e w2 ⟨rfl, rfl⟩) | go_in)
      go_roundw
      case rel => exact ⟨k + 1, rfl, by omega, by rw [hS.out]⟩
      case measure => simp; omega
    · obtain rfl : k = s.size := by omega
      have hnx : ∀ ty, (Instr.next (.pointer (some ⟨w1.heap.size, 0, none⟩)) true ty).run Tryd.prog (w1.iter s s.size) = _ := fun ty => run_next_end w1 s s.size ty (by omega)
      obtain ⟨c0, c1⟩ := M.checkDigit_bd hdg
      have hX := M.size_le (M.bar_size c0 c1)
      have hL2 := hL1.below (below_iter s s.size w1)
      go_wp2_with (first | (go_at_call 30; refine (impl_CheckDigit _ _ hs hL2.1).mono ?_; rintro e w3 ⟨rfl, hb3⟩) | (go_at_call 28; refine (impl_DigitBars_yes _ _ (hL2.2.below hb3) c0 c1).mono ?_; rintro e w4 ⟨rfl, rfl⟩))
      go_ret2
      exact ⟨ret_str_ok (by rw [hf.out, H7.out]), hb1.trans (((below_iter s s.size w1).mono hb1.size).trans (hb3.mono (by have := hb1.size; simp [World.iter]; omega)))⟩
end Go.Proofs.YthpdcilffbffoaaDoor
