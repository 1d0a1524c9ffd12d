/-
  What CheckDigit and CheckValid return, in the program and in the model of the document.
-/
import Derived.Test.YtagbnfccagdlkaaDoorChecked
import Derived.Test.YtagbnfccagdlkaaDoorDig
import Derived.Test.YtagbnfccagdlkaaDoorTab
import Derived.WalkKit
import Derived.Below
import Derived.Handy
import Derived.Lib.Hide
namespace Go.Proofs.YtagbnfccagdlkaaDoor
open Go.RowKit
open Go.PlainAid (bt get_bt bt_nonneg bt_le)

set_option maxHeartbeats 400000 in
theorem spec_l1Sum (s : ByteArray) (w : World) (hg : M.digs s = true) :
    Calls Tryd.prog 17 #[.string s] w fun e w' => e = .returned (.int .i64 (M.sum s)) ∧ w = w' := by
  have hbt := get_bt s
  have HD := Lib.hid (M.digs_bt hg)
  have hl := M.digs_len hg
  have hf := Lib.hid (show M.sum s = M.sumTo s s.size from rfl)
  clear hg
  go_enter Tryd.func17, Tryd.ntmps17
  go_wp2
  go_loop [3, 4] (fun n i => ∃ k : Nat, k ≤ s.size ∧ i = .int .i64 k ∧ n = .int .i64 (M.sumTo s k)) (fun _ i => s.size - (intOf i).toNat)
  case atStart => exact ⟨0, Nat.zero_le _, rfl, rfl⟩
  case round =>
    obtain ⟨k, hk, rfl, rfl⟩ := hrel
    obtain ⟨n0, n1⟩ := M.sumTo_lt HD.out hl k hk
    by_cases hlt : k < s.size
    · have hs := Lib.hid (M.sumTo_succ s k)
      obtain ⟨b0, b1⟩ := HD.out k hlt
      go_wp2
      go_round
      case rel => exact ⟨k + 1, by omega, by go_num, by rw [hs.out]⟩
      case measure => simp [intOf]; omega
    · obtain rfl : k = s.size := by omega
      go_wp2
      go_ret
      exact ⟨ret_int hf.out.symm, rfl⟩

set_option maxHeartbeats 400000 in
theorem spec_CheckDigit (s : ByteArray) (w : World) (hs : s.size ≤ maxLen) :
    Calls Tryd.prog 13 #[.string s] w fun e w' => e = .returned (.int .i64 (M.checkDigit s)) ∧ w = w' := by
  cases hd : M.digs s
  · have hv := Lib.hid (M.checkDigit_no hd)
    go_enter Tryd.func13, Tryd.ntmps13
    go_wp2_with (go_at_call 16; refine (spec_DigitsValid _ _ hs).mono ?_; rw [hd]; rintro e w' ⟨rfl, rfl⟩)
    go_ret
    exact ⟨ret_int hv.out.symm, rfl⟩
  · have hv := Lib.hid (M.checkDigit_yes hd)
    obtain ⟨n0, n1⟩ := M.sum_bd hd
    go_enter Tryd.func13, Tryd.ntmps13
    go_wp2_with (first | (go_at_call 16; refine (spec_DigitsValid _ _ hs).mono ?_; rw [hd]; rintro e w' ⟨rfl, rfl⟩) | (go_at_call 17; refine (spec_l1Sum _ _ hd).mono ?_; rintro e w' ⟨rfl, rfl⟩))
    go_ret
    exact ⟨ret_int (by rw [hv.out]), rfl⟩

set_option maxHeartbeats 400000 in
theorem impl_completing (n : Int) (w : World) (hL : Laid.checks w) (n0 : 0 ≤ n) (n1 : n ≤ 180) :
    Calls Tryd.prog 19 #[.int .i64 n] w fun e w' => e = .returned (.int .i64 ((10 - n % 10) % 10)) ∧ w = w' := by
  have hc := hL.at (d := n % 10) (by omega) (by omega)
  have he : (10 - n % 10 % 10) % 10 = (10 - n % 10) % 10 := by omega
  rw [show ((10 : Int) - n % 10) % 10 = (10 - n % 10 % 10) % 10 from by omega]
  have m0 : 0 ≤ n % 10 := by omega
  have m1 : n % 10 < 10 := by omega
  clear hL he
  go_enter Tryd.func19, Tryd.ntmps19
  go_wp2
  go_ret
  exact ⟨ret_int (by omega), rfl⟩

set_option maxHeartbeats 400000 in
theorem impl_CheckDigit (s : ByteArray) (w : World) (hs : s.size ≤ maxLen) (hL : Laid.checks w) :
    Calls Tryd.prog 9 #[.string s] w fun e w' => e = .returned (.int .i64 (M.checkDigit s)) ∧ Below w.heap.size w w' := by
  cases hd : M.digs s
  · have hv := Lib.hid (M.checkDigit_no hd)
    go_enter Tryd.func9, Tryd.ntmps9
    go_wp2_with (go_at_call 7; refine (impl_DigitsValid _ _ hs).mono ?_; rw [hd]; rintro e w' ⟨rfl, hb⟩)
    go_ret
    exact ⟨ret_int hv.out.symm, hb.below⟩
  · have hv := Lib.hid (M.checkDigit_yes hd)
    have hf := Lib.hid (show M.sum s = M.sumTo s s.size from rfl)
    have HD := Lib.hid (M.digs_bt hd)
    have hl := M.digs_len hd
    have hbt := get_bt s
    go_enter Tryd.func9, Tryd.ntmps9
    go_wp2_with (go_at_call 7; refine (impl_DigitsValid _ _ hs).mono ?_; rw [hd]; rintro e w1 ⟨rfl, hb⟩)
    have hb1 := hb.below
    have hL1 := hL.below hb1
    clear hb hd
    go_loopw [3, 5] (fun n _ wr => ∃ k : Nat, wr = w1.iter s k ∧ k ≤ s.size ∧ n = .int .i64 (M.sumTo s k)) (fun _ _ wr => s.size - wr.iterPos w1.heap.size)
    case atStart => exact ⟨0, rfl, Nat.zero_le _, rfl⟩
    case round =>
      obtain ⟨k, rfl, hk, rfl⟩ := hrel
      obtain ⟨n0, n1⟩ := M.sumTo_lt HD.out hl k hk
      by_cases hlt : k < s.size
      · have hs := Lib.hid (M.sumTo_succ s k)
        obtain ⟨b0, b1⟩ := HD.out k hlt
        have ha : (s[k]'hlt).toNat < 128 := by have := hbt k hlt; omega
        have hnx : ∀ ty, (Instr.next (.pointer (some ⟨w1.heap.size, 0, none⟩)) true ty).run Tryd.prog (w1.iter s k) = _ := fun ty => run_next_ascii w1 s k ty hlt ha
        rw [hbt k hlt] at hnx
        clear ha
        go_wp2
        go_roundw
        case rel => exact ⟨k + 1, rfl, by omega, by rw [hs.out]; go_num⟩
        case measure => simp; omega
      · obtain rfl : k = s.size := by omega
        have hnx : ∀ ty, (Instr.next (.pointer (some ⟨w1.heap.size, 0, none⟩)) true ty).run Tryd.prog (w1.iter s s.size) = _ := fun ty => run_next_end w1 s s.size ty (by omega)
        have hL2 := hL1.below (below_iter s s.size w1)
        go_wp2_with (go_at_call 19; refine (impl_completing _ _ hL2 n0 n1).mono ?_; rintro e w' ⟨rfl, rfl⟩)
        go_ret
        exact ⟨ret_int (by rw [hv.out, hf.out]; omega), hb1.trans ((below_iter s s.size w1).mono hb1.size)⟩

theorem size_zero {s : ByteArray} (h : s.size = 0) : s = ByteArray.empty := by
  apply ByteArray.ext
  apply Array.eq_empty_of_size_eq_zero
  exact h

theorem ne_empty (s : ByteArray) (h : 0 < s.size) : ¬ s.toList = [] := by
  rw [ByteArray.toList_eq]
  intro e
  have h1 : s.data.toList.length = 0 := by rw [e]; rfl
  rw [Array.length_toList] at h1
  have h2 : s.data.size = s.size := rfl
  omega

set_option maxHeartbeats 400000 in
theorem spec_CheckValid (s : ByteArray) (w : World) (hs : s.size ≤ maxLen) :
    Calls Tryd.prog 6 #[.string s] w fun e w' => e = .returned (.bool (M.checkValid s)) ∧ w = w' := by
  cases hd : M.digs s
  · have hv := Lib.hid (M.checkValid_no hd)
    go_enter Tryd.func6, Tryd.ntmps6
    go_wp2_with (go_at_call 16; refine (spec_DigitsValid _ _ hs).mono ?_; rw [hd]; rintro e w' ⟨rfl, rfl⟩)
    go_ret
    exact ⟨ret_bool hv.out.symm, rfl⟩
  · obtain ⟨n0, n1⟩ := M.sum_bd hd
    by_cases h0 : 0 < s.size
    · have hv := Lib.hid (M.checkValid_yes hd h0)
      have hne := ne_empty s h0
      go_enter Tryd.func6, Tryd.ntmps6
      go_wp2_with (first | (go_at_call 16; refine (spec_DigitsValid _ _ hs).mono ?_; rw [hd]; rintro e w' ⟨rfl, rfl⟩) | (go_at_call 17; refine (spec_l1Sum _ _ hd).mono ?_; rintro e w' ⟨rfl, rfl⟩))
      go_ret
      exact ⟨ret_bool (by rw [hv.out, List.isEmpty_eq_false_iff.2 hne]; rfl), rfl⟩
    · have hv := Lib.hid (M.checkValid_empty (s := s) (by omega))
      obtain rfl := size_zero (s := s) (by omega)
      go_enter Tryd.func6, Tryd.ntmps6
      go_wp2_with (first | (go_at_call 16; refine (spec_DigitsValid _ _ hs).mono ?_; rw [hd]; rintro e w' ⟨rfl, rfl⟩))
      go_ret
      exact ⟨ret_bool hv.out.symm, rfl⟩

set_option maxHeartbeats 400000 in
theorem impl_CheckValid (s : ByteArray) (w : World) (hs : s.size ≤ maxLen) (hL : Laid.checks w) :
    Calls Tryd.prog 5 #[.string s] w fun e w' => e = .returned (.bool (M.checkValid s)) ∧ Below w.heap.size w w' := by
  by_cases h0 : 0 < s.size
  · have hne := ne_empty s h0
    have hv := Lib.hid (show M.checkValid s = (M.checkDigit s == 0) from by
      cases hd : M.digs s
      · rw [M.checkValid_no hd, M.checkDigit_no hd]; rfl
      · obtain ⟨n0, n1⟩ := M.sum_bd hd
        rw [M.checkValid_yes hd h0, M.checkDigit_yes hd]
        by_cases e : M.sum s % 10 = 0
        · rw [decide_eq_true e, e]; rfl
        · rw [decide_eq_false e]
          simp
          omega)
    go_enter Tryd.func5, Tryd.ntmps5
    go_wp2_with (go_at_call 9; refine (impl_CheckDigit _ _ hs hL).mono ?_; rintro e w1 ⟨rfl, hb⟩)
    go_ret
    exact ⟨ret_bool (by rw [hv.out, List.isEmpty_eq_false_iff.2 hne]; rfl), hb⟩
  · have hv := Lib.hid (M.checkValid_empty (s := s) (by omega))
    obtain rfl := size_zero (s := s) (by omega)
    go_enter Tryd.func5, Tryd.ntmps5
    go_wp2
    go_ret
    exact ⟨ret_bool hv.out.symm, Below.refl _ _⟩
end Go.Proofs.YtagbnfccagdlkaaDoor
