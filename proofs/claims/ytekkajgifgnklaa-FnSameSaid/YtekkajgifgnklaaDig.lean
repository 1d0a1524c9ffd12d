/-
  What DigitsValid and CodeValid return, in the program and in the model of the document.
-/
import Derived.Test.YtekkajgifgnklaaChecked
import Derived.Test.YtekkajgifgnklaaMath
import Derived.WalkKit
import Derived.Below
import Derived.Outline
import Derived.Lib.Hide
namespace Go.Proofs.Ytekkajgifgnklaa
open Go.RowKit
open Go.PlainAid (bt get_bt bt_nonneg bt_le)

theorem ret_bool {a b : Bool} (h : a = b) : Ending.returned (.bool a) = .returned (.bool b) := by rw [h]
theorem ret_int {k : IntKind} {a b : Int} (h : a = b) : Ending.returned (.int k a) = .returned (.int k b) := by rw [h]
theorem dec_seven (n : Nat) : ((n : Int) == 7) = decide (n = 7) := by
  by_cases h : n = 7
  · subst h; rfl
  · rw [decide_eq_false h]
    simp
    omega
/-- The world behind a range over s: as it was, or with one iterator more. -/
def Iters (s : ByteArray) (w w' : World) : Prop := w' = w ∨ ∃ k, w' = w.alloc (.stringIter s k)
theorem Iters.below {s : ByteArray} {w w' : World} (h : Iters s w w') : Below w.heap.size w w' := by
  rcases h with rfl | ⟨k, rfl⟩
  · exact Below.refl _ _
  · exact (Below.refl _ _).alloc (Nat.le_refl _) _
theorem below_iter (s : ByteArray) (p : Nat) (w : World) : Below w.heap.size w (w.iter s p) := (Below.refl _ _).alloc (Nat.le_refl _) _

set_option maxHeartbeats 400000 in
theorem spec_DigitsValid (s : ByteArray) (w : World) (hs : s.size ≤ maxLen) :
    Calls Try.prog 60 #[.string s] w fun e w' => e = .returned (.bool (M.digs s)) ∧ w = w' := by
  unfold maxLen at hs
  have hbt := get_bt s
  go_enter Try.func60, Try.ntmps60
  go_wp2
  go_loop [3] (fun i => ∃ k : Nat, k ≤ s.size ∧ i = .int .i64 k ∧ Hid (M.digsTo s k = true)) (fun i => s.size - (intOf i).toNat)
  case atStart => exact ⟨0, Nat.zero_le _, rfl, M.digsTo_zero s⟩
  case round =>
    obtain ⟨k, hk, rfl, hd⟩ := hrel
    by_cases hlt : k < s.size
    · by_cases h1 : bt s k < 48
      · have hno := Lib.hid (M.digs_no hlt (Or.inl h1))
        go_wp2
        go_ret
        exact ⟨ret_bool hno.out.symm, rfl⟩
      · by_cases h2 : 57 < bt s k
        · have hno := Lib.hid (M.digs_no hlt (Or.inr h2))
          go_wp2
          go_ret
          exact ⟨ret_bool hno.out.symm, rfl⟩
        · have hok := Lib.hid (M.digsTo_succ hd.out (by omega) (by omega))
          go_wp2
          go_round
          case rel => exact ⟨k + 1, by omega, by go_num, hok⟩
          case measure => simp [intOf]; omega
    · obtain rfl : k = s.size := by omega
      have he := Lib.hid (M.digs_end hd)
      clear hd
      go_wp2
      go_ret
      exact ⟨ret_bool (by rw [he.out]; simp; omega), rfl⟩

set_option maxHeartbeats 400000 in
theorem impl_DigitsValid (s : ByteArray) (w : World) (hs : s.size ≤ maxLen) :
    Calls Try.prog 52 #[.string s] w fun e w' => e = .returned (.bool (M.digs s)) ∧ Iters s w w' := by
  unfold maxLen at hs
  by_cases hl : 20 < s.size
  · have hno := Lib.hid (M.digs_long hl)
    go_enter Try.func52, Try.ntmps52
    go_wp2
    go_ret
    exact ⟨ret_bool hno.out.symm, Or.inl rfl⟩
  have hbt := get_bt s
  go_enter Try.func52, Try.ntmps52
  go_wp2
  go_loopw [4] (fun _ wr => ∃ k : Nat, wr = w.iter s k ∧ k ≤ s.size ∧ Hid (M.digsTo s k = true)) (fun _ wr => s.size - wr.iterPos w.heap.size)
  case atStart => exact ⟨0, rfl, Nat.zero_le _, M.digsTo_zero s⟩
  case round =>
    obtain ⟨k, rfl, hk, hd⟩ := hrel
    by_cases hlt : k < s.size
    · by_cases h0 : (s[k]'hlt).toNat < 128
      · have hnx : ∀ ty, (Instr.next (.pointer (some ⟨w.heap.size, 0, none⟩)) true ty).run Try.prog (w.iter s k) = _ := fun ty => run_next_ascii w s k ty hlt h0
        rw [hbt k hlt] at hnx
        clear h0
        by_cases h1 : bt s k < 48
        · have hno := Lib.hid (M.digs_no hlt (Or.inl h1))
          go_wp2
          go_ret
          exact ⟨ret_bool hno.out.symm, Or.inr ⟨_, rfl⟩⟩
        · by_cases h2 : 57 < bt s k
          · have hno := Lib.hid (M.digs_no hlt (Or.inr h2))
            go_wp2
            go_ret
            exact ⟨ret_bool hno.out.symm, Or.inr ⟨_, rfl⟩⟩
          · have hok := Lib.hid (M.digsTo_succ hd.out (by omega) (by omega))
            go_wp2
            go_roundw
            case rel => exact ⟨k + 1, rfl, by omega, hok⟩
            case measure => simp; omega
      · have hnx : ∀ ty, (Instr.next (.pointer (some ⟨w.heap.size, 0, none⟩)) true ty).run Try.prog (w.iter s k) = _ := fun ty => run_next_any w s k ty hlt
        have hh := (decode_high s k hlt (by omega)).1
        have hle := decode_le s k
        have hno := Lib.hid (M.digs_no hlt (Or.inr (by have := hbt k hlt; omega)))
        go_wp2
        go_ret
        exact ⟨ret_bool hno.out.symm, Or.inr ⟨_, rfl⟩⟩
    · obtain rfl : k = s.size := by omega
      have hnx : ∀ ty, (Instr.next (.pointer (some ⟨w.heap.size, 0, none⟩)) true ty).run Try.prog (w.iter s s.size) = _ := fun ty => run_next_end w s s.size ty (by omega)
      have he := Lib.hid (M.digs_end hd)
      clear hd
      go_wp2
      go_ret
      exact ⟨ret_bool (by rw [he.out]; simp; omega), Or.inr ⟨_, rfl⟩⟩

set_option maxHeartbeats 400000 in
theorem spec_CodeValid (s : ByteArray) (w : World) (hs : s.size ≤ maxLen) :
    Calls Try.prog 46 #[.string s] w fun e w' => e = .returned (.bool (M.code s)) ∧ w = w' := by
  have hcd : M.code s = (M.digs s && decide (s.size = 7)) := rfl
  have H := Lib.hid hcd
  clear hcd
  cases hd : M.digs s
  · rw [hd] at H
    go_enter Try.func46, Try.ntmps46
    go_wp2_with (go_at_call 60; refine (spec_DigitsValid _ _ hs).mono ?_; rw [hd]; rintro e w' ⟨rfl, rfl⟩)
    go_ret
    exact ⟨ret_bool (by rw [H.out]; rfl), rfl⟩
  · rw [hd] at H
    go_enter Try.func46, Try.ntmps46
    go_wp2_with (go_at_call 60; refine (spec_DigitsValid _ _ hs).mono ?_; rw [hd]; rintro e w' ⟨rfl, rfl⟩)
    go_ret
    exact ⟨ret_bool (by rw [H.out, Bool.true_and]; exact dec_seven s.size), rfl⟩

set_option maxHeartbeats 400000 in
theorem impl_CodeValid (s : ByteArray) (w : World) (hs : s.size ≤ maxLen) :
    Calls Try.prog 31 #[.string s] w fun e w' => e = .returned (.bool (M.code s)) ∧ Iters s w w' := by
  by_cases h7 : s.size = 7
  · have hcd : M.code s = M.digs s := by unfold M.code; simp [h7]
    have H := Lib.hid hcd
    have hl : ((s.size : Int) == 7) = true := by simp; omega
    clear hcd h7
    go_enter Try.func31, Try.ntmps31
    go_wp2_with (go_at_call 52; refine (impl_DigitsValid _ _ hs).mono ?_; rintro e w' ⟨rfl, hb⟩)
    go_ret
    exact ⟨ret_bool (by rw [H.out]), hb⟩
  · have hcd : M.code s = false := by unfold M.code; simp [h7]
    have H := Lib.hid hcd
    have hl : ((s.size : Int) == 7) = false := by simp; omega
    clear hcd h7
    go_enter Try.func31, Try.ntmps31
    go_wp2_with (go_at_call 52; refine (impl_DigitsValid _ _ hs).mono ?_; rintro e w' ⟨rfl, hb⟩)
    go_ret
    exact ⟨ret_bool (by rw [H.out]), Or.inl rfl⟩

/-- Behind a call that makes memory alone: all that was there reads as before. -/
theorem bcell {W w1 : World} (hb : Below W.heap.size W w1) : (∀ b o, b < W.heap.size → w1.cell? ⟨b, o, none⟩ = W.cell? ⟨b, o, none⟩) ∧ (∀ b o, b < W.heap.size → w1.frozen? ⟨b, o, none⟩ = W.frozen? ⟨b, o, none⟩) :=
  ⟨fun b o h => hb.cell (p := ⟨b, o, none⟩) h, fun b o h => hb.frozen (p := ⟨b, o, none⟩) h⟩

set_option maxHeartbeats 400000 in
theorem impl_DigitsValid_yes (s : ByteArray) (w : World) (hd : M.digs s = true) :
    Calls Try.prog 52 #[.string s] w fun e w' => e = .returned (.bool true) ∧ w' = w.alloc (.stringIter s s.size) := by
  have hbt := get_bt s
  have HD := Lib.hid (M.digs_bt hd)
  have hl := M.digs_len hd
  clear hd
  go_enter Try.func52, Try.ntmps52
  go_wp2
  go_loopw [4] (fun _ wr => ∃ k : Nat, wr = w.iter s k ∧ k ≤ s.size) (fun _ wr => s.size - wr.iterPos w.heap.size)
  case atStart => exact ⟨0, rfl, Nat.zero_le _⟩
  case round =>
    obtain ⟨k, rfl, hk⟩ := hrel
    by_cases hlt : k < s.size
    · obtain ⟨b0, b1⟩ := HD.out k hlt
      have ha : (s[k]'hlt).toNat < 128 := by have := hbt k hlt; omega
      have hnx : ∀ ty, (Instr.next (.pointer (some ⟨w.heap.size, 0, none⟩)) true ty).run Try.prog (w.iter s k) = _ := fun ty => run_next_ascii w s k ty hlt ha
      rw [hbt k hlt] at hnx
      clear ha
      go_wp2
      go_roundw
      case rel => exact ⟨k + 1, rfl, by omega⟩
      case measure => simp; omega
    · obtain rfl : k = s.size := by omega
      have hnx : ∀ ty, (Instr.next (.pointer (some ⟨w.heap.size, 0, none⟩)) true ty).run Try.prog (w.iter s s.size) = _ := fun ty => run_next_end w s s.size ty (by omega)
      go_wp2
      go_ret
      exact ⟨rfl, rfl⟩

set_option maxHeartbeats 400000 in
theorem impl_CodeValid_yes (s : ByteArray) (w : World) (hc : M.code s = true) :
    Calls Try.prog 31 #[.string s] w fun e w' => e = .returned (.bool true) ∧ w' = w.alloc (.stringIter s s.size) := by
  obtain ⟨hd, h7⟩ := M.code_yes hc
  have hl : ((s.size : Int) == 7) = true := by simp; omega
  clear h7 hc
  have HD := Lib.hid hd
  clear hd
  go_enter Try.func31, Try.ntmps31
  go_wp2_with (go_at_call 52; refine (impl_DigitsValid_yes _ _ HD.out).mono ?_; rintro e w' ⟨rfl, rfl⟩)
  go_ret
  exact ⟨rfl, rfl⟩
end Go.Proofs.Ytekkajgifgnklaa
