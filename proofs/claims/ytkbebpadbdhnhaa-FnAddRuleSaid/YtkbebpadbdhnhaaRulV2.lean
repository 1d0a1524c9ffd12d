/-
  Whether names and rules are valid, in the program.
-/
import Derived.Test.YtkbebpadbdhnhaaRulV
namespace Go.Proofs.Ytkbebpadbdhnhaa
open Go.RowKit Go.Maps
open Go.PlainAid (bt get_bt bt_nonneg bt_le)
set_option linter.unusedVariables false

/-- No small letter. -/
def M.oddB (r : Int) : Bool := decide (r < 97) || decide (122 < r)
theorem M.oddB_lo {r : Int} (h : r < 97) : M.oddB r = true := by unfold M.oddB; rw [decide_eq_true h]; rfl
theorem M.oddB_hi {r : Int} (h : 122 < r) : M.oddB r = true := by unfold M.oddB; rw [decide_eq_true h, Bool.or_true]
theorem M.oddB_no {r : Int} (h1 : ¬ r < 97) (h2 : ¬ 122 < r) : M.oddB r = false := by unfold M.oddB; rw [decide_eq_false h1, decide_eq_false h2]; rfl
/-- Where the first byte that is no small letter stands, or -1. -/
def M.oddAt (s : ByteArray) (r : Int) : Prop := (r = -1 ∧ M.lowTo s s.size = true) ∨ (0 ≤ r ∧ M.lowTo s s.size = false)
set_option maxHeartbeats 400000 in
theorem no_letter (r : Int) (w : World) :
    Calls Try.prog 36 #[.int .i32 r] w fun e w' => e = .returned (.bool (M.oddB r)) ∧ w = w' := by
  by_cases h1 : r < 97
  · have hv := Lib.hid (M.oddB_lo h1)
    go_enter Try.func36, Try.ntmps36
    go_wp2
    go_ret
    exact ⟨ret_bool hv.out.symm, rfl⟩
  · by_cases h2 : 122 < r
    · have hv := Lib.hid (M.oddB_hi h2)
      go_enter Try.func36, Try.ntmps36
      go_wp2
      go_ret
      exact ⟨ret_bool hv.out.symm, rfl⟩
    · have hv := Lib.hid (M.oddB_no h1 h2)
      go_enter Try.func36, Try.ntmps36
      go_wp2
      go_ret
      exact ⟨ret_bool hv.out.symm, rfl⟩

set_option maxHeartbeats 1000000 in
theorem index_odd (s : ByteArray) (w : World) (hs : s.size ≤ maxLen) :
    Calls Try.prog 46 #[.string s, .func (.func 36) #[] #[], .bool true] w fun e w' => ∃ r : Int, e = .returned (.int .i64 r) ∧ M.oddAt s r ∧ Iters s w w' := by
  unfold maxLen at hs
  have hbt := get_bt s
  go_enter Try.func46, Try.ntmps46
  go_wp2
  go_loopw [] (fun wr => ∃ k : Nat, wr = w.iter s k ∧ k ≤ s.size ∧ Hid (M.lowTo s k = true)) (fun wr => s.size - wr.iterPos w.heap.size)
  case atStart => exact ⟨0, rfl, Nat.zero_le _, M.lowTo_zero s⟩
  case round =>
    obtain ⟨k, rfl, hk, hd⟩ := hrel
    by_cases hlt : k < s.size
    · by_cases h0 : (s[k]'hlt).toNat < 128
      · have hnx : ∀ ty, (Instr.next (.pointer (some ⟨w.heap.size, 0, none⟩)) true ty).run Try.prog (w.iter s k) = _ := fun ty => run_next_ascii w s k ty hlt h0
        rw [hbt k hlt] at hnx
        clear h0
        by_cases h1 : bt s k < 97 ∨ 122 < bt s k
        · have hno := Lib.hid (M.low_no hlt h1)
          have HD : Hid (M.oddB (bt s k) = true) := h1.elim M.oddB_lo M.oddB_hi
          clear h1
          go_wp2_with (go_at_call 36; refine (no_letter _ _).mono ?_; rw [HD.out]; rintro e w1 ⟨rfl, rfl⟩)
          go_ret
          exact ⟨_, rfl, Or.inr ⟨by omega, hno.out⟩, Or.inr ⟨_, rfl⟩⟩
        · have hok := Lib.hid (M.lowTo_succ hd.out (by omega) (by omega))
          have HD := Lib.hid (M.oddB_no (r := bt s k) (by omega) (by omega))
          clear h1
          go_wp2_with (go_at_call 36; refine (no_letter _ _).mono ?_; rw [HD.out]; rintro e w1 ⟨rfl, rfl⟩)
          go_roundw
          case rel => exact ⟨k + 1, rfl, by omega, hok⟩
          case measure => simp; omega
      · have hnx : ∀ ty, (Instr.next (.pointer (some ⟨w.heap.size, 0, none⟩)) true ty).run Try.prog (w.iter s k) = _ := fun ty => run_next_any w s k ty hlt
        have hh := (decode_high s k hlt (by omega)).1
        have hno := Lib.hid (M.low_no hlt (Or.inr (by have := hbt k hlt; omega)))
        have HD : Hid (M.oddB (((Utf8.decode s k).1 : Nat) : Int) = true) := M.oddB_hi (by omega)
        clear hh
        go_wp2_with (go_at_call 36; refine (no_letter _ _).mono ?_; rw [HD.out]; rintro e w1 ⟨rfl, rfl⟩)
        go_ret
        exact ⟨_, rfl, Or.inr ⟨by omega, hno.out⟩, Or.inr ⟨_, rfl⟩⟩
    · obtain rfl : k = s.size := by omega
      have hnx : ∀ ty, (Instr.next (.pointer (some ⟨w.heap.size, 0, none⟩)) true ty).run Try.prog (w.iter s s.size) = _ := fun ty => run_next_end w s s.size ty (by omega)
      go_wp2
      go_ret
      exact ⟨_, rfl, Or.inl ⟨rfl, hd.out⟩, Or.inr ⟨_, rfl⟩⟩
end Go.Proofs.Ytkbebpadbdhnhaa
