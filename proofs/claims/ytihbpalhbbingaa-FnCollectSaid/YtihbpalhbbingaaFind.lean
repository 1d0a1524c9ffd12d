/-
  What FindLetter returns, in the program and in the model of the document.
-/
import Derived.Test.YtihbpalhbbingaaPureA
import Derived.Test.YtihbpalhbbingaaBatch
namespace Go.Proofs.Ytihbpalhbbingaa
open Go.RowKit
open Go.PlainAid (bt get_bt bt_nonneg bt_le)

set_option maxHeartbeats 400000 in
theorem same_id (w : World) (B : Nat) (x i : Int) (s : ByteArray) (hB : w.cell? ⟨B, 0, none⟩ = some (.int .i64 x)) :
    Calls Try.prog 56 #[.agg #[.int .i64 i, .string s], .pointer (some ⟨B, 0, none⟩)] w fun e w' => e = .returned (.bool (decide (i = x))) ∧ Below w.heap.size w w' := by
  have hlt := World.block_lt_of_cell? _ _ hB
  have hv := Lib.hid (show (i == x) = decide (i = x) from rfl)
  go_enter Try.func56, Try.ntmps56
  go_wp2
  go_ret
  exact ⟨ret_bool hv.out, by go_grown⟩

set_option maxHeartbeats 1000000 in
theorem index_id (w : World) (a : Option Addr) (n c : Nat) (I : Nat → Int) (C : Nat → ByteArray) (h : Lts w a n I C) (hn : n ≤ 60) (B : Nat) (x : Int) (hB : w.cell? ⟨B, 0, none⟩ = some (.int .i64 x)) :
    Calls Try.prog 55 #[.slice a n c, .func (.func 56) #[] #[.pointer (some ⟨B, 0, none⟩)]] w fun e w' => e = .returned (.int .i64 (M.find I n x)) ∧ Below w.heap.size w w' := by
  have HL := Lib.hid h
  have HB := Lib.hid hB
  have hlt0 := World.block_lt_of_cell? _ _ hB
  clear h hB
  go_enter Try.func55, Try.ntmps55
  go_wp2
  go_loopw [8] (fun i wr => ∃ k : Nat, k ≤ n ∧ i = .int .i64 k ∧ Hid (∀ j, j < k → I j ≠ x) ∧ Below w.heap.size w wr) (fun i _ => n - (intOf i).toNat)
  case atStart => exact ⟨0, Nat.zero_le _, rfl, fun j hj => absurd hj (by omega), Below.refl _ _⟩
  case round =>
    obtain ⟨k, hk, rfl, hno, hb⟩ := hrel
    have hz := hb.size
    by_cases hlt : k < n
    · obtain ⟨b, o, rfl, c0, c1⟩ := (HL.out.on hb) k hlt
      by_cases he : I k = x
      · have hd := Lib.hid (decide_eq_true he)
        have HE := Lib.hid he
        clear he
        go_wp2_with (go_at_call 56; refine (same_id _ _ _ _ _ ((hb.cell (p := ⟨B, 0, none⟩) hlt0).trans HB.out)).mono ?_; rw [hd.out]; rintro e w1 ⟨rfl, hb1⟩)
        go_ret
        exact ⟨ret_int (M.find_hit hlt HE.out hno).symm, hb.trans (hb1.mono hz)⟩
      · have hd := Lib.hid (decide_eq_false he)
        have HE := Lib.hid he
        clear he
        go_wp2_with (go_at_call 56; refine (same_id _ _ _ _ _ ((hb.cell (p := ⟨B, 0, none⟩) hlt0).trans HB.out)).mono ?_; rw [hd.out]; rintro e w1 ⟨rfl, hb1⟩)
        go_roundw
        case rel => exact ⟨k + 1, by omega, by go_num, M.find_below hno HE.out, hb.trans (hb1.mono hz)⟩
        case measure => simp [intOf]; omega
    · obtain rfl : k = n := by omega
      go_wp2
      go_ret
      exact ⟨ret_int (M.find_miss hno).symm, hb⟩

set_option maxHeartbeats 1000000 in
theorem impl_FindLetter (w : World) (a : Option Addr) (n c : Nat) (I : Nat → Int) (C : Nat → ByteArray) (h : Lts w a n I C) (hf : Fits n I C) (x : Int) :
    Calls Try.prog 38 #[.slice a n c, .int .i64 x] w fun e w' => e = .returned (.int .i64 (M.findLetter n I C x)) ∧ Below w.heap.size w w' := by
  have HF := Lib.hid hf
  have HL := Lib.hid (h.on ((Below.refl _ _).alloc (Nat.le_refl _) (.cells #[.int .i64 x] 3)))
  clear h hf
  have hmf : ∀ (fn : Fn) (first cap : Array Value) (w : World), (Instr.makeFunc fn first cap).run Try.prog w = .ok (.func fn first cap) w := fun _ _ _ _ => rfl
  cases hb : M.batch n I C
  · have hv := Lib.hid (M.findLetter_no (x := x) hb)
    have HB := Lib.hid hb
    clear hb
    go_enter Try.func38, Try.ntmps38
    go_wp2_with (go_at_call 19; refine (impl_BatchValid _ _ _ _ _ _ HL.out HF.out).mono ?_; rw [HB.out]; rintro e w1 ⟨rfl, hb1⟩)
    go_ret
    exact ⟨ret_int hv.out.symm, step ((Below.refl _ _).alloc (Nat.le_refl _) _) hb1⟩
  · have hv := Lib.hid (M.findLetter_yes (x := x) hb)
    have hn := (M.batch_yes hb).1
    have HB := Lib.hid hb
    clear hb
    go_enter Try.func38, Try.ntmps38
    go_wp2_with fail
    refine (impl_BatchValid _ _ _ _ _ _ HL.out HF.out).mono ?_
    rw [HB.out]
    rintro e w1 ⟨rfl, hb1⟩
    have hc1 : w1.cell? ⟨w.heap.size, 0, none⟩ = some (.int .i64 x) := by
      rw [hb1.cell (p := ⟨w.heap.size, 0, none⟩) (by simp)]
      simp
    go_wp2_with fail
    refine (index_id _ _ _ _ _ _ (HL.out.on hb1) hn _ x hc1).mono ?_
    rintro e w2 ⟨rfl, hb2⟩
    go_wp2
    go_ret
    exact ⟨ret_int hv.out.symm, step (step ((Below.refl _ _).alloc (Nat.le_refl _) _) hb1) hb2⟩

set_option maxHeartbeats 1000000 in
theorem spec_FindLetter (w : World) (a : Option Addr) (n c : Nat) (I : Nat → Int) (C : Nat → ByteArray) (h : Lts w a n I C) (hf : Fits n I C) (hn : n ≤ 1048576) (x : Int) :
    Calls Try.prog 40 #[.slice a n c, .int .i64 x] w fun e w' => e = .returned (.int .i64 (M.findLetter n I C x)) ∧ Below w.heap.size w w' := by
  have HF := Lib.hid hf
  have HL := Lib.hid h
  clear h hf
  have h0 := Below.refl w.heap.size w
  cases hb : M.batch n I C
  · have hv := Lib.hid (M.findLetter_no (x := x) hb)
    have hpos := M.batch_pos hb
    have HB := Lib.hid hb
    clear hb
    go_enter Try.func40, Try.ntmps40
    go_wp2
    refine wp_loop_rounds 1 ?_
    rw [rounds_succ]
    go_wp2_with fail
    refine (spec_BatchValid _ _ _ _ _ _ HL.out HF.out hn).mono ?_
    rw [HB.out]
    rintro e w1 ⟨rfl, hb1⟩
    go_wp2
    go_ret
    exact ⟨ret_int hv.out.symm, hb1⟩
  · have hv := Lib.hid (M.findLetter_yes (x := x) hb)
    have hn6 := (M.batch_yes hb).1
    have HB := Lib.hid hb
    clear hb
    go_enter Try.func40, Try.ntmps40
    go_wp2
    go_loopw [5] (fun i wr => ∃ k : Nat, k ≤ n ∧ i = .int .i64 k ∧ Hid (∀ j, j < k → I j ≠ x) ∧ Below w.heap.size w wr) (fun i _ => n - (intOf i).toNat)
    case atStart => exact ⟨0, Nat.zero_le _, rfl, fun j hj => absurd hj (by omega), h0⟩
    case round =>
      obtain ⟨k, hk, rfl, hno, hb⟩ := hrel
      have hz := hb.size
      by_cases hlt : k < n
      · have HS0 := Lib.hid (HL.out.on hb)
        go_wp2_with fail
        refine (spec_BatchValid _ _ _ _ _ _ HS0.out HF.out hn).mono ?_
        rw [HB.out]
        rintro e w1 ⟨rfl, hb1⟩
        have hbb := step hb hb1
        obtain ⟨b, o, rfl, c0, c1⟩ := (HS0.out.on hb1) k hlt
        by_cases he : I k = x
        · have hd : (I k == x) = true := by simpa using he
          have HE := Lib.hid he
          clear he
          go_wp2
          go_ret
          exact ⟨ret_int (by rw [hv.out, M.find_hit hlt HE.out hno]), hbb⟩
        · have hd : (I k == x) = false := by simpa using he
          have HE := Lib.hid he
          clear he
          go_wp2
          go_roundw
          case rel => exact ⟨k + 1, by omega, by go_num, M.find_below hno HE.out, hbb⟩
          case measure => simp [intOf]; omega
      · obtain rfl : k = n := by omega
        go_wp2
        go_ret
        exact ⟨ret_int (by rw [hv.out, M.find_miss hno]), hb⟩
end Go.Proofs.Ytihbpalhbbingaa
