/-
  What Inversions returns, in the program and in the model of the document.
-/
import Derived.Test.YtmekhbekjfandaaSorted
namespace Go.Proofs.Ytmekhbekjfandaa
open Go.RowKit
open Go.PlainAid (bt get_bt bt_nonneg bt_le)

set_option maxHeartbeats 1000000 in
theorem impl_Inversions (w : World) (a : Option Addr) (n c : Nat) (I : Nat → Int) (C : Nat → ByteArray) (h : Lts w a n I C) (hf : Fits n I C) :
    Calls Try.prog 9 #[.slice a n c] w fun e w' => e = .returned (.int .i64 (M.inversions n I C)) ∧ Below w.heap.size w w' := by
  have HF := Lib.hid hf
  have HL := Lib.hid h
  clear h hf
  cases hb : M.batch n I C
  · have hv := Lib.hid (M.inversions_no hb)
    have HB := Lib.hid hb
    clear hb
    go_enter Try.func9, Try.ntmps9
    go_wp2_with (go_at_call 13; refine (impl_BatchValid _ _ _ _ _ _ HL.out HF.out).mono ?_; rw [HB.out]; rintro e w1 ⟨rfl, hb1⟩)
    go_ret
    exact ⟨ret_int hv.out.symm, hb1⟩
  · have hv := Lib.hid (M.inversions_yes hb)
    have hn := (M.batch_yes hb).1
    have HB := Lib.hid hb
    clear hb
    go_enter Try.func9, Try.ntmps9
    go_wp2_with (go_at_call 13; refine (impl_BatchValid _ _ _ _ _ _ HL.out HF.out).mono ?_; rw [HB.out]; rintro e w1 ⟨rfl, hb1⟩)
    go_loopw [3, 11] (fun t i wr => ∃ k : Nat, k ≤ n ∧ i = .int .i64 k ∧ t = .int .i64 (M.inv C k) ∧ Below w.heap.size w wr) (fun _ i _ => n - (intOf i).toNat)
    case atStart => exact ⟨0, Nat.zero_le _, rfl, rfl, hb1⟩
    case round =>
      obtain ⟨k, hk, rfl, rfl, hb⟩ := hrel
      have hz := hb.size
      have hi := M.inv_le C k (by omega)
      by_cases hlt : k < n
      · have HSU := Lib.hid (M.inv_succ C k)
        have hin := M.invAt_le C k k
        go_wp2
        go_loopw [3, 15] (fun t i wr => ∃ j : Nat, j ≤ k ∧ i = .int .i64 j ∧ t = .int .i64 ((M.inv C k + M.invAt C k j : Nat) : Int) ∧ Below w.heap.size w wr) (fun _ i _ => k - (intOf i).toNat)
        case atStart => exact ⟨0, Nat.zero_le _, rfl, rfl, hb⟩
        case round =>
          obtain ⟨j, hj, rfl, rfl, hb2⟩ := hrel
          have hz2 := hb2.size
          have hjn := M.invAt_le C k j
          by_cases hjk : j < k
          · cases hl : M.less (C k) (C j)
            · have HS := Lib.hid hl
              have HN := Lib.hid (M.invAt_no hl)
              clear hl
              go_wp2_with (go_at_call 36; refine (before_any _ _ _ _ _ _ (HL.out.on hb2) _ _ k j (by omega) (by omega) hlt (by omega)).mono ?_; rw [HS.out]; rintro e w2 ⟨rfl, hb3⟩)
              go_roundw
              case rel => exact ⟨j + 1, by omega, by go_num, by refine congrArg (Value.int .i64) ?_; have := HN.out; omega, hb2.trans (hb3.mono hz2)⟩
              case measure => simp [intOf]; omega
            · have HS := Lib.hid hl
              have HN := Lib.hid (M.invAt_yes hl)
              clear hl
              go_wp2_with (go_at_call 36; refine (before_any _ _ _ _ _ _ (HL.out.on hb2) _ _ k j (by omega) (by omega) hlt (by omega)).mono ?_; rw [HS.out]; rintro e w2 ⟨rfl, hb3⟩)
              go_roundw
              case rel => exact ⟨j + 1, by omega, by go_num, by refine congrArg (Value.int .i64) ?_; have := HN.out; omega, hb2.trans (hb3.mono hz2)⟩
              case measure => simp [intOf]; omega
          · obtain rfl : j = k := by omega
            go_wp2
            go_roundw
            case rel => exact ⟨j + 1, by omega, by go_num, by refine congrArg (Value.int .i64) ?_; have := HSU.out; omega, hb2⟩
            case measure => simp [intOf]; omega
      · obtain rfl : k = n := by omega
        go_wp2
        go_ret
        exact ⟨ret_int hv.out.symm, hb⟩

set_option maxHeartbeats 1000000 in
theorem spec_Inversions (w : World) (a : Option Addr) (n c : Nat) (I : Nat → Int) (C : Nat → ByteArray) (h : Lts w a n I C) (hf : Fits n I C) (hn : n ≤ 1048576) :
    Calls Try.prog 10 #[.slice a n c] w fun e w' => e = .returned (.int .i64 (M.inversions n I C)) ∧ Below w.heap.size w w' := by
  have HF := Lib.hid hf
  have HL := Lib.hid h
  clear h hf
  cases hb : M.batch n I C
  · have hv := Lib.hid (M.inversions_no hb)
    have HB := Lib.hid hb
    clear hb
    go_enter Try.func10, Try.ntmps10
    go_wp2_with (go_at_call 37; refine (spec_BatchValid _ _ _ _ _ _ HL.out HF.out hn).mono ?_; rw [HB.out]; rintro e w1 ⟨rfl, hb1⟩)
    go_ret
    exact ⟨ret_int hv.out.symm, hb1⟩
  · have hv := Lib.hid (M.inversions_yes hb)
    have hn6 := (M.batch_yes hb).1
    have HB := Lib.hid hb
    clear hb
    go_enter Try.func10, Try.ntmps10
    go_wp2_with (go_at_call 37; refine (spec_BatchValid _ _ _ _ _ _ HL.out HF.out hn).mono ?_; rw [HB.out]; rintro e w1 ⟨rfl, hb1⟩)
    go_loopw [3, 4] (fun t i wr => ∃ k : Nat, k ≤ n ∧ i = .int .i64 k ∧ t = .int .i64 (M.inv C k) ∧ Below w.heap.size w wr) (fun _ i _ => n - (intOf i).toNat)
    case atStart => exact ⟨0, Nat.zero_le _, rfl, rfl, hb1⟩
    case round =>
      obtain ⟨k, hk, rfl, rfl, hb⟩ := hrel
      have hz := hb.size
      have hi := M.inv_le C k (by omega)
      by_cases hlt : k < n
      · have HSU := Lib.hid (M.inv_succ C k)
        have hin := M.invAt_le C k k
        go_wp2
        go_loopw [3, 5] (fun t i wr => ∃ j : Nat, j ≤ k ∧ i = .int .i64 j ∧ t = .int .i64 ((M.inv C k + M.invAt C k j : Nat) : Int) ∧ Below w.heap.size w wr) (fun _ i _ => k - (intOf i).toNat)
        case atStart => exact ⟨0, Nat.zero_le _, rfl, rfl, hb⟩
        case round =>
          obtain ⟨j, hj, rfl, rfl, hb2⟩ := hrel
          have hz2 := hb2.size
          have hjn := M.invAt_le C k j
          by_cases hjk : j < k
          · obtain ⟨b, o, rfl, c0, c1⟩ := (HL.out.on hb2) k hlt
            obtain ⟨b2, o2, e2, d0, d1⟩ := (HL.out.on hb2) j (by omega)
            cases e2
            clear c0 d0
            cases hl : M.less (C k) (C j)
            · have HN := Lib.hid (M.invAt_no hl)
              rcases M.less_no hl with h1 | ⟨h1, h2⟩
              all_goals
                clear hl
                go_wp2
                go_region
                all_goals
                  go_wp2
                  exact ⟨⟨j + 1, by omega, by go_num, by refine congrArg (Value.int .i64) ?_; have := HN.out; omega, hb2.drew⟩, by simp [intOf]; omega⟩
            · have HN := Lib.hid (M.invAt_yes hl)
              obtain ⟨h1, h2⟩ := M.less_yes hl
              clear hl
              go_wp2
              go_region
              all_goals
                go_wp2
                exact ⟨⟨j + 1, by omega, by go_num, by refine congrArg (Value.int .i64) ?_; have := HN.out; omega, hb2.drew⟩, by simp [intOf]; omega⟩
          · obtain rfl : j = k := by omega
            go_wp2
            go_roundw
            case rel => exact ⟨j + 1, by omega, by go_num, by refine congrArg (Value.int .i64) ?_; have := HSU.out; omega, hb2⟩
            case measure => simp [intOf]; omega
      · obtain rfl : k = n := by omega
        go_wp2
        go_ret
        exact ⟨ret_int hv.out.symm, hb⟩
end Go.Proofs.Ytmekhbekjfandaa
