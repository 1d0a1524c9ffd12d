/-
  What FindLetter returns, in the program and in the model of the document.
-/
import Derived.Test.YtolliagobjgjfaaSortM
import Derived.Test.YtolliagobjgjfaaBatch
namespace Go.Proofs.Ytolliagobjgjfaa
open Go.RowKit
open Go.PlainAid (bt get_bt bt_nonneg bt_le)

set_option maxHeartbeats 1000000 in
theorem spec_FindLetter (w : World) (a : Option Addr) (n c : Nat) (I : Nat → Int) (C : Nat → ByteArray) (h : Lts w a n I C) (hf : Fits n I C) (hn : n ≤ 1048576) (x : Int) :
    Calls Try.prog 50 #[.slice a n c, .int .i64 x] w fun e w' => e = .returned (.int .i64 (M.findLetter n I C x)) ∧ Below w.heap.size w w' := by
  have HF := Lib.hid hf
  have HL := Lib.hid h
  clear h hf
  have h0 := Below.refl w.heap.size w
  cases hb : M.batch n I C
  · have hv := Lib.hid (M.findLetter_no (x := x) hb)
    have hpos := M.batch_pos hb
    have HB := Lib.hid hb
    clear hb
    go_enter Try.func50, Try.ntmps50
    go_wp2
    refine wp_loop_rounds 1 ?_
    rw [rounds_succ]
    go_wp2_with fail
    refine (spec_BatchValid _ _ _ _ _ _ HL.out HF.out hn).mono ?_
    rw [HB.out]
    rintro e w1 ⟨rfl, hb1⟩
    go_wp2
    go_ret
    exact ⟨ret_int hv.out.symm, hb1⟩
  · have hv := Lib.hid (M.findLetter_yes (x := x) hb)
    have hn6 := (M.batch_yes hb).1
    have HB := Lib.hid hb
    clear hb
    go_enter Try.func50, Try.ntmps50
    go_wp2
    go_loopw [5] (fun i wr => ∃ k : Nat, k ≤ n ∧ i = .int .i64 k ∧ Hid (∀ j, j < k → I j ≠ x) ∧ Below w.heap.size w wr) (fun i _ => n - (intOf i).toNat)
    case atStart => exact ⟨0, Nat.zero_le _, rfl, fun j hj => absurd hj (by omega), h0⟩
    case round =>
      obtain ⟨k, hk, rfl, hno, hb⟩ := hrel
      have hz := hb.size
      by_cases hlt : k < n
      · have HS0 := Lib.hid (HL.out.on hb)
        go_wp2_with fail
        refine (spec_BatchValid _ _ _ _ _ _ HS0.out HF.out hn).mono ?_
        rw [HB.out]
        rintro e w1 ⟨rfl, hb1⟩
        have hbb := step hb hb1
        obtain ⟨b, o, rfl, c0, c1⟩ := (HS0.out.on hb1) k hlt
        by_cases he : I k = x
        · have hd : (I k == x) = true := by simpa using he
          have HE := Lib.hid he
          clear he
          go_wp2
          go_ret
          exact ⟨ret_int (by rw [hv.out, M.find_hit hlt HE.out hno]), hbb⟩
        · have hd : (I k == x) = false := by simpa using he
          have HE := Lib.hid he
          clear he
          go_wp2
          go_roundw
          case rel => exact ⟨k + 1, by omega, by go_num, M.find_below hno HE.out, hbb⟩
          case measure => simp [intOf]; omega
      · obtain rfl : k = n := by omega
        go_wp2
        go_ret
        exact ⟨ret_int (by rw [hv.out, M.find_miss hno]), hb⟩
end Go.Proofs.Ytolliagobjgjfaa
