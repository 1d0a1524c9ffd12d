/-
  What SortedBatch and Inversions return, in the program and in the model of the document.
-/
import Derived.Test.YtedhenffolfkeaaPureA
import Derived.Test.YtedhenffolfkeaaBatch
import Derived.WalkLawsBesides
namespace Go.Proofs.Ytedhenffolfkeaa
open Go.RowKit
open Go.PlainAid (bt get_bt bt_nonneg bt_le)

set_option maxHeartbeats 400000 in
theorem before_any (w : World) (a : Option Addr) (n c : Nat) (I : Nat → Int) (C : Nat → ByteArray) (h : Lts w a n I C) (x y : Int) (i j : Nat) (hx : x = i) (hy : y = j) (hi : i < n) (hj : j < n) :
    Calls Try.prog 39 #[.slice a n c, .int .i64 x, .int .i64 y] w fun e w' => e = .returned (.bool (M.less (C i) (C j))) ∧ Below w.heap.size w w' := by
  subst hx hy
  obtain ⟨b, o, rfl, c0, c1⟩ := h i hi
  obtain ⟨b2, o2, e2, d0, d1⟩ := h j hj
  cases e2
  go_enter Try.func39, Try.ntmps39
  go_wp2
  go_region
  all_goals
    go_wp2
    go_ret
    exact ⟨rfl, by go_grown⟩

set_option maxHeartbeats 1000000 in
theorem impl_SortedBatch (w : World) (a : Option Addr) (n c : Nat) (I : Nat → Int) (C : Nat → ByteArray) (h : Lts w a n I C) (hf : Fits n I C) :
    Calls Try.prog 17 #[.slice a n c] w fun e w' => e = .returned (.bool (M.sorted n I C)) ∧ Below w.heap.size w w' := by
  have HF := Lib.hid hf
  have HL := Lib.hid h
  clear h hf
  cases hb : M.batch n I C
  · have hv := Lib.hid (M.sorted_no hb)
    have HB := Lib.hid hb
    clear hb
    go_enter Try.func17, Try.ntmps17
    go_wp2_with (go_at_call 26; refine (impl_BatchValid _ _ _ _ _ _ HL.out HF.out).mono ?_; rw [HB.out]; rintro e w1 ⟨rfl, hb1⟩)
    go_ret
    exact ⟨ret_bool hv.out.symm, hb1⟩
  · have hv := Lib.hid (M.sorted_yes hb)
    have hn := (M.batch_yes hb).1
    have HB := Lib.hid hb
    clear hb
    go_enter Try.func17, Try.ntmps17
    go_wp2_with (go_at_call 26; refine (impl_BatchValid _ _ _ _ _ _ HL.out HF.out).mono ?_; rw [HB.out]; rintro e w1 ⟨rfl, hb1⟩)
    go_loopw [3] (fun i wr => ∃ k : Nat, k ≤ n ∧ i = .int .i64 ((k + 1 : Nat) : Int) ∧ Hid (M.asc C (k + 1) = true) ∧ Below w.heap.size w wr) (fun i _ => n + 1 - (intOf i).toNat)
    case atStart => exact ⟨0, Nat.zero_le _, rfl, rfl, hb1⟩
    case round =>
      obtain ⟨k, hk, rfl, ha, hb⟩ := hrel
      have hz := hb.size
      by_cases hlt : k + 1 < n
      · cases hl : M.less (C (k + 1)) (C k)
        · have HS := Lib.hid hl
          clear hl
          go_wp2_with (go_at_call 39; refine (before_any _ _ _ _ _ _ (HL.out.on hb) _ _ (k + 1) k (by omega) (by omega) hlt (by omega)).mono ?_; rw [HS.out]; rintro e w2 ⟨rfl, hb2⟩)
          go_roundw
          case rel => exact ⟨k + 1, by omega, by go_num, M.asc_succ ha.out HS.out, hb.trans (hb2.mono hz)⟩
          case measure => simp [intOf]; omega
        · have HS := Lib.hid hl
          clear hl
          go_wp2_with (go_at_call 39; refine (before_any _ _ _ _ _ _ (HL.out.on hb) _ _ (k + 1) k (by omega) (by omega) hlt (by omega)).mono ?_; rw [HS.out]; rintro e w2 ⟨rfl, hb2⟩)
          go_ret
          exact ⟨ret_bool (by rw [hv.out, M.asc_no hlt HS.out]), hb.trans (hb2.mono hz)⟩
      · go_wp2
        go_ret
        exact ⟨ret_bool (by rw [hv.out, M.asc_end ha.out (by omega)]), hb⟩

set_option maxHeartbeats 1000000 in
theorem spec_SortedBatch (w : World) (a : Option Addr) (n c : Nat) (I : Nat → Int) (C : Nat → ByteArray) (h : Lts w a n I C) (hf : Fits n I C) (hn : n ≤ 1048576) :
    Calls Try.prog 49 #[.slice a n c] w fun e w' => e = .returned (.bool (M.sorted n I C)) ∧ Below w.heap.size w w' := by
  have HF := Lib.hid hf
  have HL := Lib.hid h
  clear h hf
  have h0 := Below.refl w.heap.size w
  cases hb : M.batch n I C
  · have hv := Lib.hid (M.sorted_no hb)
    have HB := Lib.hid hb
    clear hb
    by_cases h1 : 1 < n
    · go_enter Try.func49, Try.ntmps49
      go_wp2
      refine wp_loop_rounds 1 ?_
      rw [rounds_succ]
      go_wp2_with fail
      refine (spec_BatchValid _ _ _ _ _ _ HL.out HF.out hn).mono ?_
      rw [HB.out]
      rintro e w1 ⟨rfl, hb1⟩
      go_wp2_with fail
      refine (spec_BatchValid _ _ _ _ _ _ (HL.out.on hb1) HF.out hn).mono ?_
      rw [HB.out]
      rintro e w2 ⟨rfl, hb2⟩
      go_wp2
      go_ret
      exact ⟨ret_bool hv.out.symm, step hb1 hb2⟩
    · go_enter Try.func49, Try.ntmps49
      go_wp2
      refine wp_loop_rounds 1 ?_
      rw [rounds_succ]
      go_wp2_with fail
      refine (spec_BatchValid _ _ _ _ _ _ HL.out HF.out hn).mono ?_
      rw [HB.out]
      rintro e w1 ⟨rfl, hb1⟩
      go_wp2
      go_ret
      exact ⟨ret_bool hv.out.symm, hb1⟩
  · have hv := Lib.hid (M.sorted_yes hb)
    have hn6 := (M.batch_yes hb).1
    have HB := Lib.hid hb
    clear hb
    go_enter Try.func49, Try.ntmps49
    go_wp2
    go_loopw [3] (fun i wr => ∃ k : Nat, k ≤ n ∧ i = .int .i64 ((k + 1 : Nat) : Int) ∧ Hid (M.asc C (k + 1) = true) ∧ Below w.heap.size w wr) (fun i _ => n + 1 - (intOf i).toNat)
    case atStart => exact ⟨0, Nat.zero_le _, rfl, rfl, h0⟩
    case round =>
      obtain ⟨k, hk, rfl, ha, hb⟩ := hrel
      have hz := hb.size
      by_cases hlt : k + 1 < n
      · have HS0 := Lib.hid (HL.out.on hb)
        go_wp2_with fail
        refine (spec_BatchValid _ _ _ _ _ _ HS0.out HF.out hn).mono ?_
        rw [HB.out]
        rintro e w1 ⟨rfl, hb1⟩
        have hbb := step hb hb1
        have HS1 := Lib.hid (HS0.out.on hb1)
        obtain ⟨b, o, rfl, c0, c1⟩ := HS1.out k (by omega)
        obtain ⟨b2, o2, e2, d0, d1⟩ := HS1.out (k + 1) hlt
        cases e2
        have d1' : w1.cell? ⟨b, o + (k + 1) * 2 + 1, none⟩ = some (.string (C (k + 1))) := d1
        clear d0
        cases hl : M.less (C (k + 1)) (C k)
        · have HS := Lib.hid hl
          have hl2 : Op.bytesLess (C (k + 1)).toList (C k).toList = false := hl
          clear hl
          go_wp2
          go_region
          all_goals
            go_wp2
            exact ⟨⟨k + 1, by omega, by go_num, M.asc_succ ha.out HS.out, hbb.drew⟩, by simp [intOf]; omega⟩
        · have HS := Lib.hid hl
          have hl2 : Op.bytesLess (C (k + 1)).toList (C k).toList = true := hl
          clear hl
          go_wp2
          go_region
          all_goals
            go_wp2
            go_ret
            exact ⟨ret_bool (by rw [hv.out, M.asc_no hlt HS.out]), hbb.drew⟩
      · go_wp2_with fail
        refine (spec_BatchValid _ _ _ _ _ _ (HL.out.on hb) HF.out hn).mono ?_
        rw [HB.out]
        rintro e w1 ⟨rfl, hb1⟩
        go_wp2
        go_ret
        exact ⟨ret_bool (by rw [hv.out, M.asc_end ha.out (by omega)]), step hb hb1⟩
end Go.Proofs.Ytedhenffolfkeaa
