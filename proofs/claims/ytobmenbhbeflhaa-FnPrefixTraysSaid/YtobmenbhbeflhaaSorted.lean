/-
  What SortedBatch and Inversions return, in the program and in the model of the document.
-/
import Derived.Test.YtobmenbhbeflhaaSortM
import Derived.Test.YtobmenbhbeflhaaBatch
import Derived.WalkLawsBesides
namespace Go.Proofs.Ytobmenbhbeflhaa
open Go.RowKit
open Go.PlainAid (bt get_bt bt_nonneg bt_le)

set_option maxHeartbeats 400000 in
theorem before_any (w : World) (a : Option Addr) (n c : Nat) (I : Nat → Int) (C : Nat → ByteArray) (h : Lts w a n I C) (x y : Int) (i j : Nat) (hx : x = i) (hy : y = j) (hi : i < n) (hj : j < n) :
    Calls Try.prog 29 #[.slice a n c, .int .i64 x, .int .i64 y] w fun e w' => e = .returned (.bool (M.less (C i) (C j))) ∧ Below w.heap.size w w' := by
  subst hx hy
  obtain ⟨b, o, rfl, c0, c1⟩ := h i hi
  obtain ⟨b2, o2, e2, d0, d1⟩ := h j hj
  cases e2
  go_enter Try.func29, Try.ntmps29
  go_wp2
  go_region
  all_goals
    go_wp2
    go_ret
    exact ⟨rfl, by go_grown⟩

set_option maxHeartbeats 1000000 in
theorem impl_SortedBatch (w : World) (a : Option Addr) (n c : Nat) (I : Nat → Int) (C : Nat → ByteArray) (h : Lts w a n I C) (hf : Fits n I C) :
    Calls Try.prog 12 #[.slice a n c] w fun e w' => e = .returned (.bool (M.sorted n I C)) ∧ Below w.heap.size w w' := by
  have HF := Lib.hid hf
  have HL := Lib.hid h
  clear h hf
  cases hb : M.batch n I C
  · have hv := Lib.hid (M.sorted_no hb)
    have HB := Lib.hid hb
    clear hb
    go_enter Try.func12, Try.ntmps12
    go_wp2_with (go_at_call 22; refine (impl_BatchValid _ _ _ _ _ _ HL.out HF.out).mono ?_; rw [HB.out]; rintro e w1 ⟨rfl, hb1⟩)
    go_ret
    exact ⟨ret_bool hv.out.symm, hb1⟩
  · have hv := Lib.hid (M.sorted_yes hb)
    have hn := (M.batch_yes hb).1
    have HB := Lib.hid hb
    clear hb
    go_enter Try.func12, Try.ntmps12
    go_wp2_with (go_at_call 22; refine (impl_BatchValid _ _ _ _ _ _ HL.out HF.out).mono ?_; rw [HB.out]; rintro e w1 ⟨rfl, hb1⟩)
    go_loopw [3] (fun i wr => ∃ k : Nat, k ≤ n ∧ i = .int .i64 ((k + 1 : Nat) : Int) ∧ Hid (M.asc C (k + 1) = true) ∧ Below w.heap.size w wr) (fun i _ => n + 1 - (intOf i).toNat)
    case atStart => exact ⟨0, Nat.zero_le _, rfl, rfl, hb1⟩
    case round =>
      obtain ⟨k, hk, rfl, ha, hb⟩ := hrel
      have hz := hb.size
      by_cases hlt : k + 1 < n
      · cases hl : M.less (C (k + 1)) (C k)
        · have HS := Lib.hid hl
          clear hl
          go_wp2_with (go_at_call 29; refine (before_any _ _ _ _ _ _ (HL.out.on hb) _ _ (k + 1) k (by omega) (by omega) hlt (by omega)).mono ?_; rw [HS.out]; rintro e w2 ⟨rfl, hb2⟩)
          go_roundw
          case rel => exact ⟨k + 1, by omega, by go_num, M.asc_succ ha.out HS.out, hb.trans (hb2.mono hz)⟩
          case measure => simp [intOf]; omega
        · have HS := Lib.hid hl
          clear hl
          go_wp2_with (go_at_call 29; refine (before_any _ _ _ _ _ _ (HL.out.on hb) _ _ (k + 1) k (by omega) (by omega) hlt (by omega)).mono ?_; rw [HS.out]; rintro e w2 ⟨rfl, hb2⟩)
          go_ret
          exact ⟨ret_bool (by rw [hv.out, M.asc_no hlt HS.out]), hb.trans (hb2.mono hz)⟩
      · go_wp2
        go_ret
        exact ⟨ret_bool (by rw [hv.out, M.asc_end ha.out (by omega)]), hb⟩

end Go.Proofs.Ytobmenbhbeflhaa
