/-
  What CapacityOf, LeastBins and LeastPasses return, in the program and in the model of the document.
-/
import Derived.Test.YthnaglnmmgpiaaaMgN1
import Derived.Test.YthnaglnmmgpiaaaCapM
import Derived.Handy
import Derived.BigQuiet
import Derived.Deep.QuietTactic
import Derived.WalkLawsBesides
import Derived.Laws.EntriesVeiled
namespace Go.Proofs.Ythnaglnmmgpiaaa
open Go.RowKit

theorem step0 {w a b : World} (h : Below w.heap.size w a) (k : Below a.heap.size a b) : Below w.heap.size w b := h.trans (k.mono h.size)
theorem below_drewN0 {B : Nat} {a w : World} (h : Below B a w) (n : Nat) : Below B a (w.drewN n) := ⟨h.os, h.tape, h.output, h.size, h.block⟩
set_option maxHeartbeats 400000 in
theorem impl_power (b : Int) (k : Nat) (w : World) (b0 : 0 ≤ b) (b1 : b ≤ 16) (hk : k ≤ 4) :
    Calls Try.prog 55 #[.int .i64 b, .int .i64 k] w fun e w' => e = .returned (.int .i64 (M.pw b k)) ∧ w = w' := by
  have HP := Lib.hid (fun j (hj : j ≤ 4) => M.pw_bd b j b0 b1 hj)
  go_enter Try.func55, Try.ntmps55
  go_wp2
  go_loop [5, 7] (fun n i => ∃ j : Nat, j ≤ k ∧ i = .int .i64 j ∧ n = .int .i64 (M.pw b j)) (fun _ i => k - (intOf i).toNat)
  case atStart => exact ⟨0, Nat.zero_le _, rfl, rfl⟩
  case round =>
    obtain ⟨j, hj, rfl, rfl⟩ := hrel
    by_cases hlt : j < k
    · obtain ⟨l1, l2⟩ := HP.out j (by omega)
      obtain ⟨l3, l4⟩ := HP.out (j + 1) (by omega)
      rw [M.pw_succ] at l3 l4
      have hs := Lib.hid (M.pw_succ b j)
      have hw : IntKind.i64.wrap (M.pw b j * b) = M.pw b j * b := IntWalk.i64_in _ (by omega)
      go_wp2
      go_round
      case rel => exact ⟨j + 1, by omega, by go_num, by rw [hs.out]⟩
      case measure => simp [intOf]; omega
    · obtain rfl : j = k := by omega
      go_wp2
      go_ret
      exact ⟨rfl, rfl⟩

set_option maxHeartbeats 400000 in
theorem spec_l3Power (b : Int) (k : Nat) (w : World) (b0 : 0 ≤ b) (b1 : b ≤ 16) (hk : k ≤ 4) :
    Calls Try.prog 44 #[.int .i64 b, .int .i64 k] w fun e w' => e = .returned (.int .i64 (M.pw b k)) ∧ w = w' := by
  have HP := Lib.hid (fun j (hj : j ≤ 4) => M.pw_bd b j b0 b1 hj)
  go_enter Try.func44, Try.ntmps44
  go_wp2
  go_loop [5, 6] (fun n i => ∃ j : Nat, j ≤ k ∧ i = .int .i64 j ∧ n = .int .i64 (M.pw b j)) (fun _ i => k - (intOf i).toNat)
  case atStart => exact ⟨0, Nat.zero_le _, rfl, rfl⟩
  case round =>
    obtain ⟨j, hj, rfl, rfl⟩ := hrel
    by_cases hlt : j < k
    · obtain ⟨l1, l2⟩ := HP.out j (by omega)
      obtain ⟨l3, l4⟩ := HP.out (j + 1) (by omega)
      rw [M.pw_succ] at l3 l4
      have hs := Lib.hid (M.pw_succ b j)
      have hw : IntKind.i64.wrap (M.pw b j * b) = M.pw b j * b := IntWalk.i64_in _ (by omega)
      have hmin : min (M.pw b j * b) 100000 = M.pw b j * b := by omega
      go_wp2
      go_round
      case rel => exact ⟨j + 1, by omega, by go_num, by rw [hs.out]⟩
      case measure => simp [intOf]; omega
    · obtain rfl : j = k := by omega
      go_wp2
      go_ret
      exact ⟨rfl, rfl⟩

set_option maxHeartbeats 400000 in
theorem spec_l3Shape (b p : Int) (w : World) :
    Calls Try.prog 42 #[.int .i64 b, .int .i64 p] w fun e w' => e = .returned (.bool (M.shape b p)) ∧ w = w' := by
  by_cases h1 : 2 ≤ b ∧ b ≤ 16
  · by_cases h2 : 1 ≤ p ∧ p ≤ 4
    · have hv := Lib.hid (show M.shape b p = true from decide_eq_true (by omega))
      have d1 := decide_eq_true h1
      have d2 := decide_eq_true h2
      clear h1 h2
      go_enter Try.func42, Try.ntmps42
      go_wp2_with fail
      refine (spec_l1In b 2 16 _).mono ?_
      rw [d1]
      rintro e w1 ⟨rfl, rfl⟩
      go_wp2_with fail
      refine (spec_l1In p 1 4 _).mono ?_
      rw [d2]
      rintro e w1 ⟨rfl, rfl⟩
      go_wp2
      go_ret
      exact ⟨ret_bool hv.out.symm, rfl⟩
    · have hv := Lib.hid (show M.shape b p = false from decide_eq_false (by omega))
      have d1 := decide_eq_true h1
      have d2 := decide_eq_false h2
      clear h1 h2
      go_enter Try.func42, Try.ntmps42
      go_wp2_with fail
      refine (spec_l1In b 2 16 _).mono ?_
      rw [d1]
      rintro e w1 ⟨rfl, rfl⟩
      go_wp2_with fail
      refine (spec_l1In p 1 4 _).mono ?_
      rw [d2]
      rintro e w1 ⟨rfl, rfl⟩
      go_wp2
      go_ret
      exact ⟨ret_bool hv.out.symm, rfl⟩
  · have hv := Lib.hid (show M.shape b p = false from decide_eq_false (by omega))
    have d1 := decide_eq_false h1
    clear h1
    go_enter Try.func42, Try.ntmps42
    go_wp2_with fail
    refine (spec_l1In b 2 16 _).mono ?_
    rw [d1]
    rintro e w1 ⟨rfl, rfl⟩
    go_wp2
    go_ret
    exact ⟨ret_bool hv.out.symm, rfl⟩

set_option maxHeartbeats 400000 in
theorem impl_CapacityOf (b p : Int) (w : World) :
    Calls Try.prog 34 #[.int .i64 b, .int .i64 p] w fun e w' => e = .returned (.int .i64 (M.cap b p)) ∧ w = w' := by
  cases hs : M.shape b p
  · have hv := Lib.hid (M.cap_no hs)
    rcases M.shape_no hs with h | h | h | h
    · clear hs
      go_enter Try.func34, Try.ntmps34
      go_wp2
      go_ret
      exact ⟨ret_int hv.out.symm, rfl⟩
    · clear hs
      by_cases h1 : b < 2
      · omega
      go_enter Try.func34, Try.ntmps34
      go_wp2
      go_ret
      exact ⟨ret_int hv.out.symm, rfl⟩
    · clear hs
      by_cases h1 : b < 2
      · go_enter Try.func34, Try.ntmps34
        go_wp2
        go_ret
        exact ⟨ret_int hv.out.symm, rfl⟩
      by_cases h2 : 16 < b
      · go_enter Try.func34, Try.ntmps34
        go_wp2
        go_ret
        exact ⟨ret_int hv.out.symm, rfl⟩
      go_enter Try.func34, Try.ntmps34
      go_wp2
      go_ret
      exact ⟨ret_int hv.out.symm, rfl⟩
    · clear hs
      by_cases h1 : b < 2
      · go_enter Try.func34, Try.ntmps34
        go_wp2
        go_ret
        exact ⟨ret_int hv.out.symm, rfl⟩
      by_cases h2 : 16 < b
      · go_enter Try.func34, Try.ntmps34
        go_wp2
        go_ret
        exact ⟨ret_int hv.out.symm, rfl⟩
      by_cases h3 : p < 1
      · omega
      go_enter Try.func34, Try.ntmps34
      go_wp2
      go_ret
      exact ⟨ret_int hv.out.symm, rfl⟩
  · have hv := Lib.hid (M.cap_yes hs)
    obtain ⟨s1, s2, s3, s4⟩ := M.shape_yes hs
    obtain ⟨k, rfl⟩ := Int.eq_ofNat_of_zero_le (show 0 ≤ p by omega)
    clear hs
    go_enter Try.func34, Try.ntmps34
    go_wp2_with fail
    refine (impl_power b k _ (by omega) s2 (by omega)).mono ?_
    rintro e w1 ⟨rfl, rfl⟩
    go_wp2
    go_ret
    exact ⟨ret_int (by rw [hv.out, Int.toNat_natCast]), rfl⟩

set_option maxHeartbeats 1000000 in
theorem spec_LeastPasses (w : World) (c p : Int) :
    Calls Try.prog 48 #[.int .i64 c, .int .i64 p] w fun e w' => e = .returned (.int .i64 (M.leastPasses c p)) ∧ w = w' := by
  by_cases hc : c < 0
  · have hv := Lib.hid (M.leastPasses_neg (p := p) hc)
    go_enter Try.func48, Try.ntmps48
    go_wp2
    refine wp_loop_rounds 1 ?_
    rw [rounds_succ]
    go_wp2
    go_ret
    exact ⟨ret_int hv.out.symm, rfl⟩
  by_cases hp : p < 2 ∨ 16 < p
  · have hv := Lib.hid (M.leastPasses_shapeless (c := c) hp)
    have hs : M.shape p 1 = false := decide_eq_false (by omega)
    have HS := Lib.hid hs
    clear hs hp
    have c0 : 0 ≤ c := by omega
    go_enter Try.func48, Try.ntmps48
    go_wp2
    refine wp_loop_rounds 1 ?_
    rw [rounds_succ]
    go_wp2_with fail
    refine (spec_l3Shape p 1 _).mono ?_
    rw [HS.out]
    rintro e w1 ⟨rfl, rfl⟩
    go_wp2
    go_ret
    exact ⟨ret_int hv.out.symm, rfl⟩
  have hv := Lib.hid (M.leastPasses_pos (p := p) (show 0 ≤ c by omega))
  have c0 : 0 ≤ c := by omega
  have hp1 : 2 ≤ p ∧ p ≤ 16 := by omega
  clear hp hc
  obtain ⟨q, rfl⟩ := Int.eq_ofNat_of_zero_le (show 0 ≤ p by omega)
  go_enter Try.func48, Try.ntmps48
  go_wp2
  go_loop [5] (fun i => ∃ (j k : Nat), j + k = 5 ∧ 1 ≤ j ∧ i = .int .i64 j ∧ Hid (M.least (fun b => M.cap q b) c 4 1 = M.least (fun b => M.cap q b) c k j)) (fun i => 5 - (intOf i).toNat)
  case atStart => exact ⟨1, 4, by omega, by omega, rfl, rfl⟩
  case round =>
    obtain ⟨j, k, hjk, j0, rfl, hl⟩ := hrel
    by_cases hlt : j < 5
    · obtain ⟨k, rfl⟩ : ∃ m, k = m + 1 := ⟨k - 1, by omega⟩
      have hs : M.shape q j = true := decide_eq_true (by omega)
      have hcap := Lib.hid (M.cap_yes hs)
      have HS := Lib.hid hs
      have hpb := M.pw_bd (q : Int) j (by omega) (by omega) (by omega)
      clear hs
      by_cases hc : c ≤ M.pw q j
      · have hh := Lib.hid (M.least_hit (f := fun b => M.cap q b) (c := c) (x := (j : Int)) k (by show c ≤ M.cap q j; rw [hcap.out, Int.toNat_natCast]; exact hc))
        go_wp2_with fail
        refine (spec_l3Shape q j _).mono ?_
        rw [HS.out]
        rintro e w1 ⟨rfl, rfl⟩
        go_wp2_with fail
        refine (spec_l3Power q j _ (by omega) (by omega) (by omega)).mono ?_
        rintro e w1 ⟨rfl, rfl⟩
        go_wp2
        go_ret
        exact ⟨ret_int (by rw [hv.out, hl.out, hh.out]), rfl⟩
      · have hh := Lib.hid (M.least_miss (f := fun b => M.cap q b) (c := c) (x := (j : Int)) k (by show ¬ c ≤ M.cap q j; rw [hcap.out, Int.toNat_natCast]; exact hc))
        go_wp2_with fail
        refine (spec_l3Shape q j _).mono ?_
        rw [HS.out]
        rintro e w1 ⟨rfl, rfl⟩
        go_wp2_with fail
        refine (spec_l3Power q j _ (by omega) (by omega) (by omega)).mono ?_
        rintro e w1 ⟨rfl, rfl⟩
        go_wp2
        go_round
        case rel => exact ⟨j + 1, k, by omega, by omega, by go_num, hl.out.trans hh.out⟩
        case measure => simp [intOf]; omega
    · obtain rfl : k = 0 := by omega
      obtain rfl : j = 5 := by omega
      have hs : M.shape q 5 = false := decide_eq_false (by omega)
      go_wp2_with fail
      refine (spec_l3Shape q 5 _).mono ?_
      rw [hs]
      rintro e w1 ⟨rfl, rfl⟩
      go_wp2
      go_ret
      exact ⟨ret_int (by rw [hv.out, hl.out]; rfl), rfl⟩

end Go.Proofs.Ythnaglnmmgpiaaa
