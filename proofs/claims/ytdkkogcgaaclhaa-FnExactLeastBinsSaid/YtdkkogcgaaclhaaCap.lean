/-
  What CapacityOf, LeastBins and LeastPasses return, in the program and in the model of the document.
-/
import Derived.Test.YtdkkogcgaaclhaaIn
import Derived.Test.YtdkkogcgaaclhaaCapM
import Derived.Handy
import Derived.BigQuiet
import Derived.Deep.QuietTactic
import Derived.WalkLawsBesides
import Derived.Laws.EntriesVeiled
namespace Go.Proofs.Ytdkkogcgaaclhaa
open Go.RowKit

theorem step0 {w a b : World} (h : Below w.heap.size w a) (k : Below a.heap.size a b) : Below w.heap.size w b := h.trans (k.mono h.size)
theorem below_drewN0 {B : Nat} {a w : World} (h : Below B a w) (n : Nat) : Below B a (w.drewN n) := ⟨h.os, h.tape, h.output, h.size, h.block⟩
set_option maxHeartbeats 400000 in
theorem impl_power (b : Int) (k : Nat) (w : World) (b0 : 0 ≤ b) (b1 : b ≤ 16) (hk : k ≤ 4) :
    Calls Try.prog 20 #[.int .i64 b, .int .i64 k] w fun e w' => e = .returned (.int .i64 (M.pw b k)) ∧ w = w' := by
  have HP := Lib.hid (fun j (hj : j ≤ 4) => M.pw_bd b j b0 b1 hj)
  go_enter Try.func20, Try.ntmps20
  go_wp2
  go_loop [5, 7] (fun n i => ∃ j : Nat, j ≤ k ∧ i = .int .i64 j ∧ n = .int .i64 (M.pw b j)) (fun _ i => k - (intOf i).toNat)
  case atStart => exact ⟨0, Nat.zero_le _, rfl, rfl⟩
  case round =>
    obtain ⟨j, hj, rfl, rfl⟩ := hrel
    by_cases hlt : j < k
    · obtain ⟨l1, l2⟩ := HP.out j (by omega)
      obtain ⟨l3, l4⟩ := HP.out (j + 1) (by omega)
      rw [M.pw_succ] at l3 l4
      have hs := Lib.hid (M.pw_succ b j)
      have hw : IntKind.i64.wrap (M.pw b j * b) = M.pw b j * b := IntWalk.i64_in _ (by omega)
      go_wp2
      go_round
      case rel => exact ⟨j + 1, by omega, by go_num, by rw [hs.out]⟩
      case measure => simp [intOf]; omega
    · obtain rfl : j = k := by omega
      go_wp2
      go_ret
      exact ⟨rfl, rfl⟩

set_option maxHeartbeats 400000 in
theorem spec_l3Power (b : Int) (k : Nat) (w : World) (b0 : 0 ≤ b) (b1 : b ≤ 16) (hk : k ≤ 4) :
    Calls Try.prog 19 #[.int .i64 b, .int .i64 k] w fun e w' => e = .returned (.int .i64 (M.pw b k)) ∧ w = w' := by
  have HP := Lib.hid (fun j (hj : j ≤ 4) => M.pw_bd b j b0 b1 hj)
  go_enter Try.func19, Try.ntmps19
  go_wp2
  go_loop [5, 6] (fun n i => ∃ j : Nat, j ≤ k ∧ i = .int .i64 j ∧ n = .int .i64 (M.pw b j)) (fun _ i => k - (intOf i).toNat)
  case atStart => exact ⟨0, Nat.zero_le _, rfl, rfl⟩
  case round =>
    obtain ⟨j, hj, rfl, rfl⟩ := hrel
    by_cases hlt : j < k
    · obtain ⟨l1, l2⟩ := HP.out j (by omega)
      obtain ⟨l3, l4⟩ := HP.out (j + 1) (by omega)
      rw [M.pw_succ] at l3 l4
      have hs := Lib.hid (M.pw_succ b j)
      have hw : IntKind.i64.wrap (M.pw b j * b) = M.pw b j * b := IntWalk.i64_in _ (by omega)
      have hmin : min (M.pw b j * b) 100000 = M.pw b j * b := by omega
      go_wp2
      go_round
      case rel => exact ⟨j + 1, by omega, by go_num, by rw [hs.out]⟩
      case measure => simp [intOf]; omega
    · obtain rfl : j = k := by omega
      go_wp2
      go_ret
      exact ⟨rfl, rfl⟩

set_option maxHeartbeats 400000 in
theorem spec_l3Shape (b p : Int) (w : World) :
    Calls Try.prog 18 #[.int .i64 b, .int .i64 p] w fun e w' => e = .returned (.bool (M.shape b p)) ∧ w = w' := by
  by_cases h1 : 2 ≤ b ∧ b ≤ 16
  · by_cases h2 : 1 ≤ p ∧ p ≤ 4
    · have hv := Lib.hid (show M.shape b p = true from decide_eq_true (by omega))
      have d1 := decide_eq_true h1
      have d2 := decide_eq_true h2
      clear h1 h2
      go_enter Try.func18, Try.ntmps18
      go_wp2_with fail
      refine (spec_l1In b 2 16 _).mono ?_
      rw [d1]
      rintro e w1 ⟨rfl, rfl⟩
      go_wp2_with fail
      refine (spec_l1In p 1 4 _).mono ?_
      rw [d2]
      rintro e w1 ⟨rfl, rfl⟩
      go_wp2
      go_ret
      exact ⟨ret_bool hv.out.symm, rfl⟩
    · have hv := Lib.hid (show M.shape b p = false from decide_eq_false (by omega))
      have d1 := decide_eq_true h1
      have d2 := decide_eq_false h2
      clear h1 h2
      go_enter Try.func18, Try.ntmps18
      go_wp2_with fail
      refine (spec_l1In b 2 16 _).mono ?_
      rw [d1]
      rintro e w1 ⟨rfl, rfl⟩
      go_wp2_with fail
      refine (spec_l1In p 1 4 _).mono ?_
      rw [d2]
      rintro e w1 ⟨rfl, rfl⟩
      go_wp2
      go_ret
      exact ⟨ret_bool hv.out.symm, rfl⟩
  · have hv := Lib.hid (show M.shape b p = false from decide_eq_false (by omega))
    have d1 := decide_eq_false h1
    clear h1
    go_enter Try.func18, Try.ntmps18
    go_wp2_with fail
    refine (spec_l1In b 2 16 _).mono ?_
    rw [d1]
    rintro e w1 ⟨rfl, rfl⟩
    go_wp2
    go_ret
    exact ⟨ret_bool hv.out.symm, rfl⟩

set_option maxHeartbeats 400000 in
theorem impl_CapacityOf (b p : Int) (w : World) :
    Calls Try.prog 10 #[.int .i64 b, .int .i64 p] w fun e w' => e = .returned (.int .i64 (M.cap b p)) ∧ w = w' := by
  cases hs : M.shape b p
  · have hv := Lib.hid (M.cap_no hs)
    rcases M.shape_no hs with h | h | h | h
    · clear hs
      go_enter Try.func10, Try.ntmps10
      go_wp2
      go_ret
      exact ⟨ret_int hv.out.symm, rfl⟩
    · clear hs
      by_cases h1 : b < 2
      · omega
      go_enter Try.func10, Try.ntmps10
      go_wp2
      go_ret
      exact ⟨ret_int hv.out.symm, rfl⟩
    · clear hs
      by_cases h1 : b < 2
      · go_enter Try.func10, Try.ntmps10
        go_wp2
        go_ret
        exact ⟨ret_int hv.out.symm, rfl⟩
      by_cases h2 : 16 < b
      · go_enter Try.func10, Try.ntmps10
        go_wp2
        go_ret
        exact ⟨ret_int hv.out.symm, rfl⟩
      go_enter Try.func10, Try.ntmps10
      go_wp2
      go_ret
      exact ⟨ret_int hv.out.symm, rfl⟩
    · clear hs
      by_cases h1 : b < 2
      · go_enter Try.func10, Try.ntmps10
        go_wp2
        go_ret
        exact ⟨ret_int hv.out.symm, rfl⟩
      by_cases h2 : 16 < b
      · go_enter Try.func10, Try.ntmps10
        go_wp2
        go_ret
        exact ⟨ret_int hv.out.symm, rfl⟩
      by_cases h3 : p < 1
      · omega
      go_enter Try.func10, Try.ntmps10
      go_wp2
      go_ret
      exact ⟨ret_int hv.out.symm, rfl⟩
  · have hv := Lib.hid (M.cap_yes hs)
    obtain ⟨s1, s2, s3, s4⟩ := M.shape_yes hs
    obtain ⟨k, rfl⟩ := Int.eq_ofNat_of_zero_le (show 0 ≤ p by omega)
    clear hs
    go_enter Try.func10, Try.ntmps10
    go_wp2_with fail
    refine (impl_power b k _ (by omega) s2 (by omega)).mono ?_
    rintro e w1 ⟨rfl, rfl⟩
    go_wp2
    go_ret
    exact ⟨ret_int (by rw [hv.out, Int.toNat_natCast]), rfl⟩

set_option maxHeartbeats 400000 in
theorem spec_CapacityOf (b p : Int) (w : World) :
    Calls Try.prog 9 #[.int .i64 b, .int .i64 p] w fun e w' => e = .returned (.int .i64 (M.cap b p)) ∧ w = w' := by
  cases hs : M.shape b p
  · have hv := Lib.hid (M.cap_no hs)
    go_enter Try.func9, Try.ntmps9
    go_wp2_with fail
    refine (spec_l3Shape b p _).mono ?_
    rw [hs]
    rintro e w1 ⟨rfl, rfl⟩
    go_wp2
    go_ret
    exact ⟨ret_int hv.out.symm, rfl⟩
  · have hv := Lib.hid (M.cap_yes hs)
    obtain ⟨s1, s2, s3, s4⟩ := M.shape_yes hs
    obtain ⟨k, rfl⟩ := Int.eq_ofNat_of_zero_le (show 0 ≤ p by omega)
    go_enter Try.func9, Try.ntmps9
    go_wp2_with fail
    refine (spec_l3Shape b k _).mono ?_
    rw [hs]
    rintro e w1 ⟨rfl, rfl⟩
    go_wp2_with fail
    refine (spec_l3Power b k _ (by omega) s2 (by omega)).mono ?_
    rintro e w1 ⟨rfl, rfl⟩
    go_wp2
    go_ret
    exact ⟨ret_int (by rw [hv.out, Int.toNat_natCast]), rfl⟩

/-- What the search for the least number reads: where it ends, how it asks for a capacity, how many codes there are, and itself. -/
def NestBins (w : World) (b1 b2 b3 b4 b5 : Nat) (c p : Int) : Prop :=
  w.cell? ⟨b1, 0, none⟩ = some (.int .i64 16) ∧ w.cell? ⟨b2, 0, none⟩ = some (.func (.func 22) #[] #[.pointer (some ⟨b5, 0, none⟩)]) ∧ w.cell? ⟨b3, 0, none⟩ = some (.int .i64 c) ∧
  w.cell? ⟨b4, 0, none⟩ = some (.func (.func 28) #[] #[.pointer (some ⟨b1, 0, none⟩), .pointer (some ⟨b2, 0, none⟩), .pointer (some ⟨b3, 0, none⟩), .pointer (some ⟨b4, 0, none⟩)]) ∧ w.cell? ⟨b5, 0, none⟩ = some (.int .i64 p)
theorem NestBins.drewN {w : World} {b1 b2 b3 b4 b5 : Nat} {c p : Int} (h : NestBins w b1 b2 b3 b4 b5 c p) (n : Nat) : NestBins (w.drewN n) b1 b2 b3 b4 b5 c p := h

set_option maxHeartbeats 400000 in
theorem cap_Bins (w : World) (b5 : Nat) (x p : Int) (h5 : w.cell? ⟨b5, 0, none⟩ = some (.int .i64 p)) :
    Calls Try.prog 22 #[.int .i64 x, .pointer (some ⟨b5, 0, none⟩)] w fun e w' => e = .returned (.int .i64 (M.cap x p)) ∧ w' = w := by
  go_enter Try.func22, Try.ntmps22
  go_wp2_with fail
  refine (impl_CapacityOf x p _).mono ?_
  rintro e w1 ⟨rfl, rfl⟩
  go_wp2
  go_ret
  exact ⟨rfl, rfl⟩

set_option maxHeartbeats 1000000 in
theorem search_Bins (b1 b2 b3 b4 b5 : Nat) (c p : Int) (c0 : 0 ≤ c) : ∀ (k : Nat) (x : Int) (w : World), NestBins w b1 b2 b3 b4 b5 c p → x + k = 17 → 2 ≤ x →
    Calls Try.prog 28 #[.int .i64 x, .pointer (some ⟨b1, 0, none⟩), .pointer (some ⟨b2, 0, none⟩), .pointer (some ⟨b3, 0, none⟩), .pointer (some ⟨b4, 0, none⟩)] w
      fun e w' => e = .returned (.int .i64 (M.least (fun b => M.cap b p) c k x)) ∧ ∃ n, w' = w.drewN n
  | 0, x, w, h, hx, x0 => by
    obtain ⟨h1, h2, h3, h4, h5⟩ := h
    have hv := Lib.hid (M.least_end (fun b => M.cap b p) c x)
    obtain rfl : x = 17 := by omega
    go_enter Try.func28, Try.ntmps28
    go_wp2
    go_ret
    exact ⟨ret_int hv.out.symm, 0, rfl⟩
  | k + 1, x, w, h, hx, x0 => by
    have hi := fun n => search_Bins b1 b2 b3 b4 b5 c p c0 k (x + 1) (w.drewN n) (h.drewN n) (by omega) (by omega)
    have HI := Lib.hid hi
    obtain ⟨h1, h2, h3, h4, h5⟩ := h
    have x1 : x ≤ 16 := by omega
    have hcb := M.cap_bd x p
    clear hi hx
    by_cases hc : c ≤ M.cap x p
    · have hv := Lib.hid (M.least_hit (f := fun b => M.cap b p) k hc)
      go_enter Try.func28, Try.ntmps28
      go_wp2
      go_quiet ((go_at_call 22; exact Calls.quiet_of_same (cap_Bins _ b5 x p (by go_simp))))
      go_wp2
      go_ret
      exact ⟨ret_int hv.out.symm, _, rfl⟩
    · have hv := Lib.hid (M.least_miss (f := fun b => M.cap b p) k hc)
      go_enter Try.func28, Try.ntmps28
      go_wp2
      go_quiet ((go_at_call 22; exact Calls.quiet_of_same (cap_Bins _ b5 x p (by go_simp))))
      go_wp2_with fail
      refine (HI.out _).mono ?_
      rintro e w1 ⟨rfl, n, rfl⟩
      go_wp2
      go_ret
      exact ⟨ret_int hv.out.symm, _, rfl⟩

set_option maxHeartbeats 1000000 in
theorem leastFor_Bins (w : World) (b5 : Nat) (c p : Int) (h5 : w.cell? ⟨b5, 0, none⟩ = some (.int .i64 p)) :
    Calls Try.prog 21 #[.int .i64 c, .int .i64 2, .int .i64 16, .func (.func 22) #[] #[.pointer (some ⟨b5, 0, none⟩)]] w
      fun e w' => e = .returned (.int .i64 (M.leastBins c p)) ∧ Below w.heap.size w w' := by
  have hlt := World.block_lt_of_cell? _ _ h5
  have hmf : ∀ (fn : Fn) (first cap : Array Value) (w : World), (Instr.makeFunc fn first cap).run Try.prog w = .ok (.func fn first cap) w := fun _ _ _ _ => rfl
  by_cases hc : c < 0
  · have hv := Lib.hid (M.leastBins_neg (p := p) hc)
    go_enter Try.func21, Try.ntmps21
    go_wp2
    go_ret
    exact ⟨ret_int hv.out.symm, by go_grown⟩
  · have hv := Lib.hid (M.leastBins_pos (p := p) (show 0 ≤ c by omega))
    go_enter Try.func21, Try.ntmps21
    go_wp2_with fail
    refine (search_Bins _ _ _ _ b5 c p (by omega) 15 2 _ ?_ (by omega) (by omega)).mono ?_
    rotate_left
    · rintro e w1 ⟨rfl, n, rfl⟩
      go_wp2
      go_ret
      exact ⟨ret_int hv.out.symm, below_drewN0 (by go_grown) n⟩
    · have z1 : b5 ≠ w.heap.size := by omega
      exact ⟨by go_simp, by go_simp, by go_simp, by go_simp, by rw [World.cell?_alloc_lt _ _ _ (by simp; omega), World.cell?_alloc_lt _ _ _ (by simp; omega), World.cell?_alloc_lt _ _ _ (by simp; omega), World.cell?_alloc_lt _ _ _ (by omega)]; exact h5⟩

set_option maxHeartbeats 1000000 in
theorem impl_LeastBins (w : World) (c p : Int) :
    Calls Try.prog 12 #[.int .i64 c, .int .i64 p] w fun e w' => e = .returned (.int .i64 (M.leastBins c p)) ∧ Below w.heap.size w w' := by
  have hmf : ∀ (fn : Fn) (first cap : Array Value) (w : World), (Instr.makeFunc fn first cap).run Try.prog w = .ok (.func fn first cap) w := fun _ _ _ _ => rfl
  go_enter Try.func12, Try.ntmps12
  go_wp2_with fail
  refine (leastFor_Bins _ w.heap.size c p (by simp)).mono ?_
  rintro e w1 ⟨rfl, hb1⟩
  go_wp2
  go_ret
  exact ⟨rfl, step0 ((Below.refl _ _).alloc (Nat.le_refl _) _) hb1⟩

set_option maxHeartbeats 1000000 in
theorem spec_LeastBins (w : World) (c p : Int) :
    Calls Try.prog 11 #[.int .i64 c, .int .i64 p] w fun e w' => e = .returned (.int .i64 (M.leastBins c p)) ∧ w = w' := by
  by_cases hc : c < 0
  · have hv := Lib.hid (M.leastBins_neg (p := p) hc)
    go_enter Try.func11, Try.ntmps11
    go_wp2
    refine wp_loop_rounds 1 ?_
    rw [rounds_succ]
    go_wp2
    go_ret
    exact ⟨ret_int hv.out.symm, rfl⟩
  by_cases hp : p < 1 ∨ 4 < p
  · have hv := Lib.hid (M.leastBins_shapeless (c := c) hp)
    have hs : M.shape 2 p = false := decide_eq_false (by omega)
    have HS := Lib.hid hs
    clear hs hp
    have c0 : 0 ≤ c := by omega
    go_enter Try.func11, Try.ntmps11
    go_wp2
    refine wp_loop_rounds 1 ?_
    rw [rounds_succ]
    go_wp2_with fail
    refine (spec_l3Shape 2 p _).mono ?_
    rw [HS.out]
    rintro e w1 ⟨rfl, rfl⟩
    go_wp2
    go_ret
    exact ⟨ret_int hv.out.symm, rfl⟩
  have hv := Lib.hid (M.leastBins_pos (p := p) (show 0 ≤ c by omega))
  have c0 : 0 ≤ c := by omega
  have hp1 : 1 ≤ p ∧ p ≤ 4 := by omega
  clear hp hc
  obtain ⟨q, rfl⟩ := Int.eq_ofNat_of_zero_le (show 0 ≤ p by omega)
  go_enter Try.func11, Try.ntmps11
  go_wp2
  go_loop [5] (fun i => ∃ (j k : Nat), j + k = 17 ∧ 2 ≤ j ∧ i = .int .i64 j ∧ Hid (M.least (fun b => M.cap b q) c 15 2 = M.least (fun b => M.cap b q) c k j)) (fun i => 17 - (intOf i).toNat)
  case atStart => exact ⟨2, 15, by omega, by omega, rfl, rfl⟩
  case round =>
    obtain ⟨j, k, hjk, j0, rfl, hl⟩ := hrel
    by_cases hlt : j < 17
    · obtain ⟨k, rfl⟩ : ∃ m, k = m + 1 := ⟨k - 1, by omega⟩
      have hs : M.shape j q = true := decide_eq_true (by omega)
      have hcap := Lib.hid (M.cap_yes hs)
      have HS := Lib.hid hs
      have hpb := M.pw_bd (j : Int) q (by omega) (by omega) (by omega)
      clear hs
      by_cases hc : c ≤ M.pw j q
      · have hh := Lib.hid (M.least_hit (f := fun b => M.cap b q) (c := c) (x := (j : Int)) k (by show c ≤ M.cap j q; rw [hcap.out, Int.toNat_natCast]; exact hc))
        go_wp2_with fail
        refine (spec_l3Shape j q _).mono ?_
        rw [HS.out]
        rintro e w1 ⟨rfl, rfl⟩
        go_wp2_with fail
        refine (spec_l3Power j q _ (by omega) (by omega) (by omega)).mono ?_
        rintro e w1 ⟨rfl, rfl⟩
        go_wp2
        go_ret
        exact ⟨ret_int (by rw [hv.out, hl.out, hh.out]), rfl⟩
      · have hh := Lib.hid (M.least_miss (f := fun b => M.cap b q) (c := c) (x := (j : Int)) k (by show ¬ c ≤ M.cap j q; rw [hcap.out, Int.toNat_natCast]; exact hc))
        go_wp2_with fail
        refine (spec_l3Shape j q _).mono ?_
        rw [HS.out]
        rintro e w1 ⟨rfl, rfl⟩
        go_wp2_with fail
        refine (spec_l3Power j q _ (by omega) (by omega) (by omega)).mono ?_
        rintro e w1 ⟨rfl, rfl⟩
        go_wp2
        go_round
        case rel => exact ⟨j + 1, k, by omega, by omega, by go_num, hl.out.trans hh.out⟩
        case measure => simp [intOf]; omega
    · obtain rfl : k = 0 := by omega
      obtain rfl : j = 17 := by omega
      have hs : M.shape 17 q = false := decide_eq_false (by omega)
      go_wp2_with fail
      refine (spec_l3Shape 17 q _).mono ?_
      rw [hs]
      rintro e w1 ⟨rfl, rfl⟩
      go_wp2
      go_ret
      exact ⟨ret_int (by rw [hv.out, hl.out]; rfl), rfl⟩

/-- What the search for the least number reads: where it ends, how it asks for a capacity, how many codes there are, and itself. -/
def NestPasses (w : World) (b1 b2 b3 b4 b5 : Nat) (c p : Int) : Prop :=
  w.cell? ⟨b1, 0, none⟩ = some (.int .i64 4) ∧ w.cell? ⟨b2, 0, none⟩ = some (.func (.func 23) #[] #[.pointer (some ⟨b5, 0, none⟩)]) ∧ w.cell? ⟨b3, 0, none⟩ = some (.int .i64 c) ∧
  w.cell? ⟨b4, 0, none⟩ = some (.func (.func 28) #[] #[.pointer (some ⟨b1, 0, none⟩), .pointer (some ⟨b2, 0, none⟩), .pointer (some ⟨b3, 0, none⟩), .pointer (some ⟨b4, 0, none⟩)]) ∧ w.cell? ⟨b5, 0, none⟩ = some (.int .i64 p)
theorem NestPasses.drewN {w : World} {b1 b2 b3 b4 b5 : Nat} {c p : Int} (h : NestPasses w b1 b2 b3 b4 b5 c p) (n : Nat) : NestPasses (w.drewN n) b1 b2 b3 b4 b5 c p := h

set_option maxHeartbeats 400000 in
theorem cap_Passes (w : World) (b5 : Nat) (x p : Int) (h5 : w.cell? ⟨b5, 0, none⟩ = some (.int .i64 p)) :
    Calls Try.prog 23 #[.int .i64 x, .pointer (some ⟨b5, 0, none⟩)] w fun e w' => e = .returned (.int .i64 (M.cap p x)) ∧ w' = w := by
  go_enter Try.func23, Try.ntmps23
  go_wp2_with fail
  refine (impl_CapacityOf p x _).mono ?_
  rintro e w1 ⟨rfl, rfl⟩
  go_wp2
  go_ret
  exact ⟨rfl, rfl⟩

set_option maxHeartbeats 1000000 in
theorem search_Passes (b1 b2 b3 b4 b5 : Nat) (c p : Int) (c0 : 0 ≤ c) : ∀ (k : Nat) (x : Int) (w : World), NestPasses w b1 b2 b3 b4 b5 c p → x + k = 5 → 1 ≤ x →
    Calls Try.prog 28 #[.int .i64 x, .pointer (some ⟨b1, 0, none⟩), .pointer (some ⟨b2, 0, none⟩), .pointer (some ⟨b3, 0, none⟩), .pointer (some ⟨b4, 0, none⟩)] w
      fun e w' => e = .returned (.int .i64 (M.least (fun b => M.cap p b) c k x)) ∧ ∃ n, w' = w.drewN n
  | 0, x, w, h, hx, x0 => by
    obtain ⟨h1, h2, h3, h4, h5⟩ := h
    have hv := Lib.hid (M.least_end (fun b => M.cap p b) c x)
    obtain rfl : x = 5 := by omega
    go_enter Try.func28, Try.ntmps28
    go_wp2
    go_ret
    exact ⟨ret_int hv.out.symm, 0, rfl⟩
  | k + 1, x, w, h, hx, x0 => by
    have hi := fun n => search_Passes b1 b2 b3 b4 b5 c p c0 k (x + 1) (w.drewN n) (h.drewN n) (by omega) (by omega)
    have HI := Lib.hid hi
    obtain ⟨h1, h2, h3, h4, h5⟩ := h
    have x1 : x ≤ 4 := by omega
    have hcb := M.cap_bd p x
    clear hi hx
    by_cases hc : c ≤ M.cap p x
    · have hv := Lib.hid (M.least_hit (f := fun b => M.cap p b) k hc)
      go_enter Try.func28, Try.ntmps28
      go_wp2
      go_quiet ((go_at_call 23; exact Calls.quiet_of_same (cap_Passes _ b5 x p (by go_simp))))
      go_wp2
      go_ret
      exact ⟨ret_int hv.out.symm, _, rfl⟩
    · have hv := Lib.hid (M.least_miss (f := fun b => M.cap p b) k hc)
      go_enter Try.func28, Try.ntmps28
      go_wp2
      go_quiet ((go_at_call 23; exact Calls.quiet_of_same (cap_Passes _ b5 x p (by go_simp))))
      go_wp2_with fail
      refine (HI.out _).mono ?_
      rintro e w1 ⟨rfl, n, rfl⟩
      go_wp2
      go_ret
      exact ⟨ret_int hv.out.symm, _, rfl⟩

set_option maxHeartbeats 1000000 in
theorem leastFor_Passes (w : World) (b5 : Nat) (c p : Int) (h5 : w.cell? ⟨b5, 0, none⟩ = some (.int .i64 p)) :
    Calls Try.prog 21 #[.int .i64 c, .int .i64 1, .int .i64 4, .func (.func 23) #[] #[.pointer (some ⟨b5, 0, none⟩)]] w
      fun e w' => e = .returned (.int .i64 (M.leastPasses c p)) ∧ Below w.heap.size w w' := by
  have hlt := World.block_lt_of_cell? _ _ h5
  have hmf : ∀ (fn : Fn) (first cap : Array Value) (w : World), (Instr.makeFunc fn first cap).run Try.prog w = .ok (.func fn first cap) w := fun _ _ _ _ => rfl
  by_cases hc : c < 0
  · have hv := Lib.hid (M.leastPasses_neg (p := p) hc)
    go_enter Try.func21, Try.ntmps21
    go_wp2
    go_ret
    exact ⟨ret_int hv.out.symm, by go_grown⟩
  · have hv := Lib.hid (M.leastPasses_pos (p := p) (show 0 ≤ c by omega))
    go_enter Try.func21, Try.ntmps21
    go_wp2_with fail
    refine (search_Passes _ _ _ _ b5 c p (by omega) 4 1 _ ?_ (by omega) (by omega)).mono ?_
    rotate_left
    · rintro e w1 ⟨rfl, n, rfl⟩
      go_wp2
      go_ret
      exact ⟨ret_int hv.out.symm, below_drewN0 (by go_grown) n⟩
    · have z1 : b5 ≠ w.heap.size := by omega
      exact ⟨by go_simp, by go_simp, by go_simp, by go_simp, by rw [World.cell?_alloc_lt _ _ _ (by simp; omega), World.cell?_alloc_lt _ _ _ (by simp; omega), World.cell?_alloc_lt _ _ _ (by simp; omega), World.cell?_alloc_lt _ _ _ (by omega)]; exact h5⟩

set_option maxHeartbeats 1000000 in
theorem impl_LeastPasses (w : World) (c p : Int) :
    Calls Try.prog 14 #[.int .i64 c, .int .i64 p] w fun e w' => e = .returned (.int .i64 (M.leastPasses c p)) ∧ Below w.heap.size w w' := by
  have hmf : ∀ (fn : Fn) (first cap : Array Value) (w : World), (Instr.makeFunc fn first cap).run Try.prog w = .ok (.func fn first cap) w := fun _ _ _ _ => rfl
  go_enter Try.func14, Try.ntmps14
  go_wp2_with fail
  refine (leastFor_Passes _ w.heap.size c p (by simp)).mono ?_
  rintro e w1 ⟨rfl, hb1⟩
  go_wp2
  go_ret
  exact ⟨rfl, step0 ((Below.refl _ _).alloc (Nat.le_refl _) _) hb1⟩

set_option maxHeartbeats 1000000 in
theorem spec_LeastPasses (w : World) (c p : Int) :
    Calls Try.prog 13 #[.int .i64 c, .int .i64 p] w fun e w' => e = .returned (.int .i64 (M.leastPasses c p)) ∧ w = w' := by
  by_cases hc : c < 0
  · have hv := Lib.hid (M.leastPasses_neg (p := p) hc)
    go_enter Try.func13, Try.ntmps13
    go_wp2
    refine wp_loop_rounds 1 ?_
    rw [rounds_succ]
    go_wp2
    go_ret
    exact ⟨ret_int hv.out.symm, rfl⟩
  by_cases hp : p < 2 ∨ 16 < p
  · have hv := Lib.hid (M.leastPasses_shapeless (c := c) hp)
    have hs : M.shape p 1 = false := decide_eq_false (by omega)
    have HS := Lib.hid hs
    clear hs hp
    have c0 : 0 ≤ c := by omega
    go_enter Try.func13, Try.ntmps13
    go_wp2
    refine wp_loop_rounds 1 ?_
    rw [rounds_succ]
    go_wp2_with fail
    refine (spec_l3Shape p 1 _).mono ?_
    rw [HS.out]
    rintro e w1 ⟨rfl, rfl⟩
    go_wp2
    go_ret
    exact ⟨ret_int hv.out.symm, rfl⟩
  have hv := Lib.hid (M.leastPasses_pos (p := p) (show 0 ≤ c by omega))
  have c0 : 0 ≤ c := by omega
  have hp1 : 2 ≤ p ∧ p ≤ 16 := by omega
  clear hp hc
  obtain ⟨q, rfl⟩ := Int.eq_ofNat_of_zero_le (show 0 ≤ p by omega)
  go_enter Try.func13, Try.ntmps13
  go_wp2
  go_loop [5] (fun i => ∃ (j k : Nat), j + k = 5 ∧ 1 ≤ j ∧ i = .int .i64 j ∧ Hid (M.least (fun b => M.cap q b) c 4 1 = M.least (fun b => M.cap q b) c k j)) (fun i => 5 - (intOf i).toNat)
  case atStart => exact ⟨1, 4, by omega, by omega, rfl, rfl⟩
  case round =>
    obtain ⟨j, k, hjk, j0, rfl, hl⟩ := hrel
    by_cases hlt : j < 5
    · obtain ⟨k, rfl⟩ : ∃ m, k = m + 1 := ⟨k - 1, by omega⟩
      have hs : M.shape q j = true := decide_eq_true (by omega)
      have hcap := Lib.hid (M.cap_yes hs)
      have HS := Lib.hid hs
      have hpb := M.pw_bd (q : Int) j (by omega) (by omega) (by omega)
      clear hs
      by_cases hc : c ≤ M.pw q j
      · have hh := Lib.hid (M.least_hit (f := fun b => M.cap q b) (c := c) (x := (j : Int)) k (by show c ≤ M.cap q j; rw [hcap.out, Int.toNat_natCast]; exact hc))
        go_wp2_with fail
        refine (spec_l3Shape q j _).mono ?_
        rw [HS.out]
        rintro e w1 ⟨rfl, rfl⟩
        go_wp2_with fail
        refine (spec_l3Power q j _ (by omega) (by omega) (by omega)).mono ?_
        rintro e w1 ⟨rfl, rfl⟩
        go_wp2
        go_ret
        exact ⟨ret_int (by rw [hv.out, hl.out, hh.out]), rfl⟩
      · have hh := Lib.hid (M.least_miss (f := fun b => M.cap q b) (c := c) (x := (j : Int)) k (by show ¬ c ≤ M.cap q j; rw [hcap.out, Int.toNat_natCast]; exact hc))
        go_wp2_with fail
        refine (spec_l3Shape q j _).mono ?_
        rw [HS.out]
        rintro e w1 ⟨rfl, rfl⟩
        go_wp2_with fail
        refine (spec_l3Power q j _ (by omega) (by omega) (by omega)).mono ?_
        rintro e w1 ⟨rfl, rfl⟩
        go_wp2
        go_round
        case rel => exact ⟨j + 1, k, by omega, by omega, by go_num, hl.out.trans hh.out⟩
        case measure => simp [intOf]; omega
    · obtain rfl : k = 0 := by omega
      obtain rfl : j = 5 := by omega
      have hs : M.shape q 5 = false := decide_eq_false (by omega)
      go_wp2_with fail
      refine (spec_l3Shape q 5 _).mono ?_
      rw [hs]
      rintro e w1 ⟨rfl, rfl⟩
      go_wp2
      go_ret
      exact ⟨ret_int (by rw [hv.out, hl.out]; rfl), rfl⟩

end Go.Proofs.Ytdkkogcgaaclhaa
