/-
  Drawn numbers of bins and passes, and of codes.
-/
import Derived.Test.YtdkkogcgaaclhaaDraw
namespace Go.Proofs.Ytdkkogcgaaclhaa
open Go.RowKit

/-- Two numbers that a machine can hold, and new memory alone. -/
def TwoNum (w : World) (e : Ending) (w' : World) : Prop :=
  ∃ x y : Int, e = .returned (.tuple #[.int .i64 x, .int .i64 y]) ∧ (-9223372036854775808 ≤ x ∧ x ≤ 9223372036854775807) ∧ (-9223372036854775808 ≤ y ∧ y ≤ 9223372036854775807) ∧ Below w.heap.size w w'
def TwoSt (W : World) (r N : Nat) (e : Ending) (w' : World) : Prop :=
  ∃ x y : Int, e = .returned (.tuple #[.int .i64 x, .int .i64 y]) ∧ (-1 ≤ x ∧ x ≤ 20) ∧ (-1 ≤ y ∧ y ≤ 20) ∧ St W w' r N
def OneSt (W : World) (r N : Nat) (e : Ending) (w' : World) : Prop :=
  ∃ x : Int, e = .returned (.int .i64 x) ∧ (-9223372036854775808 ≤ x ∧ x ≤ 9223372036854775807) ∧ St W w' r N

set_option maxHeartbeats 1000000 in
theorem l3Numbers_any (W w : World) (r N : Nat) (h : St W w r N) (hN : N ≤ 90000) :
    Calls Try.prog 24 #[.pointer (some ⟨r, 0, none⟩)] w (TwoSt W r (N + 3)) := by
  have H := Lib.hid h
  clear h
  go_enter Try.func24, Try.ntmps24
  go_wp2_with fail
  refine (pick_st W _ _ r _ H.out (by omega) (by omega) (by omega)).mono ?_
  rintro e w1 ⟨v, rfl, v0, v1, st1⟩
  have hr := st1.1.lt
  have S1 := Lib.hid st1
  clear st1 H
  cases hv : (v == 0)
  · go_wp2_with fail
    refine (pick_st W _ _ r _ S1.out (by omega) (by omega) (by omega)).mono ?_
    rintro e w2 ⟨x, rfl, x0, x1, st2⟩
    have S2 := Lib.hid st2
    clear st2
    go_wp2_with fail
    refine (pick_st W _ _ r _ S2.out (by omega) (by omega) (by omega)).mono ?_
    rintro e w3 ⟨y, rfl, y0, y1, st3⟩
    have S3 := Lib.hid st3
    clear st3
    go_wp2
    go_ret2
    exact ⟨_, _, rfl, by omega, by omega, S3.out⟩
  · go_wp2_with fail
    refine (num_st W [1, 17, 16, 2] w1.heap.size _ r _ (S1.out.alloc _) (by omega) (by decide) (by decide) (by omega) (cells_int [1, 17, 16, 2] _ w1)).mono ?_
    rintro e w2 ⟨x, rfl, hx, st2⟩
    have hx1 := (show ∀ x ∈ [(1 : Int), 17, 16, 2], -1 ≤ x ∧ x ≤ 20 from by decide) x hx
    have hr2 := st2.1.lt
    have S2 := Lib.hid st2
    clear st2 hx
    go_wp2_with fail
    refine (num_st W [0, 5, 4, -1] w2.heap.size _ r _ (S2.out.alloc _) (by omega) (by decide) (by decide) (by omega) (cells_int [0, 5, 4, -1] _ w2)).mono ?_
    rintro e w3 ⟨y, rfl, hy, st3⟩
    have hy1 := (show ∀ x ∈ [(0 : Int), 5, 4, -1], -1 ≤ x ∧ x ≤ 20 from by decide) y hy
    have S3 := Lib.hid st3
    clear st3 hy
    go_wp2
    go_ret2
    exact ⟨_, _, rfl, hx1, hy1, S3.out⟩

set_option maxHeartbeats 1000000 in
theorem l3Count_any (W w : World) (r N : Nat) (h : St W w r N) (hN : N ≤ 90000) :
    Calls Try.prog 26 #[.pointer (some ⟨r, 0, none⟩)] w (OneSt W r (N + 3)) := by
  have H := Lib.hid h
  clear h
  go_enter Try.func26, Try.ntmps26
  go_wp2_with fail
  refine (pick_st W _ _ r _ H.out (by omega) (by omega) (by omega)).mono ?_
  rintro e w1 ⟨v, rfl, v0, v1, st1⟩
  have hr := st1.1.lt
  have S1 := Lib.hid st1
  clear st1 H
  cases hv : (v == 0)
  · go_wp2_with fail
    refine (pick_st W _ _ r _ S1.out (by omega) (by omega) (by omega)).mono ?_
    rintro e w2 ⟨x, rfl, x0, x1, st2⟩
    have S2 := Lib.hid st2
    clear st2
    go_wp2_with fail
    refine (pick_st W _ _ r _ S2.out (by omega) (by omega) (by omega)).mono ?_
    rintro e w3 ⟨y, rfl, y0, y1, st3⟩
    have S3 := Lib.hid st3
    clear st3
    have p0 : 0 ≤ x * y := Int.mul_nonneg x0 y0
    have p1 : x * y ≤ 255 * 39 := Int.mul_le_mul (by omega) (by omega) y0 (by omega)
    generalize hp : x * y = P at p0 p1
    go_wp2
    go_ret
    exact ⟨P, by simp, by omega, S3.out⟩
  · go_wp2_with fail
    refine (num_st W [-1, 0, 65536, 65537, 9223372036854775807] w1.heap.size _ r _ (S1.out.alloc _) (by omega) (by decide) (by decide) (by omega) (cells_int [-1, 0, 65536, 65537, 9223372036854775807] _ w1)).mono ?_
    rintro e w2 ⟨x, rfl, hx, st2⟩
    have hx1 := (show ∀ x ∈ [(-1 : Int), 0, 65536, 65537, 9223372036854775807], -9223372036854775808 ≤ x ∧ x ≤ 9223372036854775807 from by decide) x hx
    have S2 := Lib.hid st2
    clear st2 hx
    go_wp2
    go_ret
    exact ⟨_, rfl, hx1, S2.out.mono (by omega) (by omega)⟩

set_option maxHeartbeats 1000000 in
theorem DrawCapacityOf_any (a : Option Addr) (l k : Nat) (z : List Int) (w : World) (h : IsRow .u8 w a l k z) :
    Calls Try.prog 15 #[.slice a l k] w (TwoNum w) := by
  go_enter Try.func15, Try.ntmps15
  go_wp2_with fail
  refine (open_any _ _ _ _ _ h).mono ?_
  rintro e w1 ⟨r, rfl, st⟩
  go_wp2_with fail
  refine (l3Numbers_any w _ r 0 st (by omega)).mono ?_
  rintro e w2 ⟨x, y, rfl, hx, hy, st2⟩
  go_wp2
  go_ret2
  exact ⟨x, y, rfl, by omega, by omega, st2.2.1⟩

set_option maxHeartbeats 1000000 in
theorem DrawLeastBins_any (a : Option Addr) (l k : Nat) (z : List Int) (w : World) (h : IsRow .u8 w a l k z) :
    Calls Try.prog 16 #[.slice a l k] w (TwoNum w) := by
  go_enter Try.func16, Try.ntmps16
  go_wp2_with fail
  refine (open_any _ _ _ _ _ h).mono ?_
  rintro e w1 ⟨r, rfl, st⟩
  go_wp2_with fail
  refine (l3Numbers_any w _ r 0 st (by omega)).mono ?_
  rintro e w2 ⟨x, y, rfl, hx, hy, st2⟩
  go_wp2_with fail
  refine (l3Count_any w _ r _ st2 (by omega)).mono ?_
  rintro e w3 ⟨z, rfl, hz, st3⟩
  go_wp2
  go_ret2
  exact ⟨z, y, rfl, hz, by omega, st3.2.1⟩

set_option maxHeartbeats 1000000 in
theorem DrawLeastPasses_any (a : Option Addr) (l k : Nat) (z : List Int) (w : World) (h : IsRow .u8 w a l k z) :
    Calls Try.prog 17 #[.slice a l k] w (TwoNum w) := by
  go_enter Try.func17, Try.ntmps17
  go_wp2_with fail
  refine (open_any _ _ _ _ _ h).mono ?_
  rintro e w1 ⟨r, rfl, st⟩
  go_wp2_with fail
  refine (l3Numbers_any w _ r 0 st (by omega)).mono ?_
  rintro e w2 ⟨x, y, rfl, hx, hy, st2⟩
  go_wp2_with fail
  refine (l3Count_any w _ r _ st2 (by omega)).mono ?_
  rintro e w3 ⟨z, rfl, hz, st3⟩
  go_wp2
  go_ret2
  exact ⟨z, x, rfl, hz, by omega, st3.2.1⟩
end Go.Proofs.Ytdkkogcgaaclhaa
