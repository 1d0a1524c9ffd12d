/-
  Drawn letters, and drawn letters with a number, of other laws.
-/
import Derived.Test.YtihbpalhbbingaaDrawB
namespace Go.Proofs.Ytihbpalhbbingaa
open Go.RowKit
open Go.PlainAid (bt get_bt bt_nonneg bt_le)
set_option linter.unusedVariables false

/-- Drawn letters alone. -/
def LetsOne (w : World) (e : Ending) (w' : World) : Prop := ∃ v : Value, e = .returned v ∧ Lets w w' v
set_option maxHeartbeats 2000000 in
theorem DrawBinPass_any (a : Option Addr) (l k : Nat) (z : List Int) (w : World) (h : IsRow .u8 w a l k z) :
    Calls Try.prog 27 #[.slice a l k] w (LetsNum w) := by
  go_enter Try.func27, Try.ntmps27
  go_wp2_with fail
  refine (open_any a l k z w h).mono ?_
  rintro e w1 ⟨r, rfl, rd1, b1, hwr⟩
  go_wp2_with fail
  refine (l2Open_any _ r _ rd1 (by omega)).mono ?_
  rintro e w2 ⟨base, v, L, rfl, hrb, R2, l2, S2, rd2, b2⟩
  have B2 := Lib.hid (b1.trans (b2.mono hwr))
  have SM := Lib.hid S2
  have HR := Lib.hid R2
  have SG := Lib.hid (Sg.start rd2)
  have hr2 := rd2.lt
  clear b1 b2 rd1 rd2 S2 R2 h
  go_wp2_with fail
  refine (pick_sg _ _ _ r _ SG.out (by omega) (by omega) (by omega)).mono ?_
  rintro e w3 ⟨t, rfl, t0, t1, sg3⟩
  have B3 := Lib.hid (B2.out.trans ((sg3.below_r hr2).mono hwr))
  have R3 := Lib.hid (HR.out.sg sg3 hrb)
  have hr3 := sg3.1.lt
  have SG3 := Lib.hid (Sg.start sg3.1)
  clear sg3 HR SG B2
  cases c0 : (t == 0)
  · go_wp2_with fail
    refine (pick_sg _ _ _ r _ SG3.out (by omega) (by omega) (by omega)).mono ?_
    rintro e w4 ⟨j, rfl, j0, j1, sg4⟩
    have B4 := Lib.hid (B3.out.trans ((sg4.below_r hr3).mono hwr))
    have R4 := Lib.hid (R3.out.sg sg4 hrb)
    clear sg4 R3 SG3 B3
    go_wp2
    go_ret2
    exact ⟨_, _, rfl, lets_of R4.out l2 SM.out B4.out⟩
  · go_wp2_with fail
    refine (num_sg _ [-1, 7, 9223372036854775807] w3.heap.size _ r _ (SG3.out.alloc _) (by omega) (by decide) (by decide) (by omega) (cells_int [-1, 7, 9223372036854775807] _ w3)).mono ?_
    rintro e w4 ⟨j, rfl, _, sg4⟩
    have B4 := Lib.hid (B3.out.trans ((sg4.below_r hr3).mono hwr))
    have R4 := Lib.hid (R3.out.sg sg4 hrb)
    clear sg4 R3 SG3 B3
    go_wp2
    go_ret2
    exact ⟨_, _, rfl, lets_of R4.out l2 SM.out B4.out⟩
end Go.Proofs.Ytihbpalhbbingaa
