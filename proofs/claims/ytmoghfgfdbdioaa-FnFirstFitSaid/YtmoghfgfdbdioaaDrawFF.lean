/-
  Drawn weights for first fit.
-/
import Derived.Test.YtmoghfgfdbdioaaDrawK
import Derived.Test.YtmoghfgfdbdioaaFirstM
namespace Go.Proofs.Ytmoghfgfdbdioaa
open Go.RowKit
set_option linter.unusedVariables false

theorem drewN_under {B : Nat} {a w : World} (h : Below B a w) (n : Nat) : Below B a (w.drewN n) := ⟨h.os, h.tape, h.output, h.size, h.block⟩
set_option maxHeartbeats 2000000 in
theorem DrawFirstFit_any (a : Option Addr) (l k : Nat) (z : List Int) (w : World) (h : IsRow .u8 w a l k z) :
    Calls Try.prog 8 #[.slice a l k] w (WtOut w) := by
  go_enter Try.func8, Try.ntmps8
  go_wp2_with fail
  refine (open_any a l k z w h).mono ?_
  rintro e w1 ⟨r, rfl, rd1, b1, hwr⟩
  have hr1 := rd1.lt
  go_wp2_with fail
  refine (l5Weights_any _ r _ rd1 (by omega)).mono ?_
  rintro e w2 ⟨v, W, q, rfl, R2, l2, sg2⟩
  obtain ⟨a2, c2, rfl, hc2, _⟩ := R2.form
  have B2 := b1.trans ((sg2.below_r hr1).mono hwr)
  have N2 := Lib.hid R2.nums
  clear b1 rd1 h sg2 R2
  go_wp2
  go_ret2
  exact ⟨_, _, W, _, rfl, N2.out, l2, hc2, B2⟩
end Go.Proofs.Ytmoghfgfdbdioaa
