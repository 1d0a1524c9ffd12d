/-
  Drawn letters, and drawn letters with a number, of other laws.
-/
import Derived.Test.YtlamckdnnnifcaaDrawB
namespace Go.Proofs.Ytlamckdnnnifcaa
open Go.RowKit
open Go.PlainAid (bt get_bt bt_nonneg bt_le)
set_option linter.unusedVariables false

/-- Drawn letters alone. -/
def LetsOne (w : World) (e : Ending) (w' : World) : Prop := ∃ v : Value, e = .returned v ∧ Lets w w' v
set_option maxHeartbeats 1000000 in
theorem DrawSealOf_any (a : Option Addr) (l k : Nat) (z : List Int) (w : World) (h : IsRow .u8 w a l k z) :
    Calls Try.prog 19 #[.slice a l k] w (LetsOne w) := by
  go_enter Try.func19, Try.ntmps19
  go_wp2_with fail
  refine (open_any a l k z w h).mono ?_
  rintro e w1 ⟨r, rfl, rd1, b1, hwr⟩
  go_wp2_with fail
  refine (l2Open_any _ r _ rd1 (by omega)).mono ?_
  rintro e w2 ⟨base, v, L, rfl, hrb, R2, l2, S2, rd2, b2⟩
  have B2 := Lib.hid (b1.trans (b2.mono hwr))
  go_wp2
  go_ret
  exact ⟨_, rfl, lets_of R2 l2 S2 B2.out⟩
end Go.Proofs.Ytlamckdnnnifcaa
