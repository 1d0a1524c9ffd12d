/-
  A drawn batch for seals, as a row.
-/
import Derived.Test.YtlamckdnnnifcaaSealM
import Derived.Test.YtlamckdnnnifcaaStbH
import Derived.Test.YtlamckdnnnifcaaRest
import Derived.Test.YtlamckdnnnifcaaSmpM
import Derived.Test.YtlamckdnnnifcaaSoTurn
namespace Go.Proofs.Ytlamckdnnnifcaa
open Go.RowKit
set_option linter.unusedVariables false

def RowOnlyS (w : World) (e : Ending) (w' : World) : Prop := ∃ (v : Value) (base : Nat) (L : List (Int × ByteArray)), e = .returned v ∧ Row w' base v L ∧ L.length ≤ 61 ∧ FitsL L ∧ Below w.heap.size w w'
set_option maxHeartbeats 1000000 in
theorem DrawSealOf_row (a : Option Addr) (l k : Nat) (z : List Int) (w : World) (h : IsRow .u8 w a l k z) :
    Calls Try.prog 19 #[.slice a l k] w (RowOnlyS w) := by
  go_enter Try.func19, Try.ntmps19
  go_wp2_with fail
  refine (open_any a l k z w h).mono ?_
  rintro e w1 ⟨r, rfl, rd1, b1, hwr⟩
  go_wp2_with fail
  refine (l2Open_any _ r _ rd1 (by omega)).mono ?_
  rintro e w2 ⟨base, v, L, rfl, hrb, R2, l2, S2, rd2, b2⟩
  have B2 := b1.trans (b2.mono hwr)
  have HFI : FitsL L := fun i hi => by
    have := S2.at i hi
    rw [nI_at hi, nC_at hi]
    exact ⟨by omega, by unfold maxLen; omega⟩
  clear b1 b2 rd1 h
  go_wp2
  go_ret
  exact ⟨_, base, L, rfl, R2, l2, HFI, B2⟩
end Go.Proofs.Ytlamckdnnnifcaa
