/-
  Drawn sizes of trays, and letters with one.
-/
import Derived.Test.YtmekhbekjfandaaDrawB
namespace Go.Proofs.Ytmekhbekjfandaa
open Go.RowKit
set_option linter.unusedVariables false

/-- A number that was drawn, and a reader. -/
def SizeSg (W : World) (r N : Nat) (e : Ending) (w' : World) : Prop := ∃ x : Int, e = .returned (.int .i64 x) ∧ (x ∈ [(0 : Int), 20, 21, -1, 9223372036854775807] ∨ (1 ≤ x ∧ x ≤ 6)) ∧ Sg W w' r N
/-- Drawn letters. -/
def LetsOnly (w : World) (e : Ending) (w' : World) : Prop := ∃ v : Value, e = .returned v ∧ Lets w w' v
set_option maxHeartbeats 1000000 in
theorem DrawLabelOf_any (a : Option Addr) (l k : Nat) (z : List Int) (w : World) (h : IsRow .u8 w a l k z) :
    Calls Try.prog 15 #[.slice a l k] w (LetsOnly w) := by
  go_enter Try.func15, Try.ntmps15
  go_wp2_with fail
  refine (open_any a l k z w h).mono ?_
  rintro e w1 ⟨r, rfl, rd1, b1, hwr⟩
  go_wp2_with fail
  refine (l2Open_any _ r _ rd1 (by omega)).mono ?_
  rintro e w2 ⟨base, v, L, rfl, hrb, R2, l2, S2, rd2, b2⟩
  have B2 := b1.trans (b2.mono hwr)
  clear b1 b2 rd1 h
  go_wp2
  go_ret
  exact ⟨_, rfl, lets_of R2 l2 S2 B2⟩
/-- Two drawn numbers, and new memory alone. -/
def NumTwo (w : World) (e : Ending) (w' : World) : Prop := ∃ x y : Int, e = .returned (.tuple #[.int .i64 x, .int .i64 y]) ∧ Below w.heap.size w w'
end Go.Proofs.Ytmekhbekjfandaa
