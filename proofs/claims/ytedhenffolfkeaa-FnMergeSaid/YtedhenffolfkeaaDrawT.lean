/-
  Drawn sizes of trays, and letters with one.
-/
import Derived.Test.YtedhenffolfkeaaDrawB
namespace Go.Proofs.Ytedhenffolfkeaa
open Go.RowKit
set_option linter.unusedVariables false

/-- A number that was drawn, and a reader. -/
def SizeSg (W : World) (r N : Nat) (e : Ending) (w' : World) : Prop := ∃ x : Int, e = .returned (.int .i64 x) ∧ (x ∈ [(0 : Int), 20, 21, -1, 9223372036854775807] ∨ (1 ≤ x ∧ x ≤ 6)) ∧ Sg W w' r N
/-- Drawn letters. -/
def LetsOnly (w : World) (e : Ending) (w' : World) : Prop := ∃ v : Value, e = .returned v ∧ Lets w w' v
/-- Two drawn numbers, and new memory alone. -/
def NumTwo (w : World) (e : Ending) (w' : World) : Prop := ∃ x y : Int, e = .returned (.tuple #[.int .i64 x, .int .i64 y]) ∧ Below w.heap.size w w'
end Go.Proofs.Ytedhenffolfkeaa
