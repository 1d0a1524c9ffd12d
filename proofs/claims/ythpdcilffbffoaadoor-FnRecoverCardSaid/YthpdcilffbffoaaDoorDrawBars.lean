/-
  What the drawn arguments of DigitBars and BarsDigit are. For every input.
-/
import Derived.Test.YthpdcilffbffoaaDoorDraw
import Derived.Test.YthpdcilffbffoaaDoorBars
import Derived.Deep.RegionWith
import Derived.Outline
namespace Go.Proofs.YthpdcilffbffoaaDoor
open Go.RowKit

/-- A number, and new memory alone. -/
def SomeNum (w : World) (e : Ending) (w' : World) : Prop := ∃ v : Int, e = .returned (.int .i64 v) ∧ Below w.heap.size w w'
/-- A string of at most n bytes, and new memory alone. -/
def SomeStr (n : Nat) (w : World) (e : Ending) (w' : World) : Prop := ∃ s : ByteArray, e = .returned (.string s) ∧ s.size ≤ n ∧ Below w.heap.size w w'


end Go.Proofs.YthpdcilffbffoaaDoor
