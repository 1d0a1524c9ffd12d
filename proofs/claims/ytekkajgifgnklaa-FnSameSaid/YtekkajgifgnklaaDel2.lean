/-
  Orders without those for one code: DeleteFunc, and what the program and the model make of it.
-/
import Derived.Test.YtekkajgifgnklaaDel
namespace Go.Proofs.Ytekkajgifgnklaa
open Go.RowKit Go.Maps
open Go.PlainAid (bt get_bt bt_nonneg bt_le)
set_option linter.unusedVariables false

/-- What DeleteFunc leaves in the row that it is given. -/
def DelRes (w : World) (base : Nat) (s : Option Nat) (L : List (ByteArray × ByteArray)) (e : Ending) (w' : World) : Prop := ∃ v, e = .returned v ∧ FRow w' base v L ∧ w.grownBy w' s ∧ v.ownBlock = s

end Go.Proofs.Ytekkajgifgnklaa
