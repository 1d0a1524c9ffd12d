/-
  The marks that a law writes into a plan's codes.
-/
import Derived.Test.YtekkajgifgnklaaMark
import Derived.Test.YtekkajgifgnklaaPlan
namespace Go.Proofs.Ytekkajgifgnklaa
open Go.RowKit
open Go.PlainAid (bt get_bt bt_nonneg bt_le)

theorem SRow.on {w w' : World} {base : Nat} {v : Value} {L : List ByteArray} (h : SRow w base v L) (hb : Below w.heap.size w w') : SRow w' base v L := h.below hb

end Go.Proofs.Ytekkajgifgnklaa
