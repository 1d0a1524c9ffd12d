/-
  What CapacityOf, LeastBins and LeastPasses return, in the program and in the model of the document.
-/
import Derived.Test.YtekkajgifgnklaaMgA2
import Derived.Test.YtekkajgifgnklaaCapM
import Derived.Handy
import Derived.BigQuiet
import Derived.Deep.QuietTactic
import Derived.WalkLawsBesides
import Derived.Laws.EntriesVeiled
namespace Go.Proofs.Ytekkajgifgnklaa
open Go.RowKit

theorem step0 {w a b : World} (h : Below w.heap.size w a) (k : Below a.heap.size a b) : Below w.heap.size w b := h.trans (k.mono h.size)
theorem below_drewN0 {B : Nat} {a w : World} (h : Below B a w) (n : Nat) : Below B a (w.drewN n) := ⟨h.os, h.tape, h.output, h.size, h.block⟩
end Go.Proofs.Ytekkajgifgnklaa
