/-
  The marks of a plan's codes where they stand within a row.
-/
import Derived.Test.YtjabpidmfgcamaaDoorPlnPM
import Derived.Test.YtjabpidmfgcamaaDoorSMark
namespace Go.Proofs.YtjabpidmfgcamaaDoor
open Go.RowKit
open Go.PlainAid (bt get_bt bt_nonneg bt_le)
set_option linter.unusedVariables false

/-- Strings in the cells of a block. -/
def OAt (w : World) (g o : Nat) (L : List ByteArray) : Prop := ∀ i (h : i < L.length), w.cell? ⟨g, o + i, none⟩ = some (.string L[i]) ∧ w.frozen? ⟨g, o + i, none⟩ = false
theorem OAt.on {w w' : World} {g o : Nat} {L : List ByteArray} (h : OAt w g o L) (hg : g < w.heap.size) (hb : Below w.heap.size w w') : OAt w' g o L := fun i hi =>
  ⟨(hb.cell (p := ⟨g, o + i, none⟩) hg).trans (h i hi).1, (hb.frozen (p := ⟨g, o + i, none⟩) hg).trans (h i hi).2⟩
theorem OAt.put {w : World} {g o : Nat} {L : List ByteArray} (h : OAt w g o L) (j : Nat) (hj : j < L.length) (s : ByteArray) : OAt (w.setCell ⟨g, o + j, none⟩ (.string s)) g o (L.set j s) := ORow.put (n := 0) (c := 0) (base := 0) h j hj s
theorem ORow.set {w : World} {base : Nat} {v : Value} {L : List ByteArray} (h : ORow w base v L) {p : Addr} (hne : ∀ b, v.ownBlock = some b → b ≠ p.block) (u : Value) : ORow (w.setCell p u) base v L :=
  h.only (Only.set w p u (S := fun b => b = p.block) rfl) fun b e => hne b e

end Go.Proofs.YtjabpidmfgcamaaDoor
