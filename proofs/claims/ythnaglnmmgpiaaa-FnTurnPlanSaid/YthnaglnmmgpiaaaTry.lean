/-
  What TraysValid and EmptyTrays return, in the program and in the model of the document.
-/
import Derived.Test.YthnaglnmmgpiaaaMgN6
import Derived.Test.YthnaglnmmgpiaaaTrkA
namespace Go.Proofs.Ythnaglnmmgpiaaa
open Go.RowKit
set_option linter.unusedVariables false

theorem mat_slice {w : World} {base n : Nat} {v : Value} {V : Nat → Value} {MM : Nat → List (Int × ByteArray)} (h : Mat w base v n V MM) : ∃ u c, v = .slice u n c := by
  rcases h.form with ⟨rfl, rfl⟩ | ⟨g, c, rfl, _⟩
  · exact ⟨_, _, rfl⟩
  · exact ⟨_, _, rfl⟩
/-- A tray in memory. -/
theorem mat_at {w : World} {base n c : Nat} {u : Option Addr} {V : Nat → Value} {MM : Nat → List (Int × ByteArray)} (h : Mat w base (.slice u n c) n V MM) {i : Nat} (hi : i < n) :
    ∃ g a d, u = some ⟨g, 0, none⟩ ∧ w.cell? ⟨g, i, none⟩ = some (.slice a (MM i).length d) ∧ Lts w a (MM i).length (nI (MM i)) (nC (MM i)) := by
  obtain ⟨g, d, e, h1, _⟩ := h.cell hi
  cases e
  obtain ⟨a, d', e, _, hl⟩ := (h.2.1 i hi).form
  exact ⟨g, a, d', rfl, by rw [h1, e], hl⟩

end Go.Proofs.Ythnaglnmmgpiaaa
