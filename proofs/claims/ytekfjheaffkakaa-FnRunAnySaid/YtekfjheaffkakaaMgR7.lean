/-
  Drawn arguments of PlanRank and PlanBin.
-/
import Derived.Test.YtekfjheaffkakaaDrawQ
import Derived.Test.YtekfjheaffkakaaMgR17
import Derived.Test.YtekfjheaffkakaaMgR14
namespace Go.Proofs.Ytekfjheaffkakaa
open Go.RowKit

theorem IsRow.below {k : IntKind} {w w' : World} {a : Option Addr} {l c : Nat} {z : List Int} (h : IsRow k w a l c z) (hb : Below w.heap.size w w') : IsRow k w' a l c z := by
  rcases h with h | ⟨x, hx, q1, q2, q3, q4, q5⟩
  · exact Or.inl h
  · exact Or.inr ⟨x, hx, q1, q2, q3, fun i hi => (hb.cell (p := x.add i) (World.block_lt_of_cell? _ _ (q4 i hi))).trans (q4 i hi), q5⟩
theorem SmallS.fits {z : Nat} {L : List ByteArray} (h : SmallS z L) (hz : z ≤ 1000) : SFits L.length (sC L) := fun i hi => by
  rw [sC_at hi]
  have := h _ (List.getElem_mem hi)
  unfold maxLen; omega
theorem SRow.strs' {w : World} {base : Nat} {a : Option Addr} {c : Nat} {L : List ByteArray} (h : SRow w base (.slice a L.length c) L) : Strs w a L.length (sC L) := by
  obtain ⟨a', c', e, _, hl⟩ := h.form
  injection e with e1 _ _
  subst e1
  exact hl
/-- A drawn plan and a string. -/
def PlanStr (w : World) (e : Ending) (w' : World) : Prop := ∃ (b p : Int) (a : Option Addr) (n c : Nat) (S : Nat → ByteArray) (s : ByteArray), e = .returned (.tuple #[.agg #[.int .i64 b, .int .i64 p, .slice a n c], .string s]) ∧ (-9223372036854775808 ≤ b ∧ b ≤ 9223372036854775807) ∧ (0 ≤ p ∧ p ≤ 5) ∧ Strs w' a n S ∧ SFits n S ∧ n ≤ 13 ∧ s.size ≤ 30 ∧ (∀ b o, a = some ⟨b, o, none⟩ → 0 < n → w.heap.size ≤ b) ∧ Below w.heap.size w w'

end Go.Proofs.Ytekfjheaffkakaa

/-
  What TraysValid and EmptyTrays return, in the program and in the model of the document.
-/
namespace Go.Proofs.Ytekfjheaffkakaa
open Go.RowKit
set_option linter.unusedVariables false

theorem mat_slice {w : World} {base n : Nat} {v : Value} {V : Nat → Value} {MM : Nat → List (Int × ByteArray)} (h : Mat w base v n V MM) : ∃ u c, v = .slice u n c := by
  rcases h.form with ⟨rfl, rfl⟩ | ⟨g, c, rfl, _⟩
  · exact ⟨_, _, rfl⟩
  · exact ⟨_, _, rfl⟩
/-- A tray in memory. -/
theorem mat_at {w : World} {base n c : Nat} {u : Option Addr} {V : Nat → Value} {MM : Nat → List (Int × ByteArray)} (h : Mat w base (.slice u n c) n V MM) {i : Nat} (hi : i < n) :
    ∃ g a d, u = some ⟨g, 0, none⟩ ∧ w.cell? ⟨g, i, none⟩ = some (.slice a (MM i).length d) ∧ Lts w a (MM i).length (nI (MM i)) (nC (MM i)) := by
  obtain ⟨g, d, e, h1, _⟩ := h.cell hi
  cases e
  obtain ⟨a, d', e, _, hl⟩ := (h.2.1 i hi).form
  exact ⟨g, a, d', rfl, by rw [h1, e], hl⟩

end Go.Proofs.Ytekfjheaffkakaa
