/-
  Drawn arguments of PlanRank and PlanBin.
-/
import Derived.Test.YthnaglnmmgpiaaaDrawQ
namespace Go.Proofs.Ythnaglnmmgpiaaa
open Go.RowKit

theorem IsRow.below {k : IntKind} {w w' : World} {a : Option Addr} {l c : Nat} {z : List Int} (h : IsRow k w a l c z) (hb : Below w.heap.size w w') : IsRow k w' a l c z := by
  rcases h with h | ⟨x, hx, q1, q2, q3, q4, q5⟩
  · exact Or.inl h
  · exact Or.inr ⟨x, hx, q1, q2, q3, fun i hi => (hb.cell (p := x.add i) (World.block_lt_of_cell? _ _ (q4 i hi))).trans (q4 i hi), q5⟩
theorem SmallS.fits {z : Nat} {L : List ByteArray} (h : SmallS z L) (hz : z ≤ 1000) : SFits L.length (sC L) := fun i hi => by
  rw [sC_at hi]
  have := h _ (List.getElem_mem hi)
  unfold maxLen; omega
theorem SRow.strs' {w : World} {base : Nat} {a : Option Addr} {c : Nat} {L : List ByteArray} (h : SRow w base (.slice a L.length c) L) : Strs w a L.length (sC L) := by
  obtain ⟨a', c', e, _, hl⟩ := h.form
  injection e with e1 _ _
  subst e1
  exact hl
/-- A drawn plan and a string. -/
def PlanStr (w : World) (e : Ending) (w' : World) : Prop := ∃ (b p : Int) (a : Option Addr) (n c : Nat) (S : Nat → ByteArray) (s : ByteArray), e = .returned (.tuple #[.agg #[.int .i64 b, .int .i64 p, .slice a n c], .string s]) ∧ (-9223372036854775808 ≤ b ∧ b ≤ 9223372036854775807) ∧ (0 ≤ p ∧ p ≤ 5) ∧ Strs w' a n S ∧ SFits n S ∧ n ≤ 13 ∧ s.size ≤ 30 ∧ (∀ b o, a = some ⟨b, o, none⟩ → 0 < n → w.heap.size ≤ b) ∧ Below w.heap.size w w'

end Go.Proofs.Ythnaglnmmgpiaaa
