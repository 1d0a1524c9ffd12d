/-
  Drawn letters and held codes.
-/
import Derived.Test.YtihbpalhbbingaaDrawB
import Derived.Test.YtihbpalhbbingaaSCat
import Derived.Test.YtihbpalhbbingaaSplit
namespace Go.Proofs.Ytihbpalhbbingaa
open Go.RowKit
open Go.PlainAid (bt get_bt bt_nonneg bt_le)
set_option linter.unusedVariables false

/-- The reader stays where a block of one's own is written. -/
theorem Rd.past {w w' : World} {r N : Nat} {row : Option Nat} (h : Rd w r N) (hrow : ∀ b, row = some b → r < b) (hg : w.grownBy w' row) : Rd w' r N := by
  have hlt := h.lt
  have hne : ∀ b, b ≤ r → some b ≠ row := fun b hb e => by have := hrow b e.symm; omega
  obtain ⟨p, a, l, k, hp, hN, h0, h1, hf, hlk, hk, hl, hB⟩ := h
  refine ⟨p, a, l, k, hp, hN, hg.cell h0 (hne r (Nat.le_refl _)), hg.cell h1 (hne r (Nat.le_refl _)), (World.frozen?_of_block (a := ⟨r, 1, none⟩) (hg.block r hlt (hne r (Nat.le_refl _)))).trans hf, hlk, hk, hl, ?_⟩
  rcases hB with hB | ⟨b, off, rfl, hbr, hB⟩
  · exact Or.inl hB
  · refine Or.inr ⟨b, off, rfl, hbr, fun i hi => ?_⟩
    obtain ⟨x, hx, x0, x1⟩ := hB i hi
    exact ⟨x, hg.cell hx (hne b (by omega)), x0, x1⟩
theorem Sg.past {W w w' : World} {r N : Nat} {row : Option Nat} (h : Sg W w r N) (hrow : ∀ b, row = some b → r < b ∧ W.heap.size ≤ b) (hg : w.grownBy w' row) : Sg W w' r N :=
  ⟨h.1.past (fun b e => (hrow b e).1) hg, h.2.andThen hg fun j e => Or.inl (hrow j e).2⟩
theorem SRow.psg {w w' : World} {base r N : Nat} {v : Value} {L : List ByteArray} (h : SRow w base v L) (hs : Sg w w' r N) (hr : r < base) : SRow w' base v L :=
  h.kept hs.2 (fun b hb e => by have := (h.lt b hb).1; injection e with e; omega)
/-- Letters and strings that the law may read. -/
def LetsHeld (w : World) (e : Ending) (w' : World) : Prop := ∃ (v u : Value) (L : List (Int × ByteArray)) (H : List ByteArray) (B1 B2 : Nat), e = .returned (.tuple #[v, u]) ∧ Row w' B1 v L ∧ L.length ≤ 61 ∧ Small 30 L ∧ SRow w' B2 u H ∧ H.length ≤ 31 ∧ (∀ x ∈ H, x.size ≤ 7) ∧ Below w.heap.size w w'
end Go.Proofs.Ytihbpalhbbingaa
