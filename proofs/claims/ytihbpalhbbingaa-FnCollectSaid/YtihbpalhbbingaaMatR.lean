/-
  Slices of letters in a slice of slices, of which two may be one and the same: enough to read them.
-/
import Derived.Test.YtihbpalhbbingaaMatL
namespace Go.Proofs.Ytihbpalhbbingaa
open Go.RowKit
set_option linter.unusedVariables false

/-- n slices of letters, in a slice v of slices: the values V own the lists M; two of them may share their block. -/
def MatR (w : World) (base : Nat) (v : Value) (n : Nat) (V : Nat → Value) (M : Nat → List (Int × ByteArray)) : Prop :=
  w.ownsRow base 25 1 v n (vcells V n) ∧ (∀ i, i < n → Row w base (V i) (M i)) ∧ True
section
variable {w w' : World} {base n : Nat} {v : Value} {V : Nat → Value} {M : Nat → List (Int × ByteArray)}
theorem Mat.r (h : Mat w base v n V M) : MatR w base v n V M := ⟨h.1, h.2.1, trivial⟩
theorem MatR.lt (h : MatR w base v n V M) {k : Nat} (hk : inM v n V k) : base ≤ k ∧ k < w.heap.size := by
  rcases hk with hk | ⟨i, hi, hk⟩
  · exact World.ownsRow.lt h.1 k hk
  · exact (h.2.1 i hi).lt k hk
theorem MatR.form (h : MatR w base v n V M) : (v = .slice none 0 0 ∧ n = 0) ∨ ∃ g c, v = .slice (some ⟨g, 0, none⟩) n c ∧ base ≤ g ∧ g < w.heap.size ∧ n ≤ c := by
  rcases h.1.2 with ⟨rfl, hn⟩ | ⟨g, cap, cur, rfl, hb, hg, hc, _⟩
  · exact Or.inl ⟨rfl, hn⟩
  · exact Or.inr ⟨g, cap, rfl, hb, (Array.getElem?_eq_some_iff.1 hg).1, hc⟩
theorem MatR.only {S : Nat → Prop} (h : MatR w base v n V M) (ho : Only w w' S) (hn : ∀ k, inM v n V k → ¬ S k) : MatR w' base v n V M :=
  ⟨ownsRow_block h.1 fun g hg => ho.block g (h.lt (Or.inl hg)).2 (hn g (Or.inl hg)), fun i hi => (h.2.1 i hi).only ho fun b hb => hn b (Or.inr ⟨i, hi, hb⟩), h.2.2⟩
theorem MatR.on (h : MatR w base v n V M) (hb : Below w.heap.size w w') : MatR w' base v n V M := h.only (Only.new (S := fun _ => False) hb) fun _ _ h => h
theorem MatR.cell (h : MatR w base v n V M) {i : Nat} (hi : i < n) : ∃ g c, v = .slice (some ⟨g, 0, none⟩) n c ∧ w.cell? ⟨g, i, none⟩ = some (V i) ∧ w.frozen? ⟨g, i, none⟩ = false := by
  rcases h.form with ⟨_, hn⟩ | ⟨g, c, hv, _⟩
  · omega
  · subst hv
    exact ⟨g, c, rfl, by rw [World.ownsRow.cellAt h.1 i (by omega), vcells_at _ hi], World.ownsRow.frozenAt h.1 i⟩
theorem MatR.congr {M' : Nat → List (Int × ByteArray)} (h : MatR w base v n V M) (e : ∀ i, i < n → M i = M' i) : MatR w base v n V M' := ⟨h.1, fun i hi => by rw [← e i hi]; exact h.2.1 i hi, trivial⟩
theorem mat_slice_r (h : MatR w base v n V M) : ∃ u c, v = .slice u n c := by
  rcases h.form with ⟨rfl, rfl⟩ | ⟨g, c, rfl, _⟩
  · exact ⟨_, _, rfl⟩
  · exact ⟨_, _, rfl⟩
/-- A tray in memory. -/
theorem mat_at_r {c : Nat} {u : Option Addr} (h : MatR w base (.slice u n c) n V M) {i : Nat} (hi : i < n) :
    ∃ g a d, u = some ⟨g, 0, none⟩ ∧ w.cell? ⟨g, i, none⟩ = some (.slice a (M i).length d) ∧ Lts w a (M i).length (nI (M i)) (nC (M i)) := by
  obtain ⟨g, d, e, h1, _⟩ := h.cell hi
  cases e
  obtain ⟨a, d', e, _, hl⟩ := (h.2.1 i hi).form
  exact ⟨g, a, d', rfl, by rw [h1, e], hl⟩
end
end Go.Proofs.Ytihbpalhbbingaa
