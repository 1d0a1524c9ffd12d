/-
  Drawn letters that are sometimes no batch.
-/
import Derived.Test.YthnaglnmmgpiaaaDrawG
import Derived.Test.YthnaglnmmgpiaaaMark
namespace Go.Proofs.Ythnaglnmmgpiaaa
open Go.RowKit

theorem lcells_code (L : List (Int × ByteArray)) (j : Nat) (hj : j < L.length) (s : ByteArray) : (lcells L).set (j * 2 + 1) (.string s) = lcells (L.set j (L[j].1, s)) := by
  rw [← lcells_set L j L[j].1 s]
  congr 1
  apply List.ext_getElem?
  intro i
  rw [List.getElem?_set]
  split
  · next e => subst e; rw [(lcells_at L j hj).1]; split
              · rfl
              · next h => exact absurd (by rw [lcells_length]; omega) h
  · rfl
theorem lcells_id (L : List (Int × ByteArray)) (j : Nat) (hj : j < L.length) (x : Int) : (lcells L).set (j * 2) (.int .i64 x) = lcells (L.set j (x, L[j].2)) := by
  rw [← lcells_set L j x L[j].2]
  apply List.ext_getElem?
  intro i
  rw [List.getElem?_set (i := j * 2 + 1)]
  split
  · next e => subst e; rw [List.getElem?_set_ne (by omega), (lcells_at L j hj).2]; split
              · rfl
              · next h => exact absurd (by simp [lcells_length]; omega) h
  · rfl
theorem Row.code {w : World} {base g c : Nat} {L : List (Int × ByteArray)} (h : Row w base (.slice (some ⟨g, 0, none⟩) L.length c) L) (j : Nat) (hj : j < L.length) (s : ByteArray) :
    Row (w.setCell ⟨g, j * 2 + 1, none⟩ (.string s)) base (.slice (some ⟨g, 0, none⟩) L.length c) (L.set j (L[j].1, s)) ∧ w.grownBy (w.setCell ⟨g, j * 2 + 1, none⟩ (.string s)) (some g) := by
  have hs := World.ownsRow.stored h (j * 2 + 1) (.string s)
  rw [lcells_code L j hj s] at hs
  exact ⟨by unfold Row; rw [List.length_set]; exact hs.1, hs.2⟩
theorem Row.id {w : World} {base g c : Nat} {L : List (Int × ByteArray)} (h : Row w base (.slice (some ⟨g, 0, none⟩) L.length c) L) (j : Nat) (hj : j < L.length) (x : Int) :
    Row (w.setCell ⟨g, j * 2, none⟩ (.int .i64 x)) base (.slice (some ⟨g, 0, none⟩) L.length c) (L.set j (x, L[j].2)) ∧ w.grownBy (w.setCell ⟨g, j * 2, none⟩ (.int .i64 x)) (some g) := by
  have hs := World.ownsRow.stored h (j * 2) (.int .i64 x)
  rw [lcells_id L j hj x] at hs
  exact ⟨by unfold Row; rw [List.length_set]; exact hs.1, hs.2⟩
theorem Row.cells {w : World} {base g c : Nat} {L : List (Int × ByteArray)} (h : Row w base (.slice (some ⟨g, 0, none⟩) L.length c) L) (j : Nat) (hj : j < L.length) :
    w.cell? ⟨g, j * 2, none⟩ = some (.int .i64 L[j].1) ∧ w.cell? ⟨g, j * 2 + 1, none⟩ = some (.string L[j].2) ∧ w.frozen? ⟨g, j * 2, none⟩ = false ∧ w.frozen? ⟨g, j * 2 + 1, none⟩ = false :=
  ⟨by rw [World.ownsRow.cellAt h (j * 2) (by omega)]; exact (lcells_at L j hj).1, by rw [World.ownsRow.cellAt h (j * 2 + 1) (by omega)]; exact (lcells_at L j hj).2, World.ownsRow.frozenAt h _, World.ownsRow.frozenAt h _⟩
theorem Small.set {z : Nat} {L : List (Int × ByteArray)} (h : Small z L) (j : Nat) (y : Int × ByteArray) {z' : Nat} (hz : z ≤ z') (hy : (-1 ≤ y.1 ∧ y.1 ≤ 100000) ∧ y.2.size ≤ z') : Small z' (L.set j y) := fun x hx => by
  rcases List.mem_or_eq_of_mem_set hx with h' | rfl
  · have := h x h'; exact ⟨this.1, by omega⟩
  · exact hy
theorem Small.mono {z z' : Nat} {L : List (Int × ByteArray)} (h : Small z L) (hz : z ≤ z') : Small z' L := fun x hx => ⟨(h x hx).1, Nat.le_trans (h x hx).2 hz⟩
theorem Small.at {z : Nat} {L : List (Int × ByteArray)} (h : Small z L) (j : Nat) (hj : j < L.length) : (-1 ≤ L[j].1 ∧ L[j].1 ≤ 100000) ∧ L[j].2.size ≤ z := h _ (List.getElem_mem hj)
def lenOf : Value → Nat
  | .slice _ n _ => n
  | _ => 0
theorem below_alloc' (w : World) (o : Obj) : Below w.heap.size w (w.alloc o) := (Below.refl _ _).alloc (Nat.le_refl _) _
def RowBad (w : World) (base r N : Nat) (e : Ending) (w' : World) : Prop := ∃ (v' : Value) (L' : List (Int × ByteArray)), e = .returned v' ∧ Row w' base v' L' ∧ L'.length ≤ 61 ∧ Small 30 L' ∧ Rd w' r (N + 20) ∧ Below r w w'
theorem Sg.below_r {w w' : World} {r N : Nat} (h : Sg w w' r N) (hr : r < w.heap.size) : Below r w w' := ⟨h.2.os, h.2.tape, h.2.output, h.2.size, fun k hk => h.2.block k (by omega) (by intro e; injection e with e; omega)⟩
theorem grown_r {w w' : World} {r : Nat} {row : Option Nat} (h : w.grownBy w' row) (hr : ∀ j, row = some j → r ≤ j) (hs : r ≤ w.heap.size) : Below r w w' := ⟨h.os, h.tape, h.output, h.size, fun k hk => h.block k (by omega) (by intro e; have := hr k e.symm; omega)⟩
def RowOpen (w : World) (r N : Nat) (e : Ending) (w' : World) : Prop := ∃ (base : Nat) (v' : Value) (L' : List (Int × ByteArray)), e = .returned v' ∧ r < base ∧ Row w' base v' L' ∧ L'.length ≤ 61 ∧ Small 30 L' ∧ Rd w' r N ∧ Below r w w'
/-- Drawn letters, and a number. -/
def Lets (w w' : World) (v : Value) : Prop := ∃ (a : Option Addr) (n c : Nat) (I : Nat → Int) (C : Nat → ByteArray), v = .slice a n c ∧ Lts w' a n I C ∧ Fits n I C ∧ n ≤ 61 ∧ Below w.heap.size w w'
theorem lets_of {w w' : World} {base : Nat} {v : Value} {L : List (Int × ByteArray)} (h : Row w' base v L) (hl : L.length ≤ 61) (hs : Small 30 L) (hb : Below w.heap.size w w') : Lets w w' v := by
  obtain ⟨a, c, rfl, _, hL⟩ := h.form
  refine ⟨a, _, c, _, _, rfl, hL, fun i hi => ?_, hl, hb⟩
  have := hs.at i hi
  rw [nI_at hi, nC_at hi]
  exact ⟨by omega, by unfold maxLen; omega⟩
def LetsNum (w : World) (e : Ending) (w' : World) : Prop := ∃ (v : Value) (x : Int), e = .returned (.tuple #[v, .int .i64 x]) ∧ Lets w w' v
def LetsStr (w : World) (e : Ending) (w' : World) : Prop := ∃ (v : Value) (s : ByteArray), e = .returned (.tuple #[v, .string s]) ∧ s.size ≤ 30 ∧ Lets w w' v
end Go.Proofs.Ythnaglnmmgpiaaa
