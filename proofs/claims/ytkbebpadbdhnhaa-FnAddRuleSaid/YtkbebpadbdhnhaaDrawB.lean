/-
  Drawn letters that are sometimes no batch.
-/
import Derived.Test.YtkbebpadbdhnhaaDrawG
import Derived.Test.YtkbebpadbdhnhaaMark
namespace Go.Proofs.Ytkbebpadbdhnhaa
open Go.RowKit

theorem lcells_code (L : List (Int × ByteArray)) (j : Nat) (hj : j < L.length) (s : ByteArray) : (lcells L).set (j * 2 + 1) (.string s) = lcells (L.set j (L[j].1, s)) := by
  rw [← lcells_set L j L[j].1 s]
  congr 1
  apply List.ext_getElem?
  intro i
  rw [List.getElem?_set]
  split
  · next e => subst e; rw [(lcells_at L j hj).1]; split
              · rfl
              · next h => exact absurd (by rw [lcells_length]; omega) h
  · rfl
theorem lcells_id (L : List (Int × ByteArray)) (j : Nat) (hj : j < L.length) (x : Int) : (lcells L).set (j * 2) (.int .i64 x) = lcells (L.set j (x, L[j].2)) := by
  rw [← lcells_set L j x L[j].2]
  apply List.ext_getElem?
  intro i
  rw [List.getElem?_set (i := j * 2 + 1)]
  split
  · next e => subst e; rw [List.getElem?_set_ne (by omega), (lcells_at L j hj).2]; split
              · rfl
              · next h => exact absurd (by simp [lcells_length]; omega) h
  · rfl
theorem Small.set {z : Nat} {L : List (Int × ByteArray)} (h : Small z L) (j : Nat) (y : Int × ByteArray) {z' : Nat} (hz : z ≤ z') (hy : (-1 ≤ y.1 ∧ y.1 ≤ 100000) ∧ y.2.size ≤ z') : Small z' (L.set j y) := fun x hx => by
  rcases List.mem_or_eq_of_mem_set hx with h' | rfl
  · have := h x h'; exact ⟨this.1, by omega⟩
  · exact hy
theorem Small.mono {z z' : Nat} {L : List (Int × ByteArray)} (h : Small z L) (hz : z ≤ z') : Small z' L := fun x hx => ⟨(h x hx).1, Nat.le_trans (h x hx).2 hz⟩
theorem Small.at {z : Nat} {L : List (Int × ByteArray)} (h : Small z L) (j : Nat) (hj : j < L.length) : (-1 ≤ L[j].1 ∧ L[j].1 ≤ 100000) ∧ L[j].2.size ≤ z := h _ (List.getElem_mem hj)
def lenOf : Value → Nat
  | .slice _ n _ => n
  | _ => 0
theorem below_alloc' (w : World) (o : Obj) : Below w.heap.size w (w.alloc o) := (Below.refl _ _).alloc (Nat.le_refl _) _
theorem Sg.below_r {w w' : World} {r N : Nat} (h : Sg w w' r N) (hr : r < w.heap.size) : Below r w w' := ⟨h.2.os, h.2.tape, h.2.output, h.2.size, fun k hk => h.2.block k (by omega) (by intro e; injection e with e; omega)⟩
theorem grown_r {w w' : World} {r : Nat} {row : Option Nat} (h : w.grownBy w' row) (hr : ∀ j, row = some j → r ≤ j) (hs : r ≤ w.heap.size) : Below r w w' := ⟨h.os, h.tape, h.output, h.size, fun k hk => h.block k (by omega) (by intro e; have := hr k e.symm; omega)⟩
/-- Drawn letters, and a number. -/
def Lets (w w' : World) (v : Value) : Prop := ∃ (a : Option Addr) (n c : Nat) (I : Nat → Int) (C : Nat → ByteArray), v = .slice a n c ∧ Lts w' a n I C ∧ Fits n I C ∧ n ≤ 61 ∧ Below w.heap.size w w'
def LetsNum (w : World) (e : Ending) (w' : World) : Prop := ∃ (v : Value) (x : Int), e = .returned (.tuple #[v, .int .i64 x]) ∧ Lets w w' v
def LetsStr (w : World) (e : Ending) (w' : World) : Prop := ∃ (v : Value) (s : ByteArray), e = .returned (.tuple #[v, .string s]) ∧ s.size ≤ 30 ∧ Lets w w' v
end Go.Proofs.Ytkbebpadbdhnhaa
