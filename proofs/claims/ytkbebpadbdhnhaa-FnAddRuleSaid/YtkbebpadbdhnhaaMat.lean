/-
  Slices of letters in a slice: what they hold, and what a store, an append, a new one does to them.
-/
import Derived.Test.YtkbebpadbdhnhaaRow
import Derived.Test.YtkbebpadbdhnhaaStr
import Derived.Laws.OwnMore
namespace Go.Proofs.Ytkbebpadbdhnhaa
open Go.RowKit

def upd {α : Type} (f : Nat → α) (d : Nat) (x : α) : Nat → α := fun i => if i = d then x else f i
theorem upd_same {α : Type} (f : Nat → α) (d : Nat) (x : α) : upd f d x d = x := if_pos rfl
theorem upd_other {α : Type} (f : Nat → α) {d i : Nat} (x : α) (h : i ≠ d) : upd f d x i = f i := if_neg h
def vcells (V : Nat → Value) (n : Nat) : List Value := (List.range n).map V
theorem vcells_length (V : Nat → Value) (n : Nat) : (vcells V n).length = n := by simp [vcells]
theorem vcells_at (V : Nat → Value) {n i : Nat} (h : i < n) : (vcells V n)[i]? = some (V i) := by simp [vcells, h]
theorem vcells_set (V : Nat → Value) {n d : Nat} (x : Value) : (vcells V n).set d x = vcells (upd V d x) n := by
  apply List.ext_getElem?
  intro i
  by_cases hi : i < n
  · rw [vcells_at _ hi, List.getElem?_set]
    by_cases e : d = i
    · subst e
      rw [if_pos rfl, if_pos (by rw [vcells_length]; exact hi), upd_same]
    · rw [if_neg e, vcells_at _ hi, upd_other _ _ (fun h => e h.symm)]
  · rw [List.getElem?_eq_none (by rw [List.length_set, vcells_length]; omega), List.getElem?_eq_none (by rw [vcells_length]; omega)]
theorem vcells_push (V : Nat → Value) (n : Nat) (x : Value) : vcells V n ++ [x] = vcells (upd V n x) (n + 1) := by
  unfold vcells
  rw [List.range_succ, List.map_append]
  congr 1
  · apply List.map_congr_left
    intro i hi
    rw [upd_other _ _ (by have := List.mem_range.1 hi; omega)]
  · simp [upd_same]
/-- The blocks of such slices. -/
def inM (v : Value) (n : Nat) (V : Nat → Value) (k : Nat) : Prop := v.ownBlock = some k ∨ ∃ i, i < n ∧ (V i).ownBlock = some k
section
variable {w w' : World} {base n : Nat} {v : Value} {V : Nat → Value} {M : Nat → List (Int × ByteArray)}
theorem inM_put {G c d : Nat} {x : Value} {k H : Nat} (hd : d < n) (hx : ∀ k, x.ownBlock = some k → (V d).ownBlock = some k ∨ H ≤ k) (hk : inM (.slice (some ⟨G, 0, none⟩) n c) n (upd V d x) k) : inM (.slice (some ⟨G, 0, none⟩) n c) n V k ∨ H ≤ k := by
  rcases hk with hk | ⟨i, hi, hk⟩
  · exact Or.inl (Or.inl hk)
  · by_cases e : i = d
    · subst e
      rw [upd_same] at hk
      rcases hx k hk with h | h
      · exact Or.inl (Or.inr ⟨i, hi, h⟩)
      · exact Or.inr h
    · rw [upd_other _ _ e] at hk
      exact Or.inl (Or.inr ⟨i, hi, hk⟩)
end
theorem vcells_nil (n : Nat) : vcells (fun _ => Value.slice none 0 0) n = List.replicate n (.slice none 0 0) := by
  apply List.ext_getElem?
  intro i
  by_cases hi : i < n
  · rw [vcells_at _ hi]; simp [hi]
  · rw [List.getElem?_eq_none (by rw [vcells_length]; omega), List.getElem?_eq_none (by simp; omega)]
end Go.Proofs.Ytkbebpadbdhnhaa
