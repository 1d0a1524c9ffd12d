/-
  A string is appended to a slice that the call itself has made.
-/
import Derived.Test.YtekkajgifgnklaaStr
import Derived.Maps.AppendAt
import Derived.OwnWalk
import Derived.Laws.OwnMore
namespace Go.Proofs.Ytekkajgifgnklaa
open Go.RowKit

theorem sone_empty (w : World) : SRow (w.alloc (.cells #[] 9)) w.heap.size (.slice (some ⟨w.heap.size, 0, none⟩) 0 0) [] :=
  World.ownsRow_lit (base := w.heap.size) (e := 9) (size := 1) w #[] 0 (Nat.le_refl _) (by unfold maxLen; omega) rfl
theorem SRow.alloc {w : World} {base : Nat} {v : Value} {L : List ByteArray} (h : SRow w base v L) (o : Obj) : SRow (w.alloc o) base v L := World.ownsRow.alloc h o
theorem info_string : (Try.prog.info? 9).map (fun i => (i.zero, i.size, i.bytes)) = some (some (.string ⟨#[]⟩), 1, 16) := by kernel_rfl
theorem wpList_append_string {ops : Array Oper} {rest : List Oper} {o : Oper} {a : Act} {Q : Exit → Act → World → Prop} (w : World) (hgd : o.guard = none) (s x : Operand)
    (ho : o.op = .call { callee := .builtin .append, args := #[s, x], argTypes := #[42, 42] })
    (base : Nat) (v : Value) (L : List ByteArray) (hs : a.eval s = v) (hrow : SRow w base v L) (b : Nat) (t : ByteArray) (hx : a.eval x = .slice (some ⟨b, 0, none⟩) 1 1)
    (hc : w.cell? ⟨b, 0, none⟩ = some (.string t)) (hl : L.length ≤ 1048576) (hbase : base ≤ w.heap.size)
    (K : ∀ v' w', SRow w' base v' (L ++ [t]) → w.grownBy w' v.ownBlock → (v'.ownBlock = v.ownBlock ∨ v'.ownBlock = some w.heap.size) → wpList Try.prog ops Q rest (a.put o.dst v') w') :
    wpList Try.prog ops Q (o :: rest) a w := by
  obtain ⟨i0, hi, hz0, hz1, hz2⟩ := info_parts info_string
  refine wpList_append_own_at w hgd s x 42 ho base 9 i0 _ 1 16 Try.underlying42 hi hz0 hz1 hz2 rfl (by decide) v L.length (scells L) hs hrow ⟨b, 0, none⟩ 1 1 [.string t] hx rfl ?_ ?_ (by unfold maxLen; omega) (by omega) hbase ?_
  · intro j u hu
    match j, hu with
    | 0, hu => simp at hu; subst hu; simpa [Addr.add] using hc
  · intro u hu
    simp at hu
    subst hu; rfl
  · intro v' w' h1 h2 _ h3
    refine K v' w' ?_ h2 h3
    unfold SRow
    rw [List.length_append, scells_append]
    exact h1
end Go.Proofs.Ytekkajgifgnklaa
