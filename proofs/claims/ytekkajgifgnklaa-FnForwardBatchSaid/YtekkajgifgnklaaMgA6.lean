/-
  A string is appended to a slice that the call itself has made.
-/
import Derived.Test.YtekkajgifgnklaaStr
import Derived.Maps.AppendAt
import Derived.OwnWalk
import Derived.Laws.OwnMore
import Derived.Test.YtekkajgifgnklaaMark
import Derived.Test.YtekkajgifgnklaaPlan
import Derived.Test.YtekkajgifgnklaaMath
namespace Go.Proofs.Ytekkajgifgnklaa
open Go.RowKit

theorem sone_empty (w : World) : SRow (w.alloc (.cells #[] 9)) w.heap.size (.slice (some ⟨w.heap.size, 0, none⟩) 0 0) [] :=
  World.ownsRow_lit (base := w.heap.size) (e := 9) (size := 1) w #[] 0 (Nat.le_refl _) (by unfold maxLen; omega) rfl
theorem SRow.alloc {w : World} {base : Nat} {v : Value} {L : List ByteArray} (h : SRow w base v L) (o : Obj) : SRow (w.alloc o) base v L := World.ownsRow.alloc h o
theorem info_string : (Try.prog.info? 9).map (fun i => (i.zero, i.size, i.bytes)) = some (some (.string ⟨#[]⟩), 1, 16) := by kernel_rfl
theorem wpList_append_string {ops : Array Oper} {rest : List Oper} {o : Oper} {a : Act} {Q : Exit → Act → World → Prop} (w : World) (hgd : o.guard = none) (s x : Operand)
    (ho : o.op = .call { callee := .builtin .append, args := #[s, x], argTypes := #[42, 42] })
    (base : Nat) (v : Value) (L : List ByteArray) (hs : a.eval s = v) (hrow : SRow w base v L) (b : Nat) (t : ByteArray) (hx : a.eval x = .slice (some ⟨b, 0, none⟩) 1 1)
    (hc : w.cell? ⟨b, 0, none⟩ = some (.string t)) (hl : L.length ≤ 1048576) (hbase : base ≤ w.heap.size)
    (K : ∀ v' w', SRow w' base v' (L ++ [t]) → w.grownBy w' v.ownBlock → (v'.ownBlock = v.ownBlock ∨ v'.ownBlock = some w.heap.size) → wpList Try.prog ops Q rest (a.put o.dst v') w') :
    wpList Try.prog ops Q (o :: rest) a w := by
  obtain ⟨i0, hi, hz0, hz1, hz2⟩ := info_parts info_string
  refine wpList_append_own_at w hgd s x 42 ho base 9 i0 _ 1 16 Try.underlying42 hi hz0 hz1 hz2 rfl (by decide) v L.length (scells L) hs hrow ⟨b, 0, none⟩ 1 1 [.string t] hx rfl ?_ ?_ (by unfold maxLen; omega) (by omega) hbase ?_
  · intro j u hu
    match j, hu with
    | 0, hu => simp at hu; subst hu; simpa [Addr.add] using hc
  · intro u hu
    simp at hu
    subst hu; rfl
  · intro v' w' h1 h2 _ h3
    refine K v' w' ?_ h2 h3
    unfold SRow
    rw [List.length_append, scells_append]
    exact h1
end Go.Proofs.Ytekkajgifgnklaa

/-
  The marks that a law writes into a plan's codes.
-/
namespace Go.Proofs.Ytekkajgifgnklaa
open Go.RowKit
open Go.PlainAid (bt get_bt bt_nonneg bt_le)

theorem SRow.on {w w' : World} {base : Nat} {v : Value} {L : List ByteArray} (h : SRow w base v L) (hb : Below w.heap.size w w') : SRow w' base v L := h.below hb

end Go.Proofs.Ytekkajgifgnklaa

/-
  Letters in bins: each letter goes behind those that are already in the bin of its key. No program is named here.
-/
namespace Go.Proofs.Ytekkajgifgnklaa.M
open Go.PlainAid (bt)

/-- The bins after k letters. -/
def binTo (key : Nat → Option Nat) (I : Nat → Int) (C : Nat → ByteArray) : Nat → Nat → List (Int × ByteArray)
  | 0 => fun _ => []
  | k + 1 => match key k with
    | none => binTo key I C k
    | some d => fun i => if i = d then binTo key I C k d ++ [(I k, C k)] else binTo key I C k i
theorem binTo_none {key : Nat → Option Nat} {k : Nat} (h : key k = none) (I : Nat → Int) (C : Nat → ByteArray) : binTo key I C (k + 1) = binTo key I C k := by
  show (match key k with | none => binTo key I C k | some d => _) = _
  rw [h]
theorem binTo_some {key : Nat → Option Nat} {k d : Nat} (h : key k = some d) (I : Nat → Int) (C : Nat → ByteArray) : binTo key I C (k + 1) = fun i => if i = d then binTo key I C k d ++ [(I k, C k)] else binTo key I C k i := by
  show (match key k with | none => binTo key I C k | some d => _) = _
  rw [h]
theorem binTo_len (key : Nat → Option Nat) (I : Nat → Int) (C : Nat → ByteArray) : ∀ k i, (binTo key I C k i).length ≤ k
  | 0, _ => Nat.le_refl 0
  | k + 1, i => by
    cases h : key k with
    | none => rw [binTo_none h]; have := binTo_len key I C k i; omega
    | some d =>
      rw [binTo_some h]
      simp only
      split
      · have := binTo_len key I C k d; simp; omega
      · have := binTo_len key I C k i; omega
/-- The digit of a code, as the number of its bin. -/
def dig1 (C : Nat → ByteArray) (x : Nat) (k : Nat) : Option Nat := some (bt (C k) x - 48).toNat
def bins (I : Nat → Int) (C : Nat → ByteArray) (x n : Nat) : Nat → List (Int × ByteArray) := binTo (dig1 C x) I C n
/-- The letters of n bins, one bin after the other. -/
def flat (M : Nat → List (Int × ByteArray)) : Nat → List (Int × ByteArray)
  | 0 => []
  | n + 1 => flat M n ++ M n
theorem flat_congr {M M' : Nat → List (Int × ByteArray)} : ∀ {n : Nat}, (∀ i, i < n → M i = M' i) → flat M n = flat M' n
  | 0, _ => rfl
  | n + 1, h => by show flat M n ++ M n = flat M' n ++ M' n; rw [flat_congr fun i hi => h i (by omega), h n (by omega)]
end Go.Proofs.Ytekkajgifgnklaa.M
