/-
  Slices of numbers that the call itself has made: what they hold, append, and what the law's own text does with them.
-/
import Derived.Test.YtobmenbhbeflhaaStr
import Derived.Test.YtobmenbhbeflhaaRow
namespace Go.Proofs.Ytobmenbhbeflhaa
open Go.RowKit

def icells (L : List Int) : List Value := L.map (Value.int .i64)
theorem icells_length (L : List Int) : (icells L).length = L.length := by simp [icells]
theorem icells_at (L : List Int) (i : Nat) (h : i < L.length) : (icells L)[i]? = some (.int .i64 L[i]) := by simp [icells, h]
theorem icells_append (L R : List Int) : icells (L ++ R) = icells L ++ icells R := by simp [icells]
theorem icells_set (L : List Int) (j : Nat) (x : Int) : (icells L).set j (.int .i64 x) = icells (L.set j x) := by simp [icells, List.map_set]
/-- A slice that nobody but the call knows, whose numbers are L. -/
def IRow (w : World) (base : Nat) (v : Value) (L : List Int) : Prop := w.ownsRow base 3 1 v L.length (icells L)
theorem IRow.nil (w : World) (base : Nat) : IRow w base (.slice none 0 0) [] := ⟨rfl, Or.inl ⟨rfl, rfl⟩⟩
theorem IRow.lt {w : World} {base : Nat} {v : Value} {L : List Int} (h : IRow w base v L) : ∀ b, v.ownBlock = some b → base ≤ b ∧ b < w.heap.size := World.ownsRow.lt h
theorem IRow.only {w w' : World} {base : Nat} {v : Value} {L : List Int} {S : Nat → Prop} (h : IRow w base v L) (ho : Only w w' S) (hn : ∀ b, v.ownBlock = some b → ¬ S b) : IRow w' base v L :=
  ownsRow_block h fun g hg => ho.block g (h.lt g hg).2 (hn g hg)
theorem IRow.on {w w' : World} {base : Nat} {v : Value} {L : List Int} (h : IRow w base v L) (hb : Below w.heap.size w w') : IRow w' base v L := h.only (Only.new (S := fun _ => False) hb) fun _ _ h => h
theorem IRow.alloc {w : World} {base : Nat} {v : Value} {L : List Int} (h : IRow w base v L) (o : Obj) : IRow (w.alloc o) base v L := h.on (below_alloc0 w o)
theorem IRow.lower {w : World} {base base' : Nat} {v : Value} {L : List Int} (h : IRow w base v L) (hb : base' ≤ base) : IRow w base' v L := by
  refine ⟨h.1, ?_⟩
  rcases h.2 with ⟨rfl, hn⟩ | ⟨g, cap, cur, rfl, hbg, rest⟩
  · exact Or.inl ⟨rfl, hn⟩
  · exact Or.inr ⟨g, cap, cur, rfl, Nat.le_trans hb hbg, rest⟩
theorem IRow.cases {w : World} {base : Nat} {v : Value} {L : List Int} (h : IRow w base v L) : (v = .slice none 0 0 ∧ L = []) ∨ ∃ g c, v = .slice (some ⟨g, 0, none⟩) L.length c ∧ base ≤ g ∧ g < w.heap.size ∧ L.length ≤ c := by
  rcases h.2 with ⟨rfl, hn⟩ | ⟨g, cap, cur, rfl, hb, hg, hc, _⟩
  · exact Or.inl ⟨rfl, List.eq_nil_of_length_eq_zero hn⟩
  · exact Or.inr ⟨g, cap, rfl, hb, (Array.getElem?_eq_some_iff.1 hg).1, hc⟩
/-- n numbers in memory. -/
def Ints (w : World) (a : Option Addr) (L : List Int) : Prop := ∀ i (h : i < L.length), ∃ b, a = some ⟨b, 0, none⟩ ∧ w.cell? ⟨b, i, none⟩ = some (.int .i64 L[i])
theorem IRow.form {w : World} {base : Nat} {v : Value} {L : List Int} (h : IRow w base v L) : ∃ a c, v = .slice a L.length c ∧ L.length ≤ c ∧ Ints w a L := by
  rcases h.cases with ⟨rfl, rfl⟩ | ⟨g, c, rfl, _, _, hc⟩
  · exact ⟨none, 0, rfl, Nat.le_refl _, fun i hi => absurd hi (by simp)⟩
  · refine ⟨some ⟨g, 0, none⟩, c, rfl, hc, fun i hi => ⟨g, rfl, ?_⟩⟩
    rw [World.ownsRow.cellAt h i (by omega), icells_at L i hi]
theorem IRow.put {w : World} {base g n c : Nat} {L : List Int} (h : IRow w base (.slice (some ⟨g, 0, none⟩) n c) L) (hn : n = L.length) (j : Nat) (x : Int) :
    IRow (w.setCell ⟨g, j, none⟩ (.int .i64 x)) base (.slice (some ⟨g, 0, none⟩) n c) (L.set j x) := by
  subst hn
  have hs := (World.ownsRow.stored h j (.int .i64 x)).1
  rw [icells_set] at hs
  unfold IRow
  rw [List.length_set]
  exact hs
theorem one_irow (w : World) : IRow (w.alloc (.cells #[] 3)) w.heap.size (.slice (some ⟨w.heap.size, 0, none⟩) 0 0) [] :=
  World.ownsRow_lit (base := w.heap.size) (e := 3) (size := 1) w #[] 0 (Nat.le_refl _) (by unfold maxLen; omega) rfl
theorem info_int : (Try.prog.info? 3).map (fun i => (i.zero, i.size, i.bytes)) = some (some (.int .i64 0), 1, 8) := by kernel_rfl
theorem wpList_append_int {ops : Array Oper} {rest : List Oper} {o : Oper} {a : Act} {Q : Exit → Act → World → Prop} (w : World) (hgd : o.guard = none) (s x : Operand)
    (ho : o.op = .call { callee := .builtin .append, args := #[s, x], argTypes := #[47, 47] })
    (base : Nat) (v : Value) (L : List Int) (hs : a.eval s = v) (hrow : IRow w base v L) (b : Nat) (i : Int) (hx : a.eval x = .slice (some ⟨b, 0, none⟩) 1 1)
    (hc : w.cell? ⟨b, 0, none⟩ = some (.int .i64 i)) (hl : L.length ≤ 1048576) (hbase : base ≤ w.heap.size)
    (K : ∀ v' w', IRow w' base v' (L ++ [i]) → w.grownBy w' v.ownBlock → (v'.ownBlock = v.ownBlock ∨ v'.ownBlock = some w.heap.size) → wpList Try.prog ops Q rest (a.put o.dst v') w') :
    wpList Try.prog ops Q (o :: rest) a w := by
  obtain ⟨i0, hi, hz0, hz1, hz2⟩ := info_parts info_int
  refine wpList_append_own_at w hgd s x 47 ho base 3 i0 _ 1 8 Try.underlying47 hi hz0 hz1 hz2 rfl (by decide) v L.length (icells L) hs hrow ⟨b, 0, none⟩ 1 1 [.int .i64 i] hx rfl ?_ ?_ (by unfold maxLen; omega) (by omega) hbase ?_
  · intro j u hu
    match j, hu with
    | 0, hu => simp at hu; subst hu; simpa [Addr.add] using hc
  · intro u hu
    simp at hu
    subst hu; rfl
  · intro v' w' h1 h2 _ h3
    refine K v' w' ?_ h2 h3
    unfold IRow
    rw [List.length_append, icells_append]
    exact h1
/-- k, k+1, .. -/
def imarks (k n : Nat) : List Int := (List.range n).map fun i => ((k + i : Nat) : Int)
theorem imarks_length (k n : Nat) : (imarks k n).length = n := by simp [imarks]
theorem imarks_at {k n i : Nat} (h : i < (imarks k n).length) : (imarks k n)[i] = ((k + i : Nat) : Int) := by simp [imarks]
def imarkTo (L : List Int) (k : Nat) : Nat → List Int
  | 0 => L
  | j + 1 => (imarkTo L k j).set j ((k + j : Nat) : Int)
theorem imarkTo_length (L : List Int) (k : Nat) : ∀ j, (imarkTo L k j).length = L.length
  | 0 => rfl
  | j + 1 => by show ((imarkTo L k j).set j _).length = _; rw [List.length_set, imarkTo_length L k j]
theorem imarkTo_at (L : List Int) (k : Nat) : ∀ j i, i < j → i < L.length → (imarkTo L k j)[i]? = some ((k + i : Nat) : Int)
  | 0, _, h, _ => absurd h (by omega)
  | j + 1, i, h, hl => by
    show ((imarkTo L k j).set j _)[i]? = _
    by_cases e : i = j
    · subst e
      rw [List.getElem?_set_self (by rw [imarkTo_length]; exact hl)]
    · rw [List.getElem?_set_ne (by omega)]
      exact imarkTo_at L k j i (by omega) hl
theorem imarkTo_end (L : List Int) (k : Nat) : imarkTo L k L.length = imarks k L.length := by
  apply List.ext_getElem?
  intro i
  by_cases h : i < L.length
  · rw [imarkTo_at L k _ i h h]
    simp [imarks, h]
  · rw [List.getElem?_eq_none (by rw [imarkTo_length]; omega), List.getElem?_eq_none (by rw [imarks_length]; omega)]

end Go.Proofs.Ytobmenbhbeflhaa
