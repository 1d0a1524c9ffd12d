/-
  Letters in slices that the call itself has made: what they hold, append, and two of them side by side.
-/
import Derived.Test.YtobmenbhbeflhaaSortM
import Derived.Test.YtobmenbhbeflhaaBatch
import Derived.Maps.AppendAt
import Derived.OwnWalk
import Derived.Laws.OwnMore
namespace Go.Proofs.Ytobmenbhbeflhaa
open Go.RowKit

/-- Letters as cells. -/
def lcells : List (Int × ByteArray) → List Value
  | [] => []
  | x :: L => .int .i64 x.1 :: .string x.2 :: lcells L
theorem lcells_length : ∀ L, (lcells L).length = L.length * 2
  | [] => rfl
  | x :: L => by show (lcells L).length + 1 + 1 = (L.length + 1) * 2; rw [lcells_length L]; omega
theorem lcells_append : ∀ L L', lcells (L ++ L') = lcells L ++ lcells L'
  | [], _ => rfl
  | x :: L, L' => by show _ :: _ :: lcells (L ++ L') = _; rw [lcells_append L L']; rfl
theorem lcells_at : ∀ (L : List (Int × ByteArray)) (i : Nat) (h : i < L.length), (lcells L)[i * 2]? = some (.int .i64 (L[i].1)) ∧ (lcells L)[i * 2 + 1]? = some (.string (L[i].2))
  | [], _, h => absurd h (by simp)
  | x :: L, 0, _ => ⟨rfl, rfl⟩
  | x :: L, i + 1, h => by
    have ih := lcells_at L i (by simpa using h)
    have e1 : (i + 1) * 2 = i * 2 + 1 + 1 := by omega
    rw [e1]
    exact ih
def nI (L : List (Int × ByteArray)) (i : Nat) : Int := (L.getD i (0, ⟨#[]⟩)).1
def nC (L : List (Int × ByteArray)) (i : Nat) : ByteArray := (L.getD i (0, ⟨#[]⟩)).2
theorem nI_at {L : List (Int × ByteArray)} {i : Nat} (h : i < L.length) : nI L i = L[i].1 := by unfold nI; simp [List.getD, h]
theorem nC_at {L : List (Int × ByteArray)} {i : Nat} (h : i < L.length) : nC L i = L[i].2 := by unfold nC; simp [List.getD, h]

/-- A slice value that owns letters: nil, or in a block from base on. -/
def Row (w : World) (base : Nat) (v : Value) (L : List (Int × ByteArray)) : Prop := w.ownsRow base 31 2 v L.length (lcells L)
theorem Row.nil (w : World) (base : Nat) : Row w base (.slice none 0 0) [] := World.ownsRow_nil _ _ _ _
theorem Row.alloc {w : World} {base : Nat} {v : Value} {L : List (Int × ByteArray)} (h : Row w base v L) (o : Obj) : Row (w.alloc o) base v L := World.ownsRow.alloc h o
theorem Row.drew {w : World} {base : Nat} {v : Value} {L : List (Int × ByteArray)} (h : Row w base v L) : Row w.drew base v L := h
theorem Row.lt {w : World} {base : Nat} {v : Value} {L : List (Int × ByteArray)} (h : Row w base v L) : ∀ k, v.ownBlock = some k → base ≤ k ∧ k < w.heap.size := World.ownsRow.lt h
theorem Row.form {w : World} {base : Nat} {v : Value} {L : List (Int × ByteArray)} (h : Row w base v L) : ∃ a c, v = .slice a L.length c ∧ L.length ≤ c ∧ Lts w a L.length (nI L) (nC L) := by
  have h2 := h
  rcases h.2 with ⟨rfl, hn⟩ | ⟨g, cap, cur, rfl, _, _, hc, _, _, _⟩
  · exact ⟨none, 0, by rw [hn], by omega, fun i hi => absurd hi (by omega)⟩
  · refine ⟨_, _, rfl, hc, fun i hi => ⟨g, 0, rfl, ?_, ?_⟩⟩
    · rw [Nat.zero_add, World.ownsRow.cellAt h2 (i * 2) (by omega), (lcells_at L i hi).1, nI_at hi]
    · rw [Nat.zero_add, World.ownsRow.cellAt h2 (i * 2 + 1) (by omega), (lcells_at L i hi).2, nC_at hi]
theorem Row.kept {w w' : World} {base : Nat} {v : Value} {L : List (Int × ByteArray)} {row : Option Nat} (h : Row w base v L) (hg : w.grownBy w' row) (hne : ∀ b, v.ownBlock = some b → row ≠ some b) : Row w' base v L :=
  World.ownsRow.kept h hg (by
    cases hv : v.ownBlock with
    | none => exact Or.inl rfl
    | some b => exact Or.inr fun e => hne b hv e.symm)
theorem grown_of_below {w w' : World} (hb : Below w.heap.size w w') : w.grownBy w' none := ⟨hb.os, hb.tape, hb.output, hb.size, fun k hk _ => hb.block k hk⟩
theorem Row.on {w w' : World} {base : Nat} {v : Value} {L : List (Int × ByteArray)} (h : Row w base v L) (hb : Below w.heap.size w w') : Row w' base v L :=
  h.kept (grown_of_below hb) (fun _ _ e => by cases e)

/-- Two slices in two blocks. -/
def Apart (u v : Value) : Prop := ∀ b, u.ownBlock = some b → v.ownBlock ≠ some b
theorem Apart.symm {u v : Value} (h : Apart u v) : Apart v u := fun b hb e => h b e hb
theorem Apart.nil (v : Value) : Apart (.slice none 0 0) v := fun b hb => by simp [Value.ownBlock] at hb
theorem two_kept {w w1 : World} {base : Nat} {v v' u : Value} {L : List (Int × ByteArray)} (hu : Row w base u L) (ha : Apart v u) (hg : w.grownBy w1 v.ownBlock) {s : Nat} (ho : v'.ownBlock = v.ownBlock ∨ v'.ownBlock = some s) (hs : w.heap.size ≤ s) : Row w1 base u L ∧ Apart v' u := by
  refine ⟨hu.kept hg fun b hb e => ha b e hb, fun b hb e => ?_⟩
  rcases ho with ho | ho
  · exact ha b (ho.symm.trans hb) e
  · have hlt := (hu.lt b e).2
    have := Option.some.inj (ho.symm.trans hb)
    omega
theorem below_grown {W w w1 : World} {base : Nat} {v : Value} {L : List (Int × ByteArray)} (hb : Below W.heap.size W w) (h : Row w base v L) (hbase : W.heap.size ≤ base) (hg : w.grownBy w1 v.ownBlock) : Below W.heap.size W w1 :=
  hb.grown hg hb.size fun k hk => Nat.le_trans hbase (h.lt k hk).1

theorem info_letter : (Try.prog.info? 31).map (fun i => (i.zero, i.size, i.bytes)) = some (some (.agg #[.int .i64 0, .string ⟨#[]⟩]), 2, 24) := by kernel_rfl
theorem wpList_append_letter {ops : Array Oper} {rest : List Oper} {o : Oper} {a : Act} {Q : Exit → Act → World → Prop} (w : World) (hgd : o.guard = none) (s x : Operand)
    (ho : o.op = .call { callee := .builtin .append, args := #[s, x], argTypes := #[23, 23] })
    (base : Nat) (v : Value) (L : List (Int × ByteArray)) (hs : a.eval s = v) (hrow : Row w base v L) (b : Nat) (i : Int) (t : ByteArray) (hx : a.eval x = .slice (some ⟨b, 0, none⟩) 1 1)
    (hc : w.cell? ⟨b, 0, none⟩ = some (.int .i64 i) ∧ w.cell? ⟨b, 1, none⟩ = some (.string t)) (hl : L.length ≤ 1048576) (hbase : base ≤ w.heap.size)
    (K : ∀ v' w', Row w' base v' (L ++ [(i, t)]) → w.grownBy w' v.ownBlock → (v'.ownBlock = v.ownBlock ∨ v'.ownBlock = some w.heap.size) → wpList Try.prog ops Q rest (a.put o.dst v') w') :
    wpList Try.prog ops Q (o :: rest) a w := by
  obtain ⟨i0, hi, hz0, hz1, hz2⟩ := info_parts info_letter
  refine wpList_append_own_at w hgd s x 23 ho base 31 i0 _ 2 24 Try.underlying23 hi hz0 hz1 hz2 rfl (by decide) v L.length (lcells L) hs hrow ⟨b, 0, none⟩ 1 1 [.int .i64 i, .string t] hx rfl ?_ ?_ (by unfold maxLen; omega) (by omega) hbase ?_
  · intro j u hu
    match j, hu with
    | 0, hu => simp at hu; subst hu; simpa [Addr.add] using hc.1
    | 1, hu => simp at hu; subst hu; simpa [Addr.add] using hc.2
  · intro u hu
    simp at hu
    rcases hu with rfl | rfl <;> rfl
  · intro v' w' h1 h2 _ h3
    refine K v' w' ?_ h2 h3
    unfold Row
    rw [List.length_append, lcells_append]
    exact h1
end Go.Proofs.Ytobmenbhbeflhaa
