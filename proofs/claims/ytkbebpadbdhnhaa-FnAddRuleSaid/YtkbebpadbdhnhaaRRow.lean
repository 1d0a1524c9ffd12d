/-
  Rules in memory: what XFRow says of orders, said of rules.
-/
import Derived.Test.YtkbebpadbdhnhaaFRow
import Derived.Test.YtkbebpadbdhnhaaRul
namespace Go.Proofs.Ytkbebpadbdhnhaa
open Go.RowKit
open Go.PlainAid (bt get_bt bt_nonneg bt_le)

namespace M
end M
/-- A slice value that owns letters: nil, or in a block from base on. -/
def RRow (w : World) (base : Nat) (v : Value) (L : List (ByteArray × ByteArray)) : Prop := w.ownsRow base 44 2 v L.length (fcells L)
theorem RRow.nil (w : World) (base : Nat) : RRow w base (.slice none 0 0) [] := World.ownsRow_nil _ _ _ _
theorem RRow.alloc {w : World} {base : Nat} {v : Value} {L : List (ByteArray × ByteArray)} (h : RRow w base v L) (o : Obj) : RRow (w.alloc o) base v L := World.ownsRow.alloc h o
theorem RRow.drew {w : World} {base : Nat} {v : Value} {L : List (ByteArray × ByteArray)} (h : RRow w base v L) : RRow w.drew base v L := h
theorem RRow.lt {w : World} {base : Nat} {v : Value} {L : List (ByteArray × ByteArray)} (h : RRow w base v L) : ∀ k, v.ownBlock = some k → base ≤ k ∧ k < w.heap.size := World.ownsRow.lt h
theorem RRow.form {w : World} {base : Nat} {v : Value} {L : List (ByteArray × ByteArray)} (h : RRow w base v L) : ∃ a c, v = .slice a L.length c ∧ L.length ≤ c ∧ Fws w a L.length (nF L) (nT L) := by
  have h2 := h
  rcases h.2 with ⟨rfl, hn⟩ | ⟨g, cap, cur, rfl, _, _, hc, _, _, _⟩
  · exact ⟨none, 0, by rw [hn], by omega, fun i hi => absurd hi (by omega)⟩
  · refine ⟨_, _, rfl, hc, fun i hi => ⟨g, 0, rfl, ?_, ?_⟩⟩
    · rw [Nat.zero_add, World.ownsRow.cellAt h2 (i * 2) (by omega), (fcells_at L i hi).1, nF_at hi]
    · rw [Nat.zero_add, World.ownsRow.cellAt h2 (i * 2 + 1) (by omega), (fcells_at L i hi).2, nT_at hi]
theorem RRow.kept {w w' : World} {base : Nat} {v : Value} {L : List (ByteArray × ByteArray)} {row : Option Nat} (h : RRow w base v L) (hg : w.grownBy w' row) (hne : ∀ b, v.ownBlock = some b → row ≠ some b) : RRow w' base v L :=
  World.ownsRow.kept h hg (by
    cases hv : v.ownBlock with
    | none => exact Or.inl rfl
    | some b => exact Or.inr fun e => hne b hv e.symm)
theorem RRow.on {w w' : World} {base : Nat} {v : Value} {L : List (ByteArray × ByteArray)} (h : RRow w base v L) (hb : Below w.heap.size w w') : RRow w' base v L :=
  h.kept (grown_of_below hb) (fun _ _ e => by cases e)

theorem rftwo_kept {w w1 : World} {base : Nat} {v v' u : Value} {L : List (ByteArray × ByteArray)} (hu : RRow w base u L) (ha : Apart v u) (hg : w.grownBy w1 v.ownBlock) {s : Nat} (ho : v'.ownBlock = v.ownBlock ∨ v'.ownBlock = some s) (hs : w.heap.size ≤ s) : RRow w1 base u L ∧ Apart v' u := by
  refine ⟨hu.kept hg fun b hb e => ha b e hb, fun b hb e => ?_⟩
  rcases ho with ho | ho
  · exact ha b (ho.symm.trans hb) e
  · have hlt := (hu.lt b e).2
    have := Option.some.inj (ho.symm.trans hb)
    omega
theorem rfbelow_grown {W w w1 : World} {base : Nat} {v : Value} {L : List (ByteArray × ByteArray)} (hb : Below W.heap.size W w) (h : RRow w base v L) (hbase : W.heap.size ≤ base) (hg : w.grownBy w1 v.ownBlock) : Below W.heap.size W w1 :=
  hb.grown hg hb.size fun k hk => Nat.le_trans hbase (h.lt k hk).1

theorem info_rule : (Try.prog.info? 44).map (fun i => (i.zero, i.size, i.bytes)) = some (some (.agg #[.string ⟨#[]⟩, .string ⟨#[]⟩]), 2, 32) := by kernel_rfl
theorem wpList_append_rule {ops : Array Oper} {rest : List Oper} {o : Oper} {a : Act} {Q : Exit → Act → World → Prop} (w : World) (hgd : o.guard = none) (s x : Operand)
    (ho : o.op = .call { callee := .builtin .append, args := #[s, x], argTypes := #[23, 23] })
    (base : Nat) (v : Value) (L : List (ByteArray × ByteArray)) (hs : a.eval s = v) (hrow : RRow w base v L) (b : Nat) (i t : ByteArray) (hx : a.eval x = .slice (some ⟨b, 0, none⟩) 1 1)
    (hc : w.cell? ⟨b, 0, none⟩ = some (.string i) ∧ w.cell? ⟨b, 1, none⟩ = some (.string t)) (hl : L.length ≤ 1048576) (hbase : base ≤ w.heap.size)
    (K : ∀ v' w', RRow w' base v' (L ++ [(i, t)]) → w.grownBy w' v.ownBlock → (v'.ownBlock = v.ownBlock ∨ v'.ownBlock = some w.heap.size) → wpList Try.prog ops Q rest (a.put o.dst v') w') :
    wpList Try.prog ops Q (o :: rest) a w := by
  obtain ⟨i0, hi, hz0, hz1, hz2⟩ := info_parts info_rule
  refine wpList_append_own_at w hgd s x 23 ho base 44 i0 _ 2 32 Try.underlying23 hi hz0 hz1 hz2 rfl (by decide) v L.length (fcells L) hs hrow ⟨b, 0, none⟩ 1 1 [.string i, .string t] hx rfl ?_ ?_ (by unfold maxLen; omega) (by omega) hbase ?_
  · intro j u hu
    match j, hu with
    | 0, hu => simp at hu; subst hu; simpa [Addr.add] using hc.1
    | 1, hu => simp at hu; subst hu; simpa [Addr.add] using hc.2
  · intro u hu
    simp at hu
    rcases hu with rfl | rfl <;> rfl
  · intro v' w' h1 h2 _ h3
    refine K v' w' ?_ h2 h3
    unfold RRow
    rw [List.length_append, fcells_append]
    exact h1
namespace M
end M
theorem RRow.cases {w : World} {base : Nat} {v : Value} {L : List (ByteArray × ByteArray)} (h : RRow w base v L) : (v = .slice none 0 0 ∧ L = []) ∨ ∃ g c, v = .slice (some ⟨g, 0, none⟩) L.length c ∧ base ≤ g ∧ g < w.heap.size := by
  rcases h.2 with ⟨rfl, hn⟩ | ⟨g, cap, cur, rfl, hb, hg, _⟩
  · exact Or.inl ⟨rfl, List.eq_nil_of_length_eq_zero hn⟩
  · exact Or.inr ⟨g, cap, rfl, hb, (Array.getElem?_eq_some_iff.1 hg).1⟩

theorem RRow.only {w w' : World} {base : Nat} {v : Value} {L : List (ByteArray × ByteArray)} {S : Nat → Prop} (h : RRow w base v L) (ho : Only w w' S) (hn : ∀ b, v.ownBlock = some b → ¬ S b) : RRow w' base v L :=
  ownsRow_block h fun g hg => ho.block g (h.lt g hg).2 (hn g hg)
theorem RRow.lower {w : World} {base base' : Nat} {v : Value} {L : List (ByteArray × ByteArray)} (h : RRow w base v L) (hb : base' ≤ base) : RRow w base' v L := by
  refine ⟨h.1, ?_⟩
  rcases h.2 with ⟨rfl, hn⟩ | ⟨g, cap, cur, rfl, hbg, rest⟩
  · exact Or.inl ⟨rfl, hn⟩
  · exact Or.inr ⟨g, cap, cur, rfl, Nat.le_trans hb hbg, rest⟩
theorem rone_frow (w : World) : RRow (w.alloc (.cells #[] 44)) w.heap.size (.slice (some ⟨w.heap.size, 0, none⟩) 0 0) [] :=
  World.ownsRow_lit (base := w.heap.size) (e := 44) (size := 2) w #[] 0 (Nat.le_refl _) (by unfold maxLen; omega) rfl
/-- The law's own copy of letters, as a row. -/
theorem ROwn.row {w : World} {b n base : Nat} {I : Nat → ByteArray} {C : Nat → ByteArray} (h : ROwn w b n I C) (hb : base ≤ b) (hn : n ≤ 1048576) : RRow w base (.slice (some ⟨b, 0, none⟩) n n) (M.flst I C n) := by
  obtain ⟨f, ⟨cur, hh, hs, hc⟩, hf⟩ := h
  unfold RRow
  rw [M.flst_length]
  refine ⟨by rw [fcells_length, M.flst_length], Or.inr ⟨b, n, cur, rfl, hb, hh, Nat.le_refl _, by unfold maxLen; omega, hs, ?_⟩⟩
  rw [List.take_of_length_le (by rw [Array.length_toList]; omega)]
  apply List.ext_getElem?
  intro j
  by_cases hj : j < n * 2
  · rw [Array.getElem?_toList, hc j hj]
    have hp : j = j / 2 * 2 ∨ j = j / 2 * 2 + 1 := by omega
    obtain ⟨h1, h2⟩ := hf (j / 2) (by omega)
    obtain ⟨q1, q2⟩ := fcells_lst I C n (i := j / 2) (by omega)
    rcases hp with e | e
    · rw [e, h1, q1]
    · rw [e, h2, q2]
  · rw [List.getElem?_eq_none (by rw [Array.length_toList]; omega), List.getElem?_eq_none (by rw [fcells_length, M.flst_length]; omega)]
theorem RRow.fws_lst {w : World} {base : Nat} {a : Option Addr} {n c : Nat} {I : Nat → ByteArray} {C : Nat → ByteArray} (h : RRow w base (.slice a n c) (M.flst I C n)) : Fws w a n I C := by
  obtain ⟨a', c', e, _, hl⟩ := h.form
  rw [M.flst_length] at hl
  injection e with e1 _ _
  subst e1
  exact hl.congr fun i hi => flst_at hi
/-- What was there before the base of a row lies in another block. -/
theorem RRow.older {w w' : World} {base base' : Nat} {v v' : Value} {L L' : List (ByteArray × ByteArray)} (h : RRow w base v L) (h' : RRow w' base' v' L') (hs : w.heap.size ≤ base') : Apart v v' := fun b hb e => by
  have h1 := (h.lt b hb).2
  have h2 := (h'.lt b e).1
  omega
theorem RRow.past {w w' : World} {base : Nat} {v v' : Value} {L : List (ByteArray × ByteArray)} (h : RRow w base v L) (ha : Apart v v') (hg : w.grownBy w' v'.ownBlock) : RRow w' base v L :=
  h.kept hg fun b hb e => ha b hb e
end Go.Proofs.Ytkbebpadbdhnhaa
