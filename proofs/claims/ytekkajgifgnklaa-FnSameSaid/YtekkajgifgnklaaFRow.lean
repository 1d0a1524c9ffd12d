/-
  Orders in slices that the call itself has made: what they hold, append, and the marks that a law writes into them and reads again.
-/
import Derived.Test.YtekkajgifgnklaaMark
import Derived.Test.YtekkajgifgnklaaMat
import Derived.Test.YtekkajgifgnklaaFwd
namespace Go.Proofs.Ytekkajgifgnklaa
open Go.RowKit
open Go.PlainAid (bt get_bt bt_nonneg bt_le)

namespace M
/-- The first k orders. -/
def flst (I C : Nat → ByteArray) (k : Nat) : List (ByteArray × ByteArray) := (List.range k).map fun i => (I i, C i)
theorem flst_succ (I C : Nat → ByteArray) (k : Nat) : flst I C (k + 1) = flst I C k ++ [(I k, C k)] := by
  unfold flst
  rw [List.range_succ, List.map_append]
  rfl
theorem flst_length (I C : Nat → ByteArray) (k : Nat) : (flst I C k).length = k := by simp [flst]
end M
/-- Letters as cells. -/
def fcells : List (ByteArray × ByteArray) → List Value
  | [] => []
  | x :: L => .string x.1 :: .string x.2 :: fcells L
theorem fcells_length : ∀ L, (fcells L).length = L.length * 2
  | [] => rfl
  | x :: L => by show (fcells L).length + 1 + 1 = (L.length + 1) * 2; rw [fcells_length L]; omega
theorem fcells_append : ∀ L L', fcells (L ++ L') = fcells L ++ fcells L'
  | [], _ => rfl
  | x :: L, L' => by show _ :: _ :: fcells (L ++ L') = _; rw [fcells_append L L']; rfl
theorem fcells_at : ∀ (L : List (ByteArray × ByteArray)) (i : Nat) (h : i < L.length), (fcells L)[i * 2]? = some (.string (L[i].1)) ∧ (fcells L)[i * 2 + 1]? = some (.string (L[i].2))
  | [], _, h => absurd h (by simp)
  | x :: L, 0, _ => ⟨rfl, rfl⟩
  | x :: L, i + 1, h => by
    have ih := fcells_at L i (by simpa using h)
    have e1 : (i + 1) * 2 = i * 2 + 1 + 1 := by omega
    rw [e1]
    exact ih
def nF (L : List (ByteArray × ByteArray)) (i : Nat) : ByteArray := (L.getD i (⟨#[]⟩, ⟨#[]⟩)).1
def nT (L : List (ByteArray × ByteArray)) (i : Nat) : ByteArray := (L.getD i (⟨#[]⟩, ⟨#[]⟩)).2
theorem nF_at {L : List (ByteArray × ByteArray)} {i : Nat} (h : i < L.length) : nF L i = L[i].1 := by unfold nF; simp [List.getD, h]
theorem nT_at {L : List (ByteArray × ByteArray)} {i : Nat} (h : i < L.length) : nT L i = L[i].2 := by unfold nT; simp [List.getD, h]

/-- A slice value that owns letters: nil, or in a block from base on. -/
def FRow (w : World) (base : Nat) (v : Value) (L : List (ByteArray × ByteArray)) : Prop := w.ownsRow base 45 2 v L.length (fcells L)
theorem FRow.nil (w : World) (base : Nat) : FRow w base (.slice none 0 0) [] := World.ownsRow_nil _ _ _ _
theorem FRow.alloc {w : World} {base : Nat} {v : Value} {L : List (ByteArray × ByteArray)} (h : FRow w base v L) (o : Obj) : FRow (w.alloc o) base v L := World.ownsRow.alloc h o
theorem FRow.drew {w : World} {base : Nat} {v : Value} {L : List (ByteArray × ByteArray)} (h : FRow w base v L) : FRow w.drew base v L := h
theorem FRow.lt {w : World} {base : Nat} {v : Value} {L : List (ByteArray × ByteArray)} (h : FRow w base v L) : ∀ k, v.ownBlock = some k → base ≤ k ∧ k < w.heap.size := World.ownsRow.lt h
theorem FRow.form {w : World} {base : Nat} {v : Value} {L : List (ByteArray × ByteArray)} (h : FRow w base v L) : ∃ a c, v = .slice a L.length c ∧ L.length ≤ c ∧ Fws w a L.length (nF L) (nT L) := by
  have h2 := h
  rcases h.2 with ⟨rfl, hn⟩ | ⟨g, cap, cur, rfl, _, _, hc, _, _, _⟩
  · exact ⟨none, 0, by rw [hn], by omega, fun i hi => absurd hi (by omega)⟩
  · refine ⟨_, _, rfl, hc, fun i hi => ⟨g, 0, rfl, ?_, ?_⟩⟩
    · rw [Nat.zero_add, World.ownsRow.cellAt h2 (i * 2) (by omega), (fcells_at L i hi).1, nF_at hi]
    · rw [Nat.zero_add, World.ownsRow.cellAt h2 (i * 2 + 1) (by omega), (fcells_at L i hi).2, nT_at hi]
theorem FRow.kept {w w' : World} {base : Nat} {v : Value} {L : List (ByteArray × ByteArray)} {row : Option Nat} (h : FRow w base v L) (hg : w.grownBy w' row) (hne : ∀ b, v.ownBlock = some b → row ≠ some b) : FRow w' base v L :=
  World.ownsRow.kept h hg (by
    cases hv : v.ownBlock with
    | none => exact Or.inl rfl
    | some b => exact Or.inr fun e => hne b hv e.symm)
theorem FRow.on {w w' : World} {base : Nat} {v : Value} {L : List (ByteArray × ByteArray)} (h : FRow w base v L) (hb : Below w.heap.size w w') : FRow w' base v L :=
  h.kept (grown_of_below hb) (fun _ _ e => by cases e)

theorem ftwo_kept {w w1 : World} {base : Nat} {v v' u : Value} {L : List (ByteArray × ByteArray)} (hu : FRow w base u L) (ha : Apart v u) (hg : w.grownBy w1 v.ownBlock) {s : Nat} (ho : v'.ownBlock = v.ownBlock ∨ v'.ownBlock = some s) (hs : w.heap.size ≤ s) : FRow w1 base u L ∧ Apart v' u := by
  refine ⟨hu.kept hg fun b hb e => ha b e hb, fun b hb e => ?_⟩
  rcases ho with ho | ho
  · exact ha b (ho.symm.trans hb) e
  · have hlt := (hu.lt b e).2
    have := Option.some.inj (ho.symm.trans hb)
    omega
theorem fbelow_grown {W w w1 : World} {base : Nat} {v : Value} {L : List (ByteArray × ByteArray)} (hb : Below W.heap.size W w) (h : FRow w base v L) (hbase : W.heap.size ≤ base) (hg : w.grownBy w1 v.ownBlock) : Below W.heap.size W w1 :=
  hb.grown hg hb.size fun k hk => Nat.le_trans hbase (h.lt k hk).1

theorem info_forward : (Try.prog.info? 45).map (fun i => (i.zero, i.size, i.bytes)) = some (some (.agg #[.string ⟨#[]⟩, .string ⟨#[]⟩]), 2, 32) := by kernel_rfl
theorem wpList_append_forward {ops : Array Oper} {rest : List Oper} {o : Oper} {a : Act} {Q : Exit → Act → World → Prop} (w : World) (hgd : o.guard = none) (s x : Operand)
    (ho : o.op = .call { callee := .builtin .append, args := #[s, x], argTypes := #[23, 23] })
    (base : Nat) (v : Value) (L : List (ByteArray × ByteArray)) (hs : a.eval s = v) (hrow : FRow w base v L) (b : Nat) (i t : ByteArray) (hx : a.eval x = .slice (some ⟨b, 0, none⟩) 1 1)
    (hc : w.cell? ⟨b, 0, none⟩ = some (.string i) ∧ w.cell? ⟨b, 1, none⟩ = some (.string t)) (hl : L.length ≤ 1048576) (hbase : base ≤ w.heap.size)
    (K : ∀ v' w', FRow w' base v' (L ++ [(i, t)]) → w.grownBy w' v.ownBlock → (v'.ownBlock = v.ownBlock ∨ v'.ownBlock = some w.heap.size) → wpList Try.prog ops Q rest (a.put o.dst v') w') :
    wpList Try.prog ops Q (o :: rest) a w := by
  obtain ⟨i0, hi, hz0, hz1, hz2⟩ := info_parts info_forward
  refine wpList_append_own_at w hgd s x 23 ho base 45 i0 _ 2 32 Try.underlying23 hi hz0 hz1 hz2 rfl (by decide) v L.length (fcells L) hs hrow ⟨b, 0, none⟩ 1 1 [.string i, .string t] hx rfl ?_ ?_ (by unfold maxLen; omega) (by omega) hbase ?_
  · intro j u hu
    match j, hu with
    | 0, hu => simp at hu; subst hu; simpa [Addr.add] using hc.1
    | 1, hu => simp at hu; subst hu; simpa [Addr.add] using hc.2
  · intro u hu
    simp at hu
    rcases hu with rfl | rfl <;> rfl
  · intro v' w' h1 h2 _ h3
    refine K v' w' ?_ h2 h3
    unfold FRow
    rw [List.length_append, fcells_append]
    exact h1
namespace M
/-- Marked letters. -/
def fmarks (k n : Nat) : List (ByteArray × ByteArray) := (List.range n).map fun i => (mark (k + 2 * i), mark (k + 2 * i + 1))
theorem fmarks_length (k n : Nat) : (fmarks k n).length = n := by simp [fmarks]
def fmarkTo (L : List (ByteArray × ByteArray)) (k : Nat) : Nat → List (ByteArray × ByteArray)
  | 0 => L
  | j + 1 => (fmarkTo L k j).set j (mark (k + 2 * j), mark (k + 2 * j + 1))
theorem fmarkTo_length (L : List (ByteArray × ByteArray)) (k : Nat) : ∀ j, (fmarkTo L k j).length = L.length
  | 0 => rfl
  | j + 1 => by show ((fmarkTo L k j).set j _).length = _; rw [List.length_set, fmarkTo_length L k j]
theorem fmarkTo_at (L : List (ByteArray × ByteArray)) (k : Nat) : ∀ j i, i < j → i < L.length → (fmarkTo L k j)[i]? = some (mark (k + 2 * i), mark (k + 2 * i + 1))
  | 0, _, h, _ => absurd h (by omega)
  | j + 1, i, h, hl => by
    show ((fmarkTo L k j).set j _)[i]? = _
    by_cases e : i = j
    · subst e
      rw [List.getElem?_set_self (by rw [fmarkTo_length]; exact hl)]
    · rw [List.getElem?_set_ne (by omega)]
      exact fmarkTo_at L k j i (by omega) hl
theorem fmarkTo_end (L : List (ByteArray × ByteArray)) (k : Nat) : fmarkTo L k L.length = fmarks k L.length := by
  apply List.ext_getElem?
  intro i
  by_cases h : i < L.length
  · rw [fmarkTo_at L k _ i h h]
    simp [fmarks, h]
  · rw [List.getElem?_eq_none (by rw [fmarkTo_length]; omega), List.getElem?_eq_none (by rw [fmarks_length]; omega)]
end M
theorem nF_marks {k n i : Nat} (h : i < n) : nF (M.fmarks k n) i = M.mark (k + 2 * i) := by
  rw [nF_at (by rw [M.fmarks_length]; exact h)]; simp [M.fmarks]
theorem nT_marks {k n i : Nat} (h : i < n) : nT (M.fmarks k n) i = M.mark (k + 2 * i + 1) := by
  rw [nT_at (by rw [M.fmarks_length]; exact h)]; simp [M.fmarks]
theorem fcells_set : ∀ (L : List (ByteArray × ByteArray)) (j : Nat) (x s : ByteArray), ((fcells L).set (j * 2) (.string x)).set (j * 2 + 1) (.string s) = fcells (L.set j (x, s))
  | [], _, _, _ => rfl
  | _ :: _, 0, _, _ => rfl
  | y :: L, j + 1, x, s => by
    have ih := fcells_set L j x s
    have e1 : (j + 1) * 2 = j * 2 + 1 + 1 := by omega
    rw [e1]
    show _ :: _ :: (((fcells L).set (j * 2) (.string x)).set (j * 2 + 1) (.string s)) = _ :: _ :: fcells (L.set j (x, s))
    rw [ih]
theorem FRow.cases {w : World} {base : Nat} {v : Value} {L : List (ByteArray × ByteArray)} (h : FRow w base v L) : (v = .slice none 0 0 ∧ L = []) ∨ ∃ g c, v = .slice (some ⟨g, 0, none⟩) L.length c ∧ base ≤ g ∧ g < w.heap.size := by
  rcases h.2 with ⟨rfl, hn⟩ | ⟨g, cap, cur, rfl, hb, hg, _⟩
  · exact Or.inl ⟨rfl, List.eq_nil_of_length_eq_zero hn⟩
  · exact Or.inr ⟨g, cap, rfl, hb, (Array.getElem?_eq_some_iff.1 hg).1⟩

theorem FRow.only {w w' : World} {base : Nat} {v : Value} {L : List (ByteArray × ByteArray)} {S : Nat → Prop} (h : FRow w base v L) (ho : Only w w' S) (hn : ∀ b, v.ownBlock = some b → ¬ S b) : FRow w' base v L :=
  ownsRow_block h fun g hg => ho.block g (h.lt g hg).2 (hn g hg)
theorem FRow.lower {w : World} {base base' : Nat} {v : Value} {L : List (ByteArray × ByteArray)} (h : FRow w base v L) (hb : base' ≤ base) : FRow w base' v L := by
  refine ⟨h.1, ?_⟩
  rcases h.2 with ⟨rfl, hn⟩ | ⟨g, cap, cur, rfl, hbg, rest⟩
  · exact Or.inl ⟨rfl, hn⟩
  · exact Or.inr ⟨g, cap, cur, rfl, Nat.le_trans hb hbg, rest⟩
theorem one_frow (w : World) : FRow (w.alloc (.cells #[] 45)) w.heap.size (.slice (some ⟨w.heap.size, 0, none⟩) 0 0) [] :=
  World.ownsRow_lit (base := w.heap.size) (e := 45) (size := 2) w #[] 0 (Nat.le_refl _) (by unfold maxLen; omega) rfl
theorem flst_at {I : Nat → ByteArray} {C : Nat → ByteArray} {n i : Nat} (h : i < n) : nF (M.flst I C n) i = I i ∧ nT (M.flst I C n) i = C i := by
  rw [nF_at (by rw [M.flst_length]; exact h), nT_at (by rw [M.flst_length]; exact h)]
  simp [M.flst]
theorem fcells_lst (I : Nat → ByteArray) (C : Nat → ByteArray) (n : Nat) {i : Nat} (h : i < n) : (fcells (M.flst I C n))[i * 2]? = some (.string (I i)) ∧ (fcells (M.flst I C n))[i * 2 + 1]? = some (.string (C i)) := by
  have hl : i < (M.flst I C n).length := by rw [M.flst_length]; exact h
  have := fcells_at (M.flst I C n) i hl
  rw [← nF_at hl, ← nT_at hl, (flst_at h).1, (flst_at h).2] at this
  exact this
/-- The law's own copy of letters, as a row. -/
theorem FOwn.row {w : World} {b n base : Nat} {I : Nat → ByteArray} {C : Nat → ByteArray} (h : FOwn w b n I C) (hb : base ≤ b) (hn : n ≤ 1048576) : FRow w base (.slice (some ⟨b, 0, none⟩) n n) (M.flst I C n) := by
  obtain ⟨f, ⟨cur, hh, hs, hc⟩, hf⟩ := h
  unfold FRow
  rw [M.flst_length]
  refine ⟨by rw [fcells_length, M.flst_length], Or.inr ⟨b, n, cur, rfl, hb, hh, Nat.le_refl _, by unfold maxLen; omega, hs, ?_⟩⟩
  rw [List.take_of_length_le (by rw [Array.length_toList]; omega)]
  apply List.ext_getElem?
  intro j
  by_cases hj : j < n * 2
  · rw [Array.getElem?_toList, hc j hj]
    have hp : j = j / 2 * 2 ∨ j = j / 2 * 2 + 1 := by omega
    obtain ⟨h1, h2⟩ := hf (j / 2) (by omega)
    obtain ⟨q1, q2⟩ := fcells_lst I C n (i := j / 2) (by omega)
    rcases hp with e | e
    · rw [e, h1, q1]
    · rw [e, h2, q2]
  · rw [List.getElem?_eq_none (by rw [Array.length_toList]; omega), List.getElem?_eq_none (by rw [fcells_length, M.flst_length]; omega)]
theorem FRow.fws_lst {w : World} {base : Nat} {a : Option Addr} {n c : Nat} {I : Nat → ByteArray} {C : Nat → ByteArray} (h : FRow w base (.slice a n c) (M.flst I C n)) : Fws w a n I C := by
  obtain ⟨a', c', e, _, hl⟩ := h.form
  rw [M.flst_length] at hl
  injection e with e1 _ _
  subst e1
  exact hl.congr fun i hi => flst_at hi
/-- What was there before the base of a row lies in another block. -/
theorem FRow.older {w w' : World} {base base' : Nat} {v v' : Value} {L L' : List (ByteArray × ByteArray)} (h : FRow w base v L) (h' : FRow w' base' v' L') (hs : w.heap.size ≤ base') : Apart v v' := fun b hb e => by
  have h1 := (h.lt b hb).2
  have h2 := (h'.lt b e).1
  omega
theorem FRow.past {w w' : World} {base : Nat} {v v' : Value} {L : List (ByteArray × ByteArray)} (h : FRow w base v L) (ha : Apart v v') (hg : w.grownBy w' v'.ownBlock) : FRow w' base v L :=
  h.kept hg fun b hb e => ha b hb e
end Go.Proofs.Ytekkajgifgnklaa
