/-
  Letters in slices that the call itself has made: what they hold, append, and two of them side by side.
-/
import Derived.Test.YtekkajgifgnklaaMgA2
import Derived.Test.YtekkajgifgnklaaBatch
import Derived.Maps.AppendAt
import Derived.OwnWalk
import Derived.Laws.OwnMore
import Derived.Test.YtekkajgifgnklaaBookM
import Derived.Sort.Walk0
namespace Go.Proofs.Ytekkajgifgnklaa
open Go.RowKit

/-- Letters as cells. -/
def lcells : List (Int × ByteArray) → List Value
  | [] => []
  | x :: L => .int .i64 x.1 :: .string x.2 :: lcells L
theorem lcells_length : ∀ L, (lcells L).length = L.length * 2
  | [] => rfl
  | x :: L => by show (lcells L).length + 1 + 1 = (L.length + 1) * 2; rw [lcells_length L]; omega
theorem lcells_append : ∀ L L', lcells (L ++ L') = lcells L ++ lcells L'
  | [], _ => rfl
  | x :: L, L' => by show _ :: _ :: lcells (L ++ L') = _; rw [lcells_append L L']; rfl
theorem lcells_at : ∀ (L : List (Int × ByteArray)) (i : Nat) (h : i < L.length), (lcells L)[i * 2]? = some (.int .i64 (L[i].1)) ∧ (lcells L)[i * 2 + 1]? = some (.string (L[i].2))
  | [], _, h => absurd h (by simp)
  | x :: L, 0, _ => ⟨rfl, rfl⟩
  | x :: L, i + 1, h => by
    have ih := lcells_at L i (by simpa using h)
    have e1 : (i + 1) * 2 = i * 2 + 1 + 1 := by omega
    rw [e1]
    exact ih
def nI (L : List (Int × ByteArray)) (i : Nat) : Int := (L.getD i (0, ⟨#[]⟩)).1
def nC (L : List (Int × ByteArray)) (i : Nat) : ByteArray := (L.getD i (0, ⟨#[]⟩)).2
theorem nI_at {L : List (Int × ByteArray)} {i : Nat} (h : i < L.length) : nI L i = L[i].1 := by unfold nI; simp [List.getD, h]
theorem nC_at {L : List (Int × ByteArray)} {i : Nat} (h : i < L.length) : nC L i = L[i].2 := by unfold nC; simp [List.getD, h]

/-- A slice value that owns letters: nil, or in a block from base on. -/
def Row (w : World) (base : Nat) (v : Value) (L : List (Int × ByteArray)) : Prop := w.ownsRow base 34 2 v L.length (lcells L)
theorem Row.nil (w : World) (base : Nat) : Row w base (.slice none 0 0) [] := World.ownsRow_nil _ _ _ _
theorem Row.alloc {w : World} {base : Nat} {v : Value} {L : List (Int × ByteArray)} (h : Row w base v L) (o : Obj) : Row (w.alloc o) base v L := World.ownsRow.alloc h o
theorem Row.drew {w : World} {base : Nat} {v : Value} {L : List (Int × ByteArray)} (h : Row w base v L) : Row w.drew base v L := h
theorem Row.lt {w : World} {base : Nat} {v : Value} {L : List (Int × ByteArray)} (h : Row w base v L) : ∀ k, v.ownBlock = some k → base ≤ k ∧ k < w.heap.size := World.ownsRow.lt h
theorem Row.form {w : World} {base : Nat} {v : Value} {L : List (Int × ByteArray)} (h : Row w base v L) : ∃ a c, v = .slice a L.length c ∧ L.length ≤ c ∧ Lts w a L.length (nI L) (nC L) := by
  have h2 := h
  rcases h.2 with ⟨rfl, hn⟩ | ⟨g, cap, cur, rfl, _, _, hc, _, _, _⟩
  · exact ⟨none, 0, by rw [hn], by omega, fun i hi => absurd hi (by omega)⟩
  · refine ⟨_, _, rfl, hc, fun i hi => ⟨g, 0, rfl, ?_, ?_⟩⟩
    · rw [Nat.zero_add, World.ownsRow.cellAt h2 (i * 2) (by omega), (lcells_at L i hi).1, nI_at hi]
    · rw [Nat.zero_add, World.ownsRow.cellAt h2 (i * 2 + 1) (by omega), (lcells_at L i hi).2, nC_at hi]
theorem Row.kept {w w' : World} {base : Nat} {v : Value} {L : List (Int × ByteArray)} {row : Option Nat} (h : Row w base v L) (hg : w.grownBy w' row) (hne : ∀ b, v.ownBlock = some b → row ≠ some b) : Row w' base v L :=
  World.ownsRow.kept h hg (by
    cases hv : v.ownBlock with
    | none => exact Or.inl rfl
    | some b => exact Or.inr fun e => hne b hv e.symm)
theorem grown_of_below {w w' : World} (hb : Below w.heap.size w w') : w.grownBy w' none := ⟨hb.os, hb.tape, hb.output, hb.size, fun k hk _ => hb.block k hk⟩
theorem Row.on {w w' : World} {base : Nat} {v : Value} {L : List (Int × ByteArray)} (h : Row w base v L) (hb : Below w.heap.size w w') : Row w' base v L :=
  h.kept (grown_of_below hb) (fun _ _ e => by cases e)

/-- Two slices in two blocks. -/
def Apart (u v : Value) : Prop := ∀ b, u.ownBlock = some b → v.ownBlock ≠ some b
theorem Apart.symm {u v : Value} (h : Apart u v) : Apart v u := fun b hb e => h b e hb
theorem Apart.nil (v : Value) : Apart (.slice none 0 0) v := fun b hb => by simp [Value.ownBlock] at hb
theorem two_kept {w w1 : World} {base : Nat} {v v' u : Value} {L : List (Int × ByteArray)} (hu : Row w base u L) (ha : Apart v u) (hg : w.grownBy w1 v.ownBlock) {s : Nat} (ho : v'.ownBlock = v.ownBlock ∨ v'.ownBlock = some s) (hs : w.heap.size ≤ s) : Row w1 base u L ∧ Apart v' u := by
  refine ⟨hu.kept hg fun b hb e => ha b e hb, fun b hb e => ?_⟩
  rcases ho with ho | ho
  · exact ha b (ho.symm.trans hb) e
  · have hlt := (hu.lt b e).2
    have := Option.some.inj (ho.symm.trans hb)
    omega
theorem below_grown {W w w1 : World} {base : Nat} {v : Value} {L : List (Int × ByteArray)} (hb : Below W.heap.size W w) (h : Row w base v L) (hbase : W.heap.size ≤ base) (hg : w.grownBy w1 v.ownBlock) : Below W.heap.size W w1 :=
  hb.grown hg hb.size fun k hk => Nat.le_trans hbase (h.lt k hk).1

theorem info_letter : (Try.prog.info? 34).map (fun i => (i.zero, i.size, i.bytes)) = some (some (.agg #[.int .i64 0, .string ⟨#[]⟩]), 2, 24) := by kernel_rfl
theorem wpList_append_letter {ops : Array Oper} {rest : List Oper} {o : Oper} {a : Act} {Q : Exit → Act → World → Prop} (w : World) (hgd : o.guard = none) (s x : Operand)
    (ho : o.op = .call { callee := .builtin .append, args := #[s, x], argTypes := #[24, 24] })
    (base : Nat) (v : Value) (L : List (Int × ByteArray)) (hs : a.eval s = v) (hrow : Row w base v L) (b : Nat) (i : Int) (t : ByteArray) (hx : a.eval x = .slice (some ⟨b, 0, none⟩) 1 1)
    (hc : w.cell? ⟨b, 0, none⟩ = some (.int .i64 i) ∧ w.cell? ⟨b, 1, none⟩ = some (.string t)) (hl : L.length ≤ 1048576) (hbase : base ≤ w.heap.size)
    (K : ∀ v' w', Row w' base v' (L ++ [(i, t)]) → w.grownBy w' v.ownBlock → (v'.ownBlock = v.ownBlock ∨ v'.ownBlock = some w.heap.size) → wpList Try.prog ops Q rest (a.put o.dst v') w') :
    wpList Try.prog ops Q (o :: rest) a w := by
  obtain ⟨i0, hi, hz0, hz1, hz2⟩ := info_parts info_letter
  refine wpList_append_own_at w hgd s x 24 ho base 34 i0 _ 2 24 Try.underlying24 hi hz0 hz1 hz2 rfl (by decide) v L.length (lcells L) hs hrow ⟨b, 0, none⟩ 1 1 [.int .i64 i, .string t] hx rfl ?_ ?_ (by unfold maxLen; omega) (by omega) hbase ?_
  · intro j u hu
    match j, hu with
    | 0, hu => simp at hu; subst hu; simpa [Addr.add] using hc.1
    | 1, hu => simp at hu; subst hu; simpa [Addr.add] using hc.2
  · intro u hu
    simp at hu
    rcases hu with rfl | rfl <;> rfl
  · intro v' w' h1 h2 _ h3
    refine K v' w' ?_ h2 h3
    unfold Row
    rw [List.length_append, lcells_append]
    exact h1
end Go.Proofs.Ytekkajgifgnklaa

/-
  Strings put into an ascending list, one after the other: that is the sorted list. No program is named here.
-/
namespace Go.Proofs.Ytekkajgifgnklaa.M
set_option linter.unusedVariables false

/-- A string's bytes. -/
def bl (s : ByteArray) : List UInt8 := s.data.toList
theorem bl_inj {a b : ByteArray} (h : bl a = bl b) : a = b := ByteArray.ext (Array.toList_inj.1 h)
theorem less_lt (a b : ByteArray) : less a b = decide (bl a < bl b) := by
  unfold less
  rw [ByteArray.toList_eq, ByteArray.toList_eq, Go.Proofs.bytesLess_eq]
  rfl
theorem less_le (a b : ByteArray) : less a b = false ↔ bl b ≤ bl a := by
  rw [less_lt, decide_eq_false_iff_not]
  exact Iff.rfl
def insL (s : ByteArray) : List ByteArray → List ByteArray
  | [] => [s]
  | x :: L => if less s x then s :: x :: L else x :: insL s L
/-- A string is put in as soon as a greater one is met. -/
def insB (s : ByteArray) (L : List ByteArray) : Bool := L.any fun x => less s x
def insO (s : ByteArray) (L : List ByteArray) : List ByteArray := if insB s L then insL s L else L
theorem insL_none {s : ByteArray} : ∀ {L : List ByteArray}, insB s L = false → insL s L = L ++ [s]
  | [], _ => rfl
  | x :: L, h => by
    unfold insB at h
    rw [List.any_cons, Bool.or_eq_false_iff] at h
    unfold insL
    rw [h.1, if_neg (by decide)]
    show x :: insL s L = x :: (L ++ [s])
    rw [insL_none (L := L) h.2]
theorem insL_more {s x : ByteArray} : ∀ {L : List ByteArray}, insB s L = true → insL s (L ++ [x]) = insL s L ++ [x]
  | [], h => by cases h
  | y :: L, h => by
    show insL s (y :: (L ++ [x])) = insL s (y :: L) ++ [x]
    unfold insL
    by_cases e : less s y = true
    · rw [if_pos e, if_pos e]; rfl
    · rw [if_neg e, if_neg e]
      unfold insB at h
      rw [List.any_cons] at h
      have h2 : insB s L = true := by
        unfold insB
        cases h3 : less s y
        · rw [h3] at h; exact h
        · exact absurd h3 e
      show y :: insL s (L ++ [x]) = y :: (insL s L ++ [x])
      rw [insL_more h2]
theorem insL_here {s x : ByteArray} : ∀ {L : List ByteArray}, insB s L = false → less s x = true → insL s (L ++ [x]) = L ++ [s] ++ [x]
  | [], _, hx => by
    show insL s [x] = _
    unfold insL
    rw [if_pos hx]; rfl
  | y :: L, h, hx => by
    unfold insB at h
    rw [List.any_cons, Bool.or_eq_false_iff] at h
    show insL s (y :: (L ++ [x])) = _
    unfold insL
    rw [h.1, if_neg (by decide)]
    show y :: insL s (L ++ [x]) = y :: (L ++ [s] ++ [x])
    rw [insL_here (L := L) h.2 hx]
theorem insB_more (s x : ByteArray) (L : List ByteArray) : insB s (L ++ [x]) = (insB s L || less s x) := by
  unfold insB
  rw [List.any_append]
  simp
theorem insO_done {s x : ByteArray} {L : List ByteArray} (h : insB s L = true) : insO s (L ++ [x]) = insO s L ++ [x] ∧ insB s (L ++ [x]) = true := by
  have hb : insB s (L ++ [x]) = true := by rw [insB_more, h]; rfl
  exact ⟨by unfold insO; rw [if_pos hb, if_pos h]; exact insL_more h, hb⟩
theorem insO_here {s x : ByteArray} {L : List ByteArray} (h : insB s L = false) (hx : less s x = true) : insO s (L ++ [x]) = insO s L ++ [s] ++ [x] ∧ insB s (L ++ [x]) = true := by
  have hb : insB s (L ++ [x]) = true := by rw [insB_more, h, hx]; rfl
  refine ⟨?_, hb⟩
  unfold insO
  rw [if_pos hb, h, if_neg (by decide)]
  exact insL_here h hx
theorem insO_on {s x : ByteArray} {L : List ByteArray} (h : insB s L = false) (hx : less s x = false) : insO s (L ++ [x]) = insO s L ++ [x] ∧ insB s (L ++ [x]) = false := by
  have hb : insB s (L ++ [x]) = false := by rw [insB_more, h, hx]; rfl
  refine ⟨?_, hb⟩
  unfold insO
  rw [hb, h, if_neg (by decide), if_neg (by decide)]
theorem insO_yes {s : ByteArray} {L : List ByteArray} (h : insB s L = true) : insL s L = insO s L := by unfold insO; rw [if_pos h]
theorem insO_no {s : ByteArray} {L : List ByteArray} (h : insB s L = false) : insL s L = insO s L ++ [s] := by
  unfold insO
  rw [h, if_neg (by decide)]
  exact insL_none h
theorem insO_len (s : ByteArray) (L : List ByteArray) : (insO s L).length ≤ L.length + 1 := by
  cases h : insB s L
  · unfold insO
    rw [h, if_neg (by decide)]; omega
  · have : ∀ L : List ByteArray, (insL s L).length = L.length + 1 := fun L => by
      induction L with
      | nil => rfl
      | cons x L ih =>
        unfold insL
        split
        · rfl
        · show (insL s L).length + 1 = _
          rw [ih]; rfl
    rw [← insO_yes h, this]; exact Nat.le_refl _
theorem insL_perm (s : ByteArray) : ∀ L : List ByteArray, (insL s L).Perm (s :: L)
  | [] => List.Perm.refl _
  | x :: L => by
    unfold insL
    split
    · exact List.Perm.refl _
    · exact ((insL_perm s L).cons x).trans (List.Perm.swap s x L)
/-- Ascending, by the order of the bytes. -/
def Up (L : List ByteArray) : Prop := L.Pairwise fun a b => bl a ≤ bl b
theorem le_of_less {a b : ByteArray} (h : less a b = true) : bl a ≤ bl b := by
  rw [less_lt, decide_eq_true_eq] at h
  exact List.le_of_lt h
theorem insL_up {s : ByteArray} : ∀ {L : List ByteArray}, Up L → Up (insL s L)
  | [], _ => List.pairwise_singleton _ _
  | x :: L, h => by
    have h' := h
    unfold Up at h
    rw [List.pairwise_cons] at h
    unfold insL
    split
    · rename_i hl
      unfold Up
      rw [List.pairwise_cons]
      refine ⟨fun y hy => ?_, h'⟩
      rcases List.mem_cons.1 hy with rfl | hy
      · exact le_of_less hl
      · exact List.le_trans (le_of_less hl) (h.1 y hy)
    · rename_i hl
      unfold Up
      rw [List.pairwise_cons]
      refine ⟨fun y hy => ?_, insL_up h.2⟩
      rcases List.mem_cons.1 ((insL_perm s L).mem_iff.1 hy) with rfl | hy
      · exact (less_le _ _).1 (by simpa using hl)
      · exact h.1 y hy
/-- All strings of a list, put in one after the other. -/
def insAll (L : List ByteArray) : List ByteArray := L.foldl (fun acc s => insL s acc) []
theorem insAll_more (L : List ByteArray) (s : ByteArray) : insAll (L ++ [s]) = insL s (insAll L) := by
  unfold insAll
  rw [List.foldl_append]; rfl
theorem insAll_both : ∀ (L acc : List ByteArray), Up acc → Up (L.foldl (fun acc s => insL s acc) acc) ∧ (L.foldl (fun acc s => insL s acc) acc).Perm (L ++ acc)
  | [], acc, h => ⟨h, List.Perm.refl _⟩
  | s :: L, acc, h => by
    obtain ⟨h1, h2⟩ := insAll_both L (insL s acc) (insL_up h)
    exact ⟨h1, h2.trans (((insL_perm s acc).append_left L).trans List.perm_middle)⟩
theorem insAll_up (L : List ByteArray) : Up (insAll L) := (insAll_both L [] List.Pairwise.nil).1
theorem insAll_perm (L : List ByteArray) : (insAll L).Perm L := by
  have := (insAll_both L [] List.Pairwise.nil).2
  rw [List.append_nil] at this
  exact this
theorem insAll_len (L : List ByteArray) : (insAll L).length = L.length := (insAll_perm L).length_eq
theorem insAll_sort (L : List ByteArray) : (L.map bl).mergeSort (fun x y => decide (x ≤ y)) = (insAll L).map bl := by
  refine List.Perm.eq_of_pairwise (le := fun a b => decide (a ≤ b) = true) ?_ ?_ ?_ ?_
  · intro a b _ _ h1 h2
    exact List.le_antisymm (of_decide_eq_true h1) (of_decide_eq_true h2)
  · refine List.pairwise_mergeSort ?_ ?_ _
    · intro a b c h1 h2
      exact decide_eq_true (List.le_trans (of_decide_eq_true h1) (of_decide_eq_true h2))
    · intro a b
      rcases List.le_total a b with h | h
      · rw [decide_eq_true h]; rfl
      · rw [decide_eq_true h, Bool.or_true]
  · rw [List.pairwise_map]
    exact (insAll_up L).imp fun h => decide_eq_true h
  · exact (List.mergeSort_perm _ _).trans ((insAll_perm L).symm.map bl)
end Go.Proofs.Ytekkajgifgnklaa.M
