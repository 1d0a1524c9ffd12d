/-
  Plain functions on letters, given by index: their order by codes, pairs in the wrong order, where a number stands. No program is named here.
-/
import Derived.Test.YtekfjheaffkakaaMgR2
import GoSem.Dispatch
import Derived.Test.YtekfjheaffkakaaBatch
import Derived.Maps.AppendAt
import Derived.OwnWalk
import Derived.Laws.OwnMore
namespace Go.Proofs.Ytekfjheaffkakaa.M

/-- One code comes before another. -/
def less (a b : ByteArray) : Bool := Op.bytesLess a.toList b.toList
theorem bytesLess_other : ∀ a b : List UInt8, Op.bytesLess b a = (!Op.bytesLess a b && !(a == b))
  | [], [] => rfl
  | [], _ :: _ => rfl
  | _ :: _, [] => rfl
  | x :: a, y :: b => by
    have ih := bytesLess_other a b
    unfold Op.bytesLess
    by_cases h1 : x < y
    · have h2 : ¬ y < x := UInt8.lt_asymm h1
      have h3 : ¬ x = y := fun e => by subst e; exact h2 h1
      have h4 : ¬ y = x := fun e => h3 e.symm
      simp [h1, h2, h4]
    · by_cases h2 : y < x
      · have h3 : ¬ x = y := fun e => by subst e; exact h1 h2
        simp [h1, h2, h3]
      · have h3 : x = y := by
          apply UInt8.toNat_inj.1
          simp only [UInt8.lt_iff_toNat_lt] at h1 h2
          omega
        subst h3
        simp [h1, ih]
theorem less_yes {a b : ByteArray} (h : less b a = true) : Op.bytesLess a.toList b.toList = false ∧ (a.toList == b.toList) = false := by
  have := bytesLess_other a.toList b.toList
  rw [show Op.bytesLess b.toList a.toList = true from h] at this
  have := this.symm
  rw [Bool.and_eq_true] at this
  simpa using this
theorem less_no {a b : ByteArray} (h : less b a = false) : Op.bytesLess a.toList b.toList = true ∨ (Op.bytesLess a.toList b.toList = false ∧ (a.toList == b.toList) = true) := by
  have := bytesLess_other a.toList b.toList
  rw [show Op.bytesLess b.toList a.toList = false from h] at this
  cases h1 : Op.bytesLess a.toList b.toList
  · rw [h1] at this
    exact Or.inr ⟨rfl, by simpa using this.symm⟩
  · exact Or.inl rfl
/-- Among the first m letters none has a code that comes before that of the letter before it. -/
def asc (C : Nat → ByteArray) : Nat → Bool
  | 0 => true
  | 1 => true
  | m + 2 => asc C (m + 1) && !less (C (m + 1)) (C m)
theorem asc_succ {C : Nat → ByteArray} {m : Nat} (h : asc C (m + 1) = true) (hl : less (C (m + 1)) (C m) = false) : asc C (m + 2) = true := by
  show (asc C (m + 1) && !less (C (m + 1)) (C m)) = true
  rw [h, hl]; rfl
theorem asc_down {C : Nat → ByteArray} : ∀ {m : Nat}, asc C (m + 1) = true → asc C m = true
  | 0, _ => rfl
  | m + 1, h => by
    have h' : (asc C (m + 1) && !less (C (m + 1)) (C m)) = true := h
    rw [Bool.and_eq_true] at h'
    exact h'.1
theorem asc_le {C : Nat → ByteArray} {m : Nat} : ∀ d, asc C (m + d) = true → asc C m = true
  | 0, h => h
  | d + 1, h => asc_le d (asc_down h)
theorem asc_end {C : Nat → ByteArray} {k n : Nat} (h : asc C k = true) (hn : n ≤ k) : asc C n = true := by
  obtain ⟨d, rfl⟩ := Nat.exists_eq_add_of_le hn
  exact asc_le d h
theorem asc_no {C : Nat → ByteArray} {k n : Nat} (hk : k + 1 < n) (h : less (C (k + 1)) (C k) = true) : asc C n = false := by
  rw [Bool.eq_false_iff]
  intro e
  have e2 : (asc C (k + 1) && !less (C (k + 1)) (C k)) = true := asc_end (k := n) e (n := k + 2) (by omega)
  rw [h, Bool.and_eq_true] at e2
  exact absurd e2.2 (by decide)
/-- Letters are a batch in which no code comes before that of the letter before it. -/
def sorted (n : Nat) (I : Nat → Int) (C : Nat → ByteArray) : Bool := batch n I C && asc C n
theorem sorted_no {n : Nat} {I : Nat → Int} {C : Nat → ByteArray} (h : batch n I C = false) : sorted n I C = false := by
  unfold sorted; rw [h]; rfl
theorem sorted_yes {n : Nat} {I : Nat → Int} {C : Nat → ByteArray} (h : batch n I C = true) : sorted n I C = asc C n := by
  unfold sorted; rw [h]; rfl
/-- Among the first k letters those whose codes come behind that of letter i. -/
def invAt (C : Nat → ByteArray) (i : Nat) : Nat → Nat
  | 0 => 0
  | k + 1 => if less (C i) (C k) = true then invAt C i k + 1 else invAt C i k
theorem invAt_yes {C : Nat → ByteArray} {i k : Nat} (h : less (C i) (C k) = true) : invAt C i (k + 1) = invAt C i k + 1 := if_pos h
theorem invAt_no {C : Nat → ByteArray} {i k : Nat} (h : less (C i) (C k) = false) : invAt C i (k + 1) = invAt C i k := if_neg (by rw [h]; decide)
theorem invAt_le (C : Nat → ByteArray) (i : Nat) : ∀ k, invAt C i k ≤ k
  | 0 => Nat.le_refl 0
  | k + 1 => by
    have := invAt_le C i k
    cases h : less (C i) (C k)
    · rw [invAt_no h]; omega
    · rw [invAt_yes h]; omega
/-- Pairs in the wrong order among the first m letters. -/
def inv (C : Nat → ByteArray) : Nat → Nat
  | 0 => 0
  | i + 1 => inv C i + invAt C i i
theorem inv_succ (C : Nat → ByteArray) (i : Nat) : inv C (i + 1) = inv C i + invAt C i i := rfl
theorem inv_le (C : Nat → ByteArray) : ∀ i, i ≤ 60 → inv C i ≤ 60 * i
  | 0, _ => Nat.le_refl 0
  | i + 1, h => by
    have := inv_le C i (by omega)
    have := invAt_le C i i
    rw [inv_succ]; omega
def inversions (n : Nat) (I : Nat → Int) (C : Nat → ByteArray) : Int := if batch n I C = true then (inv C n : Int) else -1
theorem inversions_no {n : Nat} {I : Nat → Int} {C : Nat → ByteArray} (h : batch n I C = false) : inversions n I C = -1 := if_neg (by rw [h]; decide)
theorem inversions_yes {n : Nat} {I : Nat → Int} {C : Nat → ByteArray} (h : batch n I C = true) : inversions n I C = inv C n := if_pos h
/-- Where a number stands first, or -1. -/
def find (I : Nat → Int) (n : Nat) (x : Int) : Int := match (List.range n).find? (fun i => decide (I i = x)) with
  | some i => (i : Int)
  | none => -1
theorem find_hit {I : Nat → Int} {n : Nat} {x : Int} {k : Nat} (hk : k < n) (h : I k = x) (hno : ∀ j, j < k → I j ≠ x) : find I n x = k := by
  have e : (List.range n).find? (fun i => decide (I i = x)) = some k := by
    rw [List.find?_range_eq_some]
    exact ⟨decide_eq_true h, List.mem_range.2 hk, fun j hj => by rw [decide_eq_false (hno j hj)]; rfl⟩
  unfold find; rw [e]
theorem find_miss {I : Nat → Int} {n : Nat} {x : Int} (hno : ∀ j, j < n → I j ≠ x) : find I n x = -1 := by
  have e : (List.range n).find? (fun i => decide (I i = x)) = none := by
    rw [List.find?_range_eq_none]
    exact fun j hj => by rw [decide_eq_false (hno j hj)]; rfl
  unfold find; rw [e]
theorem find_below {I : Nat → Int} {x : Int} {k : Nat} (hno : ∀ j, j < k → I j ≠ x) (h : I k ≠ x) : ∀ j, j < k + 1 → I j ≠ x := fun j hj => by
  by_cases e : j = k
  · subst e; exact h
  · exact hno j (by omega)
def findLetter (n : Nat) (I : Nat → Int) (C : Nat → ByteArray) (x : Int) : Int := if batch n I C = true then find I n x else -1
theorem findLetter_no {n : Nat} {I : Nat → Int} {C : Nat → ByteArray} {x : Int} (h : batch n I C = false) : findLetter n I C x = -1 := if_neg (by rw [h]; decide)
theorem findLetter_yes {n : Nat} {I : Nat → Int} {C : Nat → ByteArray} {x : Int} (h : batch n I C = true) : findLetter n I C x = find I n x := if_pos h
theorem batch_pos {n : Nat} {I : Nat → Int} {C : Nat → ByteArray} (h : batch n I C = false) : 0 < n := by
  cases n with
  | zero => cases h
  | succ n => omega
end Go.Proofs.Ytekfjheaffkakaa.M

/-
  Letters in slices that the call itself has made: what they hold, append, and two of them side by side.
-/
namespace Go.Proofs.Ytekfjheaffkakaa
open Go.RowKit

/-- Letters as cells. -/
def lcells : List (Int × ByteArray) → List Value
  | [] => []
  | x :: L => .int .i64 x.1 :: .string x.2 :: lcells L
theorem lcells_length : ∀ L, (lcells L).length = L.length * 2
  | [] => rfl
  | x :: L => by show (lcells L).length + 1 + 1 = (L.length + 1) * 2; rw [lcells_length L]; omega
theorem lcells_append : ∀ L L', lcells (L ++ L') = lcells L ++ lcells L'
  | [], _ => rfl
  | x :: L, L' => by show _ :: _ :: lcells (L ++ L') = _; rw [lcells_append L L']; rfl
theorem lcells_at : ∀ (L : List (Int × ByteArray)) (i : Nat) (h : i < L.length), (lcells L)[i * 2]? = some (.int .i64 (L[i].1)) ∧ (lcells L)[i * 2 + 1]? = some (.string (L[i].2))
  | [], _, h => absurd h (by simp)
  | x :: L, 0, _ => ⟨rfl, rfl⟩
  | x :: L, i + 1, h => by
    have ih := lcells_at L i (by simpa using h)
    have e1 : (i + 1) * 2 = i * 2 + 1 + 1 := by omega
    rw [e1]
    exact ih
def nI (L : List (Int × ByteArray)) (i : Nat) : Int := (L.getD i (0, ⟨#[]⟩)).1
def nC (L : List (Int × ByteArray)) (i : Nat) : ByteArray := (L.getD i (0, ⟨#[]⟩)).2
theorem nI_at {L : List (Int × ByteArray)} {i : Nat} (h : i < L.length) : nI L i = L[i].1 := by unfold nI; simp [List.getD, h]
theorem nC_at {L : List (Int × ByteArray)} {i : Nat} (h : i < L.length) : nC L i = L[i].2 := by unfold nC; simp [List.getD, h]

/-- A slice value that owns letters: nil, or in a block from base on. -/
def Row (w : World) (base : Nat) (v : Value) (L : List (Int × ByteArray)) : Prop := w.ownsRow base 33 2 v L.length (lcells L)
theorem Row.nil (w : World) (base : Nat) : Row w base (.slice none 0 0) [] := World.ownsRow_nil _ _ _ _
theorem Row.alloc {w : World} {base : Nat} {v : Value} {L : List (Int × ByteArray)} (h : Row w base v L) (o : Obj) : Row (w.alloc o) base v L := World.ownsRow.alloc h o
theorem Row.drew {w : World} {base : Nat} {v : Value} {L : List (Int × ByteArray)} (h : Row w base v L) : Row w.drew base v L := h
theorem Row.lt {w : World} {base : Nat} {v : Value} {L : List (Int × ByteArray)} (h : Row w base v L) : ∀ k, v.ownBlock = some k → base ≤ k ∧ k < w.heap.size := World.ownsRow.lt h
theorem Row.form {w : World} {base : Nat} {v : Value} {L : List (Int × ByteArray)} (h : Row w base v L) : ∃ a c, v = .slice a L.length c ∧ L.length ≤ c ∧ Lts w a L.length (nI L) (nC L) := by
  have h2 := h
  rcases h.2 with ⟨rfl, hn⟩ | ⟨g, cap, cur, rfl, _, _, hc, _, _, _⟩
  · exact ⟨none, 0, by rw [hn], by omega, fun i hi => absurd hi (by omega)⟩
  · refine ⟨_, _, rfl, hc, fun i hi => ⟨g, 0, rfl, ?_, ?_⟩⟩
    · rw [Nat.zero_add, World.ownsRow.cellAt h2 (i * 2) (by omega), (lcells_at L i hi).1, nI_at hi]
    · rw [Nat.zero_add, World.ownsRow.cellAt h2 (i * 2 + 1) (by omega), (lcells_at L i hi).2, nC_at hi]
theorem Row.kept {w w' : World} {base : Nat} {v : Value} {L : List (Int × ByteArray)} {row : Option Nat} (h : Row w base v L) (hg : w.grownBy w' row) (hne : ∀ b, v.ownBlock = some b → row ≠ some b) : Row w' base v L :=
  World.ownsRow.kept h hg (by
    cases hv : v.ownBlock with
    | none => exact Or.inl rfl
    | some b => exact Or.inr fun e => hne b hv e.symm)
theorem grown_of_below {w w' : World} (hb : Below w.heap.size w w') : w.grownBy w' none := ⟨hb.os, hb.tape, hb.output, hb.size, fun k hk _ => hb.block k hk⟩
theorem Row.on {w w' : World} {base : Nat} {v : Value} {L : List (Int × ByteArray)} (h : Row w base v L) (hb : Below w.heap.size w w') : Row w' base v L :=
  h.kept (grown_of_below hb) (fun _ _ e => by cases e)

/-- Two slices in two blocks. -/
def Apart (u v : Value) : Prop := ∀ b, u.ownBlock = some b → v.ownBlock ≠ some b
theorem Apart.symm {u v : Value} (h : Apart u v) : Apart v u := fun b hb e => h b e hb
theorem Apart.nil (v : Value) : Apart (.slice none 0 0) v := fun b hb => by simp [Value.ownBlock] at hb
theorem two_kept {w w1 : World} {base : Nat} {v v' u : Value} {L : List (Int × ByteArray)} (hu : Row w base u L) (ha : Apart v u) (hg : w.grownBy w1 v.ownBlock) {s : Nat} (ho : v'.ownBlock = v.ownBlock ∨ v'.ownBlock = some s) (hs : w.heap.size ≤ s) : Row w1 base u L ∧ Apart v' u := by
  refine ⟨hu.kept hg fun b hb e => ha b e hb, fun b hb e => ?_⟩
  rcases ho with ho | ho
  · exact ha b (ho.symm.trans hb) e
  · have hlt := (hu.lt b e).2
    have := Option.some.inj (ho.symm.trans hb)
    omega
theorem below_grown {W w w1 : World} {base : Nat} {v : Value} {L : List (Int × ByteArray)} (hb : Below W.heap.size W w) (h : Row w base v L) (hbase : W.heap.size ≤ base) (hg : w.grownBy w1 v.ownBlock) : Below W.heap.size W w1 :=
  hb.grown hg hb.size fun k hk => Nat.le_trans hbase (h.lt k hk).1

theorem info_letter : (Try.prog.info? 33).map (fun i => (i.zero, i.size, i.bytes)) = some (some (.agg #[.int .i64 0, .string ⟨#[]⟩]), 2, 24) := by kernel_rfl
theorem wpList_append_letter {ops : Array Oper} {rest : List Oper} {o : Oper} {a : Act} {Q : Exit → Act → World → Prop} (w : World) (hgd : o.guard = none) (s x : Operand)
    (ho : o.op = .call { callee := .builtin .append, args := #[s, x], argTypes := #[26, 26] })
    (base : Nat) (v : Value) (L : List (Int × ByteArray)) (hs : a.eval s = v) (hrow : Row w base v L) (b : Nat) (i : Int) (t : ByteArray) (hx : a.eval x = .slice (some ⟨b, 0, none⟩) 1 1)
    (hc : w.cell? ⟨b, 0, none⟩ = some (.int .i64 i) ∧ w.cell? ⟨b, 1, none⟩ = some (.string t)) (hl : L.length ≤ 1048576) (hbase : base ≤ w.heap.size)
    (K : ∀ v' w', Row w' base v' (L ++ [(i, t)]) → w.grownBy w' v.ownBlock → (v'.ownBlock = v.ownBlock ∨ v'.ownBlock = some w.heap.size) → wpList Try.prog ops Q rest (a.put o.dst v') w') :
    wpList Try.prog ops Q (o :: rest) a w := by
  obtain ⟨i0, hi, hz0, hz1, hz2⟩ := info_parts info_letter
  refine wpList_append_own_at w hgd s x 26 ho base 33 i0 _ 2 24 Try.underlying26 hi hz0 hz1 hz2 rfl (by decide) v L.length (lcells L) hs hrow ⟨b, 0, none⟩ 1 1 [.int .i64 i, .string t] hx rfl ?_ ?_ (by unfold maxLen; omega) (by omega) hbase ?_
  · intro j u hu
    match j, hu with
    | 0, hu => simp at hu; subst hu; simpa [Addr.add] using hc.1
    | 1, hu => simp at hu; subst hu; simpa [Addr.add] using hc.2
  · intro u hu
    simp at hu
    rcases hu with rfl | rfl <;> rfl
  · intro v' w' h1 h2 _ h3
    refine K v' w' ?_ h2 h3
    unfold Row
    rw [List.length_append, lcells_append]
    exact h1
end Go.Proofs.Ytekfjheaffkakaa
