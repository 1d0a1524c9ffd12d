/-
  Strings in memory: where they lie. And what the functions of the law's own text return: their size, their copy, whether two slices of them agree.
-/
import Derived.Test.YtekkajgifgnklaaChecked
import Derived.Test.YtekkajgifgnklaaMgA1
import Derived.Test.YtekkajgifgnklaaDig
import Derived.WalkKit
import Derived.Below
import Derived.Lib.Hide
import Derived.Deep.OwnRows
import Derived.Handy
import Derived.Deep.RegionWith
import Derived.Laws.AppendOwn
import Derived.Deep.Draws
import Derived.Laws.OwnMore
namespace Go.Proofs.Ytekkajgifgnklaa
open Go.RowKit
open Go.PlainAid (bt get_bt bt_nonneg bt_le)

theorem sstep {w a b : World} (h : Below w.heap.size w a) (k : Below a.heap.size a b) : Below w.heap.size w b := h.trans (k.mono h.size)
theorem below_alloc0 (w : World) (o : Obj) : Below w.heap.size w (w.alloc o) := (Below.refl _ _).alloc (Nat.le_refl _) _
/-- A slice of n strings. -/
def Strs (w : World) (a : Option Addr) (n : Nat) (S : Nat → ByteArray) : Prop :=
  ∀ i, i < n → ∃ b o, a = some ⟨b, o, none⟩ ∧ w.cell? ⟨b, o + i, none⟩ = some (.string (S i))
/-- Of fitting sizes. -/
def SFits (n : Nat) (S : Nat → ByteArray) : Prop := ∀ i, i < n → (S i).size ≤ maxLen
theorem Strs.lt {w : World} {a : Option Addr} {n : Nat} {S : Nat → ByteArray} (h : Strs w a n S) {b o : Nat} (ha : a = some ⟨b, o, none⟩) (h0 : 0 < n) : b < w.heap.size := by
  obtain ⟨b', o', e, hc⟩ := h 0 h0
  rw [ha] at e
  cases e
  exact World.block_lt_of_cell? _ _ hc
theorem Strs.below {w w' : World} {B : Nat} {a : Option Addr} {n : Nat} {S : Nat → ByteArray} (h : Strs w a n S) (hb : Below B w w') (hB : ∀ b o, a = some ⟨b, o, none⟩ → 0 < n → b < B) : Strs w' a n S := by
  intro i hi
  obtain ⟨b, o, e, h1⟩ := h i hi
  have hl := hB b o e (by omega)
  exact ⟨b, o, e, by rw [hb.cell (p := ⟨b, o + i, none⟩) hl]; exact h1⟩
theorem Strs.on {w w' : World} {a : Option Addr} {n : Nat} {S : Nat → ByteArray} (h : Strs w a n S) (hb : Below w.heap.size w w') : Strs w' a n S :=
  h.below hb fun _ _ e h0 => h.lt e h0
theorem Strs.congr {w : World} {a : Option Addr} {n : Nat} {S D : Nat → ByteArray} (h : Strs w a n S) (e : ∀ i, i < n → S i = D i) : Strs w a n D := by
  intro i hi
  obtain ⟨b, o, ha, h1⟩ := h i hi
  exact ⟨b, o, ha, by rw [← e i hi]; exact h1⟩
theorem Strs.drewN {w : World} {a : Option Addr} {n : Nat} {S : Nat → ByteArray} (h : Strs w a n S) (k : Nat) : Strs (w.drewN k) a n S := h

/-- Strings as a list of cells. -/
def scells (L : List ByteArray) : List Value := L.map Value.string
theorem scells_length (L : List ByteArray) : (scells L).length = L.length := by simp [scells]
theorem scells_at (L : List ByteArray) (i : Nat) (h : i < L.length) : (scells L)[i]? = some (.string L[i]) := by simp [scells, h]
theorem scells_append (L R : List ByteArray) : scells (L ++ R) = scells L ++ scells R := by simp [scells]
/-- A slice that nobody but the call knows, whose strings are L. -/
def SRow (w : World) (base : Nat) (v : Value) (L : List ByteArray) : Prop := w.ownsRow base 9 1 v L.length (scells L)
def sC (L : List ByteArray) (i : Nat) : ByteArray := L.getD i ⟨#[]⟩
theorem sC_at {L : List ByteArray} {i : Nat} (h : i < L.length) : sC L i = L[i] := by simp [sC, h]
theorem SRow.cases {w : World} {base : Nat} {v : Value} {L : List ByteArray} (h : SRow w base v L) : (v = .slice none 0 0 ∧ L = []) ∨ ∃ g c, v = .slice (some ⟨g, 0, none⟩) L.length c ∧ base ≤ g ∧ g < w.heap.size ∧ L.length ≤ c := by
  rcases h.2 with ⟨rfl, hn⟩ | ⟨g, cap, cur, rfl, hb, hg, hc, _⟩
  · exact Or.inl ⟨rfl, List.eq_nil_of_length_eq_zero hn⟩
  · exact Or.inr ⟨g, cap, rfl, hb, (Array.getElem?_eq_some_iff.1 hg).1, hc⟩
theorem SRow.form {w : World} {base : Nat} {v : Value} {L : List ByteArray} (h : SRow w base v L) : ∃ a c, v = .slice a L.length c ∧ L.length ≤ c ∧ Strs w a L.length (sC L) := by
  rcases h.cases with ⟨rfl, rfl⟩ | ⟨g, c, rfl, _, _, hc⟩
  · exact ⟨none, 0, rfl, Nat.le_refl _, fun i hi => absurd hi (by simp)⟩
  · refine ⟨some ⟨g, 0, none⟩, c, rfl, hc, fun i hi => ⟨g, 0, rfl, ?_⟩⟩
    rw [Nat.zero_add, World.ownsRow.cellAt h i (by omega), scells_at L i hi, sC_at hi]
theorem SRow.cellAt {w : World} {base g c : Nat} {L : List ByteArray} (h : SRow w base (.slice (some ⟨g, 0, none⟩) L.length c) L) (j : Nat) (hj : j < L.length) : w.cell? ⟨g, j, none⟩ = some (.string L[j]) ∧ w.frozen? ⟨g, j, none⟩ = false :=
  ⟨by rw [World.ownsRow.cellAt h j (by omega), scells_at L j hj], World.ownsRow.frozenAt h j⟩
theorem SRow.cellAt0 {w : World} {base g c : Nat} {L : List ByteArray} (h : SRow w base (.slice (some ⟨g, 0, none⟩) L.length c) L) (hj : 0 < L.length) : w.cell? ⟨g, 0, none⟩ = some (.string L[0]) ∧ w.frozen? ⟨g, 0, none⟩ = false := h.cellAt 0 hj
theorem scells_set (L : List ByteArray) (j : Nat) (s : ByteArray) : (scells L).set j (.string s) = scells (L.set j s) := by simp [scells, List.map_set]
theorem SRow.put {w : World} {base g c : Nat} {L : List ByteArray} (h : SRow w base (.slice (some ⟨g, 0, none⟩) L.length c) L) (j : Nat) (s : ByteArray) :
    SRow (w.setCell ⟨g, j, none⟩ (.string s)) base (.slice (some ⟨g, 0, none⟩) (L.set j s).length c) (L.set j s) := by
  have hs := (World.ownsRow.stored h j (.string s)).1
  rw [scells_set] at hs
  unfold SRow
  rw [List.length_set]
  exact hs
theorem SRow.nil (w : World) (base : Nat) : SRow w base (.slice none 0 0) [] := ⟨rfl, Or.inl ⟨rfl, rfl⟩⟩
theorem SRow.lt {w : World} {base : Nat} {v : Value} {L : List ByteArray} (h : SRow w base v L) : ∀ b, v.ownBlock = some b → base ≤ b ∧ b < w.heap.size := World.ownsRow.lt h
theorem SRow.kept {w w' : World} {base : Nat} {v : Value} {L : List ByteArray} (h : SRow w base v L) {row : Option Nat} (hg : w.grownBy w' row) (hne : ∀ b, v.ownBlock = some b → some b ≠ row) : SRow w' base v L := by
  refine World.ownsRow.kept h hg ?_
  rcases h.cases with ⟨rfl, rfl⟩ | ⟨g, c, rfl, _, _⟩
  · exact Or.inl rfl
  · exact Or.inr (hne g rfl)

theorem grown_set (w : World) (p : Addr) (u : Value) : w.grownBy (w.setCell p u) (some p.block) :=
  ⟨rfl, rfl, rfl, by rw [World.size_setCell]; exact Nat.le_refl _, fun i _ hne => Below.heap_setCell w p u i (fun e => hne (by rw [e]))⟩
theorem SRow.set {w : World} {base : Nat} {v : Value} {L : List ByteArray} (h : SRow w base v L) {p : Addr} (hne : ∀ b, v.ownBlock = some b → b ≠ p.block) (u : Value) : SRow (w.setCell p u) base v L :=
  h.kept (grown_set w p u) fun b hb e => by injection e with e; exact hne b hb e
theorem SRow.base {w : World} {base base' : Nat} {v : Value} {L : List ByteArray} (h : SRow w base v L) (hb : base' ≤ base) : SRow w base' v L := by
  refine ⟨h.1, ?_⟩
  rcases h.2 with ⟨rfl, hn⟩ | ⟨g, cap, cur, rfl, hbg, rest⟩
  · exact Or.inl ⟨rfl, hn⟩
  · exact Or.inr ⟨g, cap, cur, rfl, Nat.le_trans hb hbg, rest⟩
theorem SRow.below {w w' : World} {base : Nat} {v : Value} {L : List ByteArray} (h : SRow w base v L) (hb : Below w.heap.size w w') : SRow w' base v L :=
  h.kept (row := none) ⟨hb.os, hb.tape, hb.output, hb.size, fun k hk _ => hb.block k hk⟩ (fun b _ e => by cases e)
/-- From w to w' only the blocks in S have turned, and there may be new ones. -/
structure Only (w w' : World) (S : Nat → Prop) : Prop where
  os : w'.os = w.os
  tape : w'.tape = w.tape
  output : w'.output = w.output
  size : w.heap.size ≤ w'.heap.size
  block : ∀ k, k < w.heap.size → ¬ S k → w'.heap[k]? = w.heap[k]?
theorem Only.refl (w : World) (S : Nat → Prop) : Only w w S := ⟨rfl, rfl, rfl, Nat.le_refl _, fun _ _ _ => rfl⟩
theorem Only.trans {a b c : World} {S T : Nat → Prop} (h : Only a b S) (k : Only b c T) (hT : ∀ x, x < a.heap.size → T x → S x) : Only a c S :=
  ⟨k.os.trans h.os, k.tape.trans h.tape, k.output.trans h.output, Nat.le_trans h.size k.size, fun i hi hn => (k.block i (Nat.lt_of_lt_of_le hi h.size) fun ht => hn (hT i hi ht)).trans (h.block i hi hn)⟩
theorem Only.mono {a b : World} {S T : Nat → Prop} (h : Only a b S) (hT : ∀ x, x < a.heap.size → S x → T x) : Only a b T :=
  ⟨h.os, h.tape, h.output, h.size, fun i hi hn => h.block i hi fun hs => hn (hT i hi hs)⟩
theorem Only.of_grown {a b : World} {row : Option Nat} (h : a.grownBy b row) : Only a b (fun k => some k = row) := ⟨h.os, h.tape, h.output, h.size, fun i hi hn => h.block i hi hn⟩
theorem Only.of_below {B : Nat} {a b : World} (h : Below B a b) (hs : a.heap.size ≤ b.heap.size) : Only a b (fun k => B ≤ k) := ⟨h.os, h.tape, h.output, hs, fun i _ hn => h.block i (by omega)⟩
theorem Only.below {B : Nat} {a b : World} {S : Nat → Prop} (h : Only a b S) (hS : ∀ k, k < B → k < a.heap.size → ¬ S k) (hB : B ≤ a.heap.size) : Below B a b :=
  ⟨h.os, h.tape, h.output, by have := h.size; omega, fun k hk => h.block k (by omega) (hS k hk (by omega))⟩
theorem Only.new {w w' : World} {S : Nat → Prop} (hb : Below w.heap.size w w') : Only w w' S := ⟨hb.os, hb.tape, hb.output, hb.size, fun k hk _ => hb.block k hk⟩
theorem Only.set (w : World) (p : Addr) (u : Value) {S : Nat → Prop} (h : S p.block) : Only w (w.setCell p u) S :=
  ⟨rfl, rfl, rfl, by rw [World.size_setCell]; exact Nat.le_refl _, fun i _ hne => Below.heap_setCell w p u i (fun e => hne (by rw [e]; exact h))⟩
theorem ownsRow_block {w w' : World} {base : Nat} {e : TypeId} {size n : Nat} {v : Value} {xs : List Value} (h : w.ownsRow base e size v n xs) (hb : ∀ g, v.ownBlock = some g → w'.heap[g]? = w.heap[g]?) : w'.ownsRow base e size v n xs := by
  refine ⟨h.1, ?_⟩
  rcases h.2 with ⟨rfl, hn⟩ | ⟨g, cap, cur, rfl, h1, h2, rest⟩
  · exact Or.inl ⟨rfl, hn⟩
  · exact Or.inr ⟨g, cap, cur, rfl, h1, (hb g rfl).trans h2, rest⟩
theorem SRow.only {w w' : World} {base : Nat} {v : Value} {L : List ByteArray} {S : Nat → Prop} (h : SRow w base v L) (ho : Only w w' S) (hn : ∀ b, v.ownBlock = some b → ¬ S b) : SRow w' base v L :=
  ownsRow_block h fun g hg => ho.block g (h.lt g hg).2 (hn g hg)
theorem make_strings (n : Nat) (hn : n ≤ 1048576) (w : World) :
    (Instr.makeSlice 42 (.int .i64 (n : Int)) (.int .i64 (n : Int))).run Try.prog w = .ok (.slice (some ⟨w.heap.size, 0, none⟩) n n) (w.alloc (.cells (madeCells #[.string ⟨#[]⟩] n) 9)) := by
  have hinfo : (Try.prog.info? 9).map (fun i => (i.zero, i.size, i.bytes)) = some (some (.string ⟨#[]⟩), 1, 16) := by kernel_rfl
  obtain ⟨i, hi, hzz⟩ := Option.map_eq_some_iff.1 hinfo
  simp only [Prod.mk.injEq] at hzz
  obtain ⟨hz, hs, hb⟩ := hzz
  have hr := run_make (P := Try.prog) w 42 9 i _ Try.underlying42 hi hz .i64 .i64 n n (by omega) (Int.le_refl _) (by rw [hb]; omega) (by omega)
  simp only [Int.toNat_natCast, hs, Nat.mul_one] at hr
  exact hr
theorem sown_made (w : World) (n : Nat) : ∃ f, (w.alloc (.cells (madeCells #[.string ⟨#[]⟩] n) 9)).rowIs w.heap.size 9 n f := by
  refine ⟨fun j => (madeCells #[.string ⟨#[]⟩] n).getD j undef, ?_⟩
  have := World.rowIs_alloc w (madeCells #[.string ⟨#[]⟩] n) 9 (fun j => (madeCells #[.string ⟨#[]⟩] n).getD j undef) (fun i hi => by simp [Array.getD, hi])
  rwa [size_madeCells] at this
def sst (S : Nat → ByteArray) (n : Nat) : List ByteArray := (List.range n).map S
theorem sst_length (S : Nat → ByteArray) (n : Nat) : (sst S n).length = n := by simp [sst]
theorem sC_sst {S : Nat → ByteArray} {n i : Nat} (h : i < n) : sC (sst S n) i = S i := by
  rw [sC_at (by rw [sst_length]; exact h)]; simp [sst]
theorem SRow.of_rowIs {w : World} {b n base : Nat} {S : Nat → ByteArray} {f : Nat → Value} (h : w.rowIs b 9 n f) (hf : ∀ i, i < n → f i = .string (S i)) (hb : base ≤ b) (hn : n ≤ 1048576) : SRow w base (.slice (some ⟨b, 0, none⟩) n n) (sst S n) := by
  obtain ⟨cur, hh, hs, hc⟩ := h
  unfold SRow
  rw [sst_length]
  refine ⟨by rw [scells_length, sst_length, Nat.mul_one], Or.inr ⟨b, n, cur, rfl, hb, hh, Nat.le_refl _, by unfold maxLen; omega, by omega, ?_⟩⟩
  rw [List.take_of_length_le (by rw [Array.length_toList]; omega)]
  apply List.ext_getElem?
  intro j
  by_cases hj : j < n
  · rw [Array.getElem?_toList, hc j hj, hf j hj, scells_at _ j (by rw [sst_length]; exact hj)]
    simp [sst]
  · rw [List.getElem?_eq_none (by rw [Array.length_toList]; omega), List.getElem?_eq_none (by rw [scells_length, sst_length]; omega)]
theorem SRow.strs {w : World} {base : Nat} {a : Option Addr} {n c : Nat} {S : Nat → ByteArray} (h : SRow w base (.slice a n c) (sst S n)) : Strs w a n S := by
  obtain ⟨a', c', e, _, hl⟩ := h.form
  rw [sst_length] at hl
  injection e with e1 _ _
  subst e1
  exact hl.congr fun i hi => sC_sst hi

end Go.Proofs.Ytekkajgifgnklaa
