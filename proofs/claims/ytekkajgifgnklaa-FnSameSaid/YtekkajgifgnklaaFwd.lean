/-
  Orders in memory: where their two codes lie. And what the functions of the law's own text return: the size of orders, their copy, whether two lists of them agree.
-/
import Derived.Test.YtekkajgifgnklaaLet
namespace Go.Proofs.Ytekkajgifgnklaa
open Go.RowKit
open Go.PlainAid (bt get_bt bt_nonneg bt_le)

/-- A slice of n letters: the numbers I and the codes C. -/
def Fws (w : World) (a : Option Addr) (n : Nat) (I : Nat → ByteArray) (C : Nat → ByteArray) : Prop :=
  ∀ i, i < n → ∃ b o, a = some ⟨b, o, none⟩ ∧ w.cell? ⟨b, o + i * 2, none⟩ = some (.string (I i)) ∧ w.cell? ⟨b, o + i * 2 + 1, none⟩ = some (.string (C i))
/-- Of fitting sizes. -/
def FFits (n : Nat) (I : Nat → ByteArray) (C : Nat → ByteArray) : Prop := ∀ i, i < n → (I i).size ≤ maxLen ∧ (C i).size ≤ maxLen
theorem Fws.lt {w : World} {a : Option Addr} {n : Nat} {I : Nat → ByteArray} {C : Nat → ByteArray} (h : Fws w a n I C) {b o : Nat} (ha : a = some ⟨b, o, none⟩) (h0 : 0 < n) : b < w.heap.size := by
  obtain ⟨b', o', e, hc, _⟩ := h 0 h0
  rw [ha] at e
  cases e
  exact World.block_lt_of_cell? _ _ hc
theorem Fws.below {w w' : World} {B : Nat} {a : Option Addr} {n : Nat} {I : Nat → ByteArray} {C : Nat → ByteArray} (h : Fws w a n I C) (hb : Below B w w') (hB : ∀ b o, a = some ⟨b, o, none⟩ → 0 < n → b < B) : Fws w' a n I C := by
  intro i hi
  obtain ⟨b, o, e, h1, h2⟩ := h i hi
  have hl := hB b o e (by omega)
  exact ⟨b, o, e, by rw [hb.cell (p := ⟨b, o + i * 2, none⟩) hl]; exact h1, by rw [hb.cell (p := ⟨b, o + i * 2 + 1, none⟩) hl]; exact h2⟩
theorem Fws.on {w w' : World} {a : Option Addr} {n : Nat} {I : Nat → ByteArray} {C : Nat → ByteArray} (h : Fws w a n I C) (hb : Below w.heap.size w w') : Fws w' a n I C :=
  h.below hb fun _ _ e h0 => h.lt e h0
theorem Fws.congr {w : World} {a : Option Addr} {n : Nat} {I J : Nat → ByteArray} {C D : Nat → ByteArray} (h : Fws w a n I C) (e : ∀ i, i < n → I i = J i ∧ C i = D i) : Fws w a n J D := by
  intro i hi
  obtain ⟨b, o, ha, h1, h2⟩ := h i hi
  obtain ⟨e1, e2⟩ := e i hi
  exact ⟨b, o, ha, by rw [← e1]; exact h1, by rw [← e2]; exact h2⟩

/-- A row of cells that holds letters, nobody's but the call's. -/
def FOwn (w : World) (b n : Nat) (I : Nat → ByteArray) (C : Nat → ByteArray) : Prop :=
  ∃ f, w.rowIs b 45 (n * 2) f ∧ ∀ i, i < n → f (i * 2) = .string (I i) ∧ f (i * 2 + 1) = .string (C i)
theorem FOwn.lts {w : World} {b n : Nat} {I : Nat → ByteArray} {C : Nat → ByteArray} (h : FOwn w b n I C) : Fws w (some ⟨b, 0, none⟩) n I C := by
  obtain ⟨f, hr, hf⟩ := h
  intro i hi
  obtain ⟨h1, h2⟩ := hf i hi
  refine ⟨b, 0, rfl, ?_, ?_⟩
  · rw [Nat.zero_add, ← h1]; exact hr.cell (by omega)
  · rw [Nat.zero_add, ← h2]; exact hr.cell (by omega)
theorem make_forwards (n : Nat) (hn : n ≤ 1048576) (w : World) :
    (Instr.makeSlice 23 (.int .i64 (n : Int)) (.int .i64 (n : Int))).run Try.prog w = .ok (.slice (some ⟨w.heap.size, 0, none⟩) n n) (w.alloc (.cells (madeCells #[.string ⟨#[]⟩, .string ⟨#[]⟩] (n * 2)) 45)) := by
  have hinfo : (Try.prog.info? 45).map (fun i => (i.zero, i.size, i.bytes)) = some (some (.agg #[.string ⟨#[]⟩, .string ⟨#[]⟩]), 2, 32) := by kernel_rfl
  obtain ⟨i, hi, hzz⟩ := Option.map_eq_some_iff.1 hinfo
  simp only [Prod.mk.injEq] at hzz
  obtain ⟨hz, hs, hb⟩ := hzz
  have hr := run_make (P := Try.prog) w 23 45 i _ Try.underlying23 hi hz .i64 .i64 n n (by omega) (Int.le_refl _) (by rw [hb]; omega) (by omega)
  simp only [Int.toNat_natCast, hs] at hr
  exact hr
theorem fown_made (w : World) (n : Nat) : ∃ f, (w.alloc (.cells (madeCells #[.string ⟨#[]⟩, .string ⟨#[]⟩] (n * 2)) 45)).rowIs w.heap.size 45 (n * 2) f := by
  refine ⟨fun j => (madeCells #[.string ⟨#[]⟩, .string ⟨#[]⟩] (n * 2)).getD j undef, ?_⟩
  have := World.rowIs_alloc w (madeCells #[.string ⟨#[]⟩, .string ⟨#[]⟩] (n * 2)) 45 (fun j => (madeCells #[.string ⟨#[]⟩, .string ⟨#[]⟩] (n * 2)).getD j undef) (fun i hi => by simp [Array.getD, hi])
  rwa [size_madeCells] at this

theorem fstored {f : Nat → Value} {k : Nat} {I : Nat → ByteArray} {C : Nat → ByteArray} (h : ∀ j, j < k → f (j * 2) = .string (I j) ∧ f (j * 2 + 1) = .string (C j)) (j : Nat) (hj : j < k + 1) :
    (fun q => if q = k * 2 + 1 then Value.string (C k) else if q = k * 2 then .string (I k) else f q) (j * 2) = .string (I j) ∧
    (fun q => if q = k * 2 + 1 then Value.string (C k) else if q = k * 2 then .string (I k) else f q) (j * 2 + 1) = .string (C j) := by
  by_cases e : j = k
  · subst e
    constructor
    · show (if j * 2 = j * 2 + 1 then _ else if j * 2 = j * 2 then _ else _) = _
      rw [if_neg (by omega), if_pos rfl]
    · show (if j * 2 + 1 = j * 2 + 1 then _ else _) = _
      rw [if_pos rfl]
  · have := h j (by omega)
    constructor
    · show (if j * 2 = k * 2 + 1 then _ else if j * 2 = k * 2 then _ else _) = _
      rw [if_neg (by omega), if_neg (by omega)]; exact this.1
    · show (if j * 2 + 1 = k * 2 + 1 then _ else if j * 2 + 1 = k * 2 then _ else _) = _
      rw [if_neg (by omega), if_neg (by omega)]; exact this.2

end Go.Proofs.Ytekkajgifgnklaa
