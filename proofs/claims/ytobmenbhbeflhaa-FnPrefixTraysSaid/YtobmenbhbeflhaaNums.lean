/-
  Slices of numbers that came in: where they lie; their copy; whether all of them lie between bounds.
-/
import Derived.Test.YtobmenbhbeflhaaIntS
import Derived.Test.YtobmenbhbeflhaaTrkM
import Derived.Test.YtobmenbhbeflhaaMgF2
namespace Go.Proofs.Ytobmenbhbeflhaa
open Go.RowKit

/-- A slice of numbers. -/
def Nums (w : World) (a : Option Addr) (L : List Int) : Prop :=
  ∀ i, i < L.length → ∃ b o, a = some ⟨b, o, none⟩ ∧ w.cell? ⟨b, o + i, none⟩ = some (.int .i64 (MW.gz L i))
theorem Nums.lt {w : World} {a : Option Addr} {L : List Int} (h : Nums w a L) {b o : Nat} (ha : a = some ⟨b, o, none⟩) (h0 : 0 < L.length) : b < w.heap.size := by
  obtain ⟨b', o', e, hc⟩ := h 0 h0
  rw [ha] at e
  cases e
  exact World.block_lt_of_cell? _ _ hc
theorem Nums.on {w w' : World} {a : Option Addr} {L : List Int} (h : Nums w a L) (hb : Below w.heap.size w w') : Nums w' a L := by
  intro i hi
  obtain ⟨b, o, e, h1⟩ := h i hi
  have hl := World.block_lt_of_cell? _ _ h1
  exact ⟨b, o, e, (hb.cell (p := ⟨b, o + i, none⟩) hl).trans h1⟩
theorem IRow.nums {w : World} {base : Nat} {a : Option Addr} {n c : Nat} {L : List Int} (h : IRow w base (.slice a n c) L) : Nums w a L := by
  obtain ⟨a', c', e, _, hl⟩ := h.form
  injection e with e1 _ _
  subst e1
  intro i hi
  obtain ⟨b, e, c1⟩ := hl i hi
  exact ⟨b, 0, e, by rw [Nat.zero_add, MW.gz_at hi]; exact c1⟩
theorem IRow.at {w : World} {base g n c : Nat} {L : List Int} (h : IRow w base (.slice (some ⟨g, 0, none⟩) n c) L) (j : Nat) (hj : j < L.length) : w.cell? ⟨g, j, none⟩ = some (.int .i64 (MW.gz L j)) ∧ w.frozen? ⟨g, j, none⟩ = false := by
  have hn : n = L.length := by
    obtain ⟨a', c', e, _, _⟩ := h.form
    injection e
  subst hn
  exact ⟨by rw [World.ownsRow.cellAt h j (by omega), icells_at L j hj, MW.gz_at hj], World.ownsRow.frozenAt h j⟩
theorem make_ints (n : Nat) (hn : n ≤ 1048576) (w : World) :
    (Instr.makeSlice 47 (.int .i64 (n : Int)) (.int .i64 (n : Int))).run Try.prog w = .ok (.slice (some ⟨w.heap.size, 0, none⟩) n n) (w.alloc (.cells (madeCells #[.int .i64 0] n) 3)) := by
  obtain ⟨i, hi, hzz⟩ := Option.map_eq_some_iff.1 info_int
  simp only [Prod.mk.injEq] at hzz
  obtain ⟨hz, hs, hb⟩ := hzz
  have hr := run_make (P := Try.prog) w 47 3 i _ Try.underlying47 hi hz .i64 .i64 n n (by omega) (Int.le_refl _) (by rw [hb]; omega) (by omega)
  simp only [Int.toNat_natCast, hs, Nat.mul_one] at hr
  exact hr
theorem iown_made (w : World) (n : Nat) : (w.alloc (.cells (madeCells #[.int .i64 0] n) 3)).rowIs w.heap.size 3 n (fun _ => .int .i64 0) := World.rowIs_made w _ n _
theorem IRow.of_rowIs {w : World} {b n base : Nat} {L : List Int} {f : Nat → Value} (h : w.rowIs b 3 n f) (hL : L.length = n) (hf : ∀ i, i < n → f i = .int .i64 (MW.gz L i)) (hb : base ≤ b) (hn : n ≤ 1048576) : IRow w base (.slice (some ⟨b, 0, none⟩) n n) L := by
  obtain ⟨cur, hh, hs, hc⟩ := h
  unfold IRow
  rw [hL]
  refine ⟨by rw [icells_length, hL, Nat.mul_one], Or.inr ⟨b, n, cur, rfl, hb, hh, Nat.le_refl _, by unfold maxLen; omega, by omega, ?_⟩⟩
  rw [List.take_of_length_le (by rw [Array.length_toList]; omega)]
  apply List.ext_getElem?
  intro j
  by_cases hj : j < n
  · rw [Array.getElem?_toList, hc j hj, hf j hj, icells_at _ j (by omega), MW.gz_at (by omega)]
  · rw [List.getElem?_eq_none (by rw [Array.length_toList]; omega), List.getElem?_eq_none (by rw [icells_length]; omega)]
theorem irow_made (w : World) (n base : Nat) (hn : n ≤ 1048576) (hb : base ≤ w.heap.size) : IRow (w.alloc (.cells (madeCells #[.int .i64 0] n) 3)) base (.slice (some ⟨w.heap.size, 0, none⟩) n n) (List.replicate n 0) :=
  IRow.of_rowIs (iown_made w n) (by simp) (fun i hi => by rw [MW.gz_replicate]) hb hn

end Go.Proofs.Ytobmenbhbeflhaa
