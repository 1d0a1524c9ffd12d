/-
  The marks that a law writes into letters, and reads again.
-/
import Derived.Test.YtkbebpadbdhnhaaByte
import Derived.Test.YtkbebpadbdhnhaaRow
import Derived.Test.YtkbebpadbdhnhaaSplitM
import Derived.Deep.RegionWith
namespace Go.Proofs.Ytkbebpadbdhnhaa
open Go.RowKit
open Go.PlainAid (bt get_bt bt_nonneg bt_le)

namespace M
/-- A number's digits; none for 0. -/
def dec (k : Nat) : ByteArray := if _h : k = 0 then ⟨#[]⟩ else dec (k / 10) ++ dig ((k % 10 : Nat) : Int)
termination_by k
decreasing_by omega
theorem dec_zero : dec 0 = ⟨#[]⟩ := by unfold dec; rfl
theorem dec_pos {k : Nat} (h : 0 < k) : dec k = dec (k / 10) ++ dig ((k % 10 : Nat) : Int) := by
  conv => lhs; unfold dec
  rw [dif_neg (by omega)]
theorem dec_size : ∀ k : Nat, (dec k).size ≤ k := by
  intro k
  induction k using Nat.strongRecOn with
  | ind k ih =>
    by_cases h : k = 0
    · subst h; rw [dec_zero]; exact Nat.le_refl 0
    · rw [dec_pos (by omega), ByteArray.size_append, dig_size]
      have := ih (k / 10) (by omega)
      omega
theorem empty_append (a : ByteArray) : (⟨#[]⟩ : ByteArray) ++ a = a := by
  apply ByteArray.ext
  rw [ByteArray.data_append]
  exact Array.empty_append
theorem append_assoc (a b c : ByteArray) : a ++ b ++ c = a ++ (b ++ c) := by
  apply ByteArray.ext
  simp only [ByteArray.data_append, Array.append_assoc]
/-- The letter m and a number's digits. -/
def mark (k : Nat) : ByteArray := ⟨#[109]⟩ ++ dec k
theorem dig_nat (n : Nat) : dig ((n : Nat) : Int) = ⟨#[48 + UInt8.ofNat n]⟩ := by
  unfold dig
  rw [show ((48 : Int) + (n : Int)).toNat = 48 + n from by omega, UInt8.ofNat_add]
  rfl
theorem dec_step {k j : Nat} {s : ByteArray} (h : dec k = dec j ++ s) (hj : 0 < j) : dec k = dec (j / 10) ++ (dig ((j % 10 : Nat) : Int) ++ s) := by
  rw [h, dec_pos hj, append_assoc]
theorem dec_le {k j : Nat} {s : ByteArray} (h : dec k = dec j ++ s) : s.size ≤ k := by
  have := dec_size k
  rw [h, ByteArray.size_append] at this
  omega
theorem mark_end {k : Nat} {s : ByteArray} (h : dec k = dec 0 ++ s) : mark k = ⟨#[109]⟩ ++ s := by
  unfold mark
  rw [h, dec_zero, empty_append]
/-- Marked letters. -/
def marks (k n : Nat) : List (Int × ByteArray) := (List.range n).map fun i => (((k + 2 * i : Nat) : Int), mark (k + 2 * i + 1))
theorem marks_length (k n : Nat) : (marks k n).length = n := by simp [marks]
def markTo (L : List (Int × ByteArray)) (k : Nat) : Nat → List (Int × ByteArray)
  | 0 => L
  | j + 1 => (markTo L k j).set j (((k + 2 * j : Nat) : Int), mark (k + 2 * j + 1))
theorem markTo_length (L : List (Int × ByteArray)) (k : Nat) : ∀ j, (markTo L k j).length = L.length
  | 0 => rfl
  | j + 1 => by show ((markTo L k j).set j _).length = _; rw [List.length_set, markTo_length L k j]
theorem markTo_at (L : List (Int × ByteArray)) (k : Nat) : ∀ j i, i < j → i < L.length → (markTo L k j)[i]? = some (((k + 2 * i : Nat) : Int), mark (k + 2 * i + 1))
  | 0, _, h, _ => absurd h (by omega)
  | j + 1, i, h, hl => by
    show ((markTo L k j).set j _)[i]? = _
    by_cases e : i = j
    · subst e
      rw [List.getElem?_set_self (by rw [markTo_length]; exact hl)]
    · rw [List.getElem?_set_ne (by omega)]
      exact markTo_at L k j i (by omega) hl
theorem markTo_end (L : List (Int × ByteArray)) (k : Nat) : markTo L k L.length = marks k L.length := by
  apply List.ext_getElem?
  intro i
  by_cases h : i < L.length
  · rw [markTo_at L k _ i h h]
    simp [marks, h]
  · rw [List.getElem?_eq_none (by rw [markTo_length]; omega), List.getElem?_eq_none (by rw [marks_length]; omega)]
end M
theorem nI_marks {k n i : Nat} (h : i < n) : nI (M.marks k n) i = ((k + 2 * i : Nat) : Int) := by
  rw [nI_at (by rw [M.marks_length]; exact h)]; simp [M.marks]
theorem nC_marks {k n i : Nat} (h : i < n) : nC (M.marks k n) i = M.mark (k + 2 * i + 1) := by
  rw [nC_at (by rw [M.marks_length]; exact h)]; simp [M.marks]
theorem lcells_set : ∀ (L : List (Int × ByteArray)) (j : Nat) (x : Int) (s : ByteArray), ((lcells L).set (j * 2) (.int .i64 x)).set (j * 2 + 1) (.string s) = lcells (L.set j (x, s))
  | [], _, _, _ => rfl
  | _ :: _, 0, _, _ => rfl
  | y :: L, j + 1, x, s => by
    have ih := lcells_set L j x s
    have e1 : (j + 1) * 2 = j * 2 + 1 + 1 := by omega
    rw [e1]
    show _ :: _ :: (((lcells L).set (j * 2) (.int .i64 x)).set (j * 2 + 1) (.string s)) = _ :: _ :: lcells (L.set j (x, s))
    rw [ih]
theorem grown_some {w w' : World} (hb : Below w.heap.size w w') {row : Option Nat} : w.grownBy w' row := ⟨hb.os, hb.tape, hb.output, hb.size, fun k hk _ => hb.block k hk⟩
theorem grown_row {a b c : World} {row : Option Nat} (h : a.grownBy b row) (k : b.grownBy c row) : a.grownBy c row :=
  ⟨k.os.trans h.os, k.tape.trans h.tape, k.output.trans h.output, Nat.le_trans h.size k.size, fun i hi hne => (k.block i (Nat.lt_of_lt_of_le hi h.size) hne).trans (h.block i hi hne)⟩

theorem lst_at {I : Nat → Int} {C : Nat → ByteArray} {n i : Nat} (h : i < n) : nI (M.lst I C n) i = I i ∧ nC (M.lst I C n) i = C i := by
  rw [nI_at (by rw [M.lst_length]; exact h), nC_at (by rw [M.lst_length]; exact h)]
  simp [M.lst]
theorem lcells_lst (I : Nat → Int) (C : Nat → ByteArray) (n : Nat) {i : Nat} (h : i < n) : (lcells (M.lst I C n))[i * 2]? = some (.int .i64 (I i)) ∧ (lcells (M.lst I C n))[i * 2 + 1]? = some (.string (C i)) := by
  have hl : i < (M.lst I C n).length := by rw [M.lst_length]; exact h
  have := lcells_at (M.lst I C n) i hl
  rw [← nI_at hl, ← nC_at hl, (lst_at h).1, (lst_at h).2] at this
  exact this
end Go.Proofs.Ytkbebpadbdhnhaa
