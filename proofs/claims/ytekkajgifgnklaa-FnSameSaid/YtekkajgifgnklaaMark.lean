/-
  The marks that a law writes into letters, and reads again.
-/
import Derived.Test.YtekkajgifgnklaaMgA2
import Derived.Test.YtekkajgifgnklaaMgA3
import Derived.Test.YtekkajgifgnklaaMgA1
import Derived.Deep.RegionWith
namespace Go.Proofs.Ytekkajgifgnklaa
open Go.RowKit
open Go.PlainAid (bt get_bt bt_nonneg bt_le)

namespace M
/-- A number's digits; none for 0. -/
def dec (k : Nat) : ByteArray := if _h : k = 0 then ⟨#[]⟩ else dec (k / 10) ++ dig ((k % 10 : Nat) : Int)
termination_by k
decreasing_by omega
theorem dec_zero : dec 0 = ⟨#[]⟩ := by unfold dec; rfl
theorem dec_pos {k : Nat} (h : 0 < k) : dec k = dec (k / 10) ++ dig ((k % 10 : Nat) : Int) := by
  conv => lhs; unfold dec
  rw [dif_neg (by omega)]
theorem dec_size : ∀ k : Nat, (dec k).size ≤ k := by
  intro k
  induction k using Nat.strongRecOn with
  | ind k ih =>
    by_cases h : k = 0
    · subst h; rw [dec_zero]; exact Nat.le_refl 0
    · rw [dec_pos (by omega), ByteArray.size_append, dig_size]
      have := ih (k / 10) (by omega)
      omega
theorem empty_append (a : ByteArray) : (⟨#[]⟩ : ByteArray) ++ a = a := by
  apply ByteArray.ext
  rw [ByteArray.data_append]
  exact Array.empty_append
theorem append_assoc (a b c : ByteArray) : a ++ b ++ c = a ++ (b ++ c) := by
  apply ByteArray.ext
  simp only [ByteArray.data_append, Array.append_assoc]
/-- The letter m and a number's digits. -/
def mark (k : Nat) : ByteArray := ⟨#[109]⟩ ++ dec k
theorem dig_nat (n : Nat) : dig ((n : Nat) : Int) = ⟨#[48 + UInt8.ofNat n]⟩ := by
  unfold dig
  rw [show ((48 : Int) + (n : Int)).toNat = 48 + n from by omega, UInt8.ofNat_add]
  rfl
theorem dec_step {k j : Nat} {s : ByteArray} (h : dec k = dec j ++ s) (hj : 0 < j) : dec k = dec (j / 10) ++ (dig ((j % 10 : Nat) : Int) ++ s) := by
  rw [h, dec_pos hj, append_assoc]
theorem dec_le {k j : Nat} {s : ByteArray} (h : dec k = dec j ++ s) : s.size ≤ k := by
  have := dec_size k
  rw [h, ByteArray.size_append] at this
  omega
theorem mark_end {k : Nat} {s : ByteArray} (h : dec k = dec 0 ++ s) : mark k = ⟨#[109]⟩ ++ s := by
  unfold mark
  rw [h, dec_zero, empty_append]
/-- Marked letters. -/
def marks (k n : Nat) : List (Int × ByteArray) := (List.range n).map fun i => (((k + 2 * i : Nat) : Int), mark (k + 2 * i + 1))
theorem marks_length (k n : Nat) : (marks k n).length = n := by simp [marks]
def markTo (L : List (Int × ByteArray)) (k : Nat) : Nat → List (Int × ByteArray)
  | 0 => L
  | j + 1 => (markTo L k j).set j (((k + 2 * j : Nat) : Int), mark (k + 2 * j + 1))
theorem markTo_length (L : List (Int × ByteArray)) (k : Nat) : ∀ j, (markTo L k j).length = L.length
  | 0 => rfl
  | j + 1 => by show ((markTo L k j).set j _).length = _; rw [List.length_set, markTo_length L k j]
theorem markTo_at (L : List (Int × ByteArray)) (k : Nat) : ∀ j i, i < j → i < L.length → (markTo L k j)[i]? = some (((k + 2 * i : Nat) : Int), mark (k + 2 * i + 1))
  | 0, _, h, _ => absurd h (by omega)
  | j + 1, i, h, hl => by
    show ((markTo L k j).set j _)[i]? = _
    by_cases e : i = j
    · subst e
      rw [List.getElem?_set_self (by rw [markTo_length]; exact hl)]
    · rw [List.getElem?_set_ne (by omega)]
      exact markTo_at L k j i (by omega) hl
theorem markTo_end (L : List (Int × ByteArray)) (k : Nat) : markTo L k L.length = marks k L.length := by
  apply List.ext_getElem?
  intro i
  by_cases h : i < L.length
  · rw [markTo_at L k _ i h h]
    simp [marks, h]
  · rw [List.getElem?_eq_none (by rw [markTo_length]; omega), List.getElem?_eq_none (by rw [marks_length]; omega)]
end M
theorem nI_marks {k n i : Nat} (h : i < n) : nI (M.marks k n) i = ((k + 2 * i : Nat) : Int) := by
  rw [nI_at (by rw [M.marks_length]; exact h)]; simp [M.marks]
theorem nC_marks {k n i : Nat} (h : i < n) : nC (M.marks k n) i = M.mark (k + 2 * i + 1) := by
  rw [nC_at (by rw [M.marks_length]; exact h)]; simp [M.marks]
theorem lcells_set : ∀ (L : List (Int × ByteArray)) (j : Nat) (x : Int) (s : ByteArray), ((lcells L).set (j * 2) (.int .i64 x)).set (j * 2 + 1) (.string s) = lcells (L.set j (x, s))
  | [], _, _, _ => rfl
  | _ :: _, 0, _, _ => rfl
  | y :: L, j + 1, x, s => by
    have ih := lcells_set L j x s
    have e1 : (j + 1) * 2 = j * 2 + 1 + 1 := by omega
    rw [e1]
    show _ :: _ :: (((lcells L).set (j * 2) (.int .i64 x)).set (j * 2 + 1) (.string s)) = _ :: _ :: lcells (L.set j (x, s))
    rw [ih]
theorem Row.cases {w : World} {base : Nat} {v : Value} {L : List (Int × ByteArray)} (h : Row w base v L) : (v = .slice none 0 0 ∧ L = []) ∨ ∃ g c, v = .slice (some ⟨g, 0, none⟩) L.length c ∧ base ≤ g ∧ g < w.heap.size := by
  rcases h.2 with ⟨rfl, hn⟩ | ⟨g, cap, cur, rfl, hb, hg, _⟩
  · exact Or.inl ⟨rfl, List.eq_nil_of_length_eq_zero hn⟩
  · exact Or.inr ⟨g, cap, rfl, hb, (Array.getElem?_eq_some_iff.1 hg).1⟩

theorem grown_some {w w' : World} (hb : Below w.heap.size w w') {row : Option Nat} : w.grownBy w' row := ⟨hb.os, hb.tape, hb.output, hb.size, fun k hk _ => hb.block k hk⟩
theorem grown_row {a b c : World} {row : Option Nat} (h : a.grownBy b row) (k : b.grownBy c row) : a.grownBy c row :=
  ⟨k.os.trans h.os, k.tape.trans h.tape, k.output.trans h.output, Nat.le_trans h.size k.size, fun i hi hne => (k.block i (Nat.lt_of_lt_of_le hi h.size) hne).trans (h.block i hi hne)⟩

theorem lst_at {I : Nat → Int} {C : Nat → ByteArray} {n i : Nat} (h : i < n) : nI (M.lst I C n) i = I i ∧ nC (M.lst I C n) i = C i := by
  rw [nI_at (by rw [M.lst_length]; exact h), nC_at (by rw [M.lst_length]; exact h)]
  simp [M.lst]
theorem lcells_lst (I : Nat → Int) (C : Nat → ByteArray) (n : Nat) {i : Nat} (h : i < n) : (lcells (M.lst I C n))[i * 2]? = some (.int .i64 (I i)) ∧ (lcells (M.lst I C n))[i * 2 + 1]? = some (.string (C i)) := by
  have hl : i < (M.lst I C n).length := by rw [M.lst_length]; exact h
  have := lcells_at (M.lst I C n) i hl
  rw [← nI_at hl, ← nC_at hl, (lst_at h).1, (lst_at h).2] at this
  exact this
/-- The law's own copy of letters, as a row. -/
theorem Own.row {w : World} {b n base : Nat} {I : Nat → Int} {C : Nat → ByteArray} (h : Own w b n I C) (hb : base ≤ b) (hn : n ≤ 1048576) : Row w base (.slice (some ⟨b, 0, none⟩) n n) (M.lst I C n) := by
  obtain ⟨f, ⟨cur, hh, hs, hc⟩, hf⟩ := h
  unfold Row
  rw [M.lst_length]
  refine ⟨by rw [lcells_length, M.lst_length], Or.inr ⟨b, n, cur, rfl, hb, hh, Nat.le_refl _, by unfold maxLen; omega, hs, ?_⟩⟩
  rw [List.take_of_length_le (by rw [Array.length_toList]; omega)]
  apply List.ext_getElem?
  intro j
  by_cases hj : j < n * 2
  · rw [Array.getElem?_toList, hc j hj]
    have hp : j = j / 2 * 2 ∨ j = j / 2 * 2 + 1 := by omega
    obtain ⟨h1, h2⟩ := hf (j / 2) (by omega)
    obtain ⟨q1, q2⟩ := lcells_lst I C n (i := j / 2) (by omega)
    rcases hp with e | e
    · rw [e, h1, q1]
    · rw [e, h2, q2]
  · rw [List.getElem?_eq_none (by rw [Array.length_toList]; omega), List.getElem?_eq_none (by rw [lcells_length, M.lst_length]; omega)]
theorem Row.lts_lst {w : World} {base : Nat} {a : Option Addr} {n c : Nat} {I : Nat → Int} {C : Nat → ByteArray} (h : Row w base (.slice a n c) (M.lst I C n)) : Lts w a n I C := by
  obtain ⟨a', c', e, _, hl⟩ := h.form
  rw [M.lst_length] at hl
  injection e with e1 _ _
  subst e1
  exact hl.congr fun i hi => lst_at hi
/-- What was there before the base of a row lies in another block. -/
theorem Row.older {w w' : World} {base base' : Nat} {v v' : Value} {L L' : List (Int × ByteArray)} (h : Row w base v L) (h' : Row w' base' v' L') (hs : w.heap.size ≤ base') : Apart v v' := fun b hb e => by
  have h1 := (h.lt b hb).2
  have h2 := (h'.lt b e).1
  omega
theorem Row.past {w w' : World} {base : Nat} {v v' : Value} {L : List (Int × ByteArray)} (h : Row w base v L) (ha : Apart v v') (hg : w.grownBy w' v'.ownBlock) : Row w' base v L :=
  h.kept hg fun b hb e => ha b hb e
end Go.Proofs.Ytekkajgifgnklaa
