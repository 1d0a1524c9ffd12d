/-
  What l1In returns.
-/
import Derived.Test.YthnaglnmmgpiaaaDig
import Derived.Test.YthnaglnmmgpiaaaMath
import GoSem.Dispatch
import Derived.Test.YthnaglnmmgpiaaaChecked
import Derived.Test.YthnaglnmmgpiaaaShow
import Derived.WalkKit
import Derived.Laws.IdiomStrings
namespace Go.Proofs.Ythnaglnmmgpiaaa
open Go.RowKit

set_option maxHeartbeats 400000 in
theorem spec_l1In (x lo hi : Int) (w : World) :
    Calls Try.prog 43 #[.int .i64 x, .int .i64 lo, .int .i64 hi] w fun e w' => e = .returned (.bool (decide (lo ≤ x ∧ x ≤ hi))) ∧ w = w' := by
  by_cases h1 : lo ≤ x
  · by_cases h2 : x ≤ hi
    · have hv := Lib.hid (decide_eq_true (show lo ≤ x ∧ x ≤ hi from ⟨h1, h2⟩))
      go_enter Try.func43, Try.ntmps43
      go_wp2
      go_ret
      exact ⟨ret_bool hv.out.symm, rfl⟩
    · go_enter Try.func43, Try.ntmps43
      go_wp2
      go_ret
      exact ⟨ret_bool (decide_eq_false (by omega)).symm, rfl⟩
  · go_enter Try.func43, Try.ntmps43
    go_wp2
    go_ret
    exact ⟨ret_bool (by rw [decide_eq_false (show ¬ lo ≤ x by omega)]; rfl), rfl⟩

set_option maxHeartbeats 400000 in
theorem impl_within (x y : Int) (w : World) :
    Calls Try.prog 62 #[.int .i64 x, .int .i64 y] w fun e w' => e = .returned (.bool (decide (0 ≤ x ∧ x ≤ y))) ∧ w = w' := by
  by_cases h1 : 0 ≤ x
  · by_cases h2 : x ≤ y
    · have hv := Lib.hid (decide_eq_true (show 0 ≤ x ∧ x ≤ y from ⟨h1, h2⟩))
      go_enter Try.func62, Try.ntmps62
      go_wp2
      go_ret
      exact ⟨ret_bool hv.out.symm, rfl⟩
    · go_enter Try.func62, Try.ntmps62
      go_wp2
      go_ret
      exact ⟨ret_bool (decide_eq_false (show ¬ x ≤ y by omega)).symm, rfl⟩
  · go_enter Try.func62, Try.ntmps62
    go_wp2
    go_ret
    exact ⟨ret_bool (by rw [decide_eq_false (show ¬ 0 ≤ x by omega)]; rfl), rfl⟩

end Go.Proofs.Ythnaglnmmgpiaaa

/-
  Plain functions on lists of letters, given by index: numbers and codes. No program is named here.
-/
namespace Go.Proofs.Ythnaglnmmgpiaaa.M
open Go.PlainAid (bt)

/-- The first m letters are letters of a batch: valid ones, of which no two have the same number. -/
def goodTo (I : Nat → Int) (C : Nat → ByteArray) (m : Nat) : Bool := (List.range m).all fun i => (code (C i) && decide (1 ≤ I i ∧ I i ≤ 9999)) && (List.range i).all fun k => decide (I k ≠ I i)
theorem goodTo_iff (I : Nat → Int) (C : Nat → ByteArray) (m : Nat) : goodTo I C m = true ↔ ∀ i, i < m → code (C i) = true ∧ (1 ≤ I i ∧ I i ≤ 9999) ∧ ∀ k, k < i → I k ≠ I i := by
  unfold goodTo
  rw [List.all_eq_true]
  constructor
  · intro h i hi
    have := h i (List.mem_range.2 hi)
    rw [Bool.and_eq_true, Bool.and_eq_true, List.all_eq_true] at this
    exact ⟨this.1.1, of_decide_eq_true this.1.2, fun k hk => of_decide_eq_true (this.2 k (List.mem_range.2 hk))⟩
  · intro h i hi
    obtain ⟨h1, h2, h3⟩ := h i (List.mem_range.1 hi)
    rw [Bool.and_eq_true, Bool.and_eq_true, List.all_eq_true]
    exact ⟨⟨h1, decide_eq_true h2⟩, fun k hk => decide_eq_true (h3 k (List.mem_range.1 hk))⟩
theorem goodTo_zero (I : Nat → Int) (C : Nat → ByteArray) : goodTo I C 0 = true := rfl
theorem goodTo_succ {I : Nat → Int} {C : Nat → ByteArray} {m : Nat} (h : goodTo I C m = true) (h1 : code (C m) = true) (h2 : 1 ≤ I m ∧ I m ≤ 9999) (h3 : ∀ k, k < m → I k ≠ I m) : goodTo I C (m + 1) = true :=
  (goodTo_iff I C (m + 1)).2 fun i hi => by
    by_cases e : i = m
    · subst e; exact ⟨h1, h2, h3⟩
    · exact (goodTo_iff I C m).1 h i (by omega)
/-- Letters are a batch. -/
def batch (n : Nat) (I : Nat → Int) (C : Nat → ByteArray) : Bool := goodTo I C n && decide (n ≤ 60)
theorem batch_long {n : Nat} {I : Nat → Int} {C : Nat → ByteArray} (h : 60 < n) : batch n I C = false := by
  unfold batch
  rw [decide_eq_false (show ¬ n ≤ 60 by omega), Bool.and_false]
theorem batch_end {n : Nat} {I : Nat → Int} {C : Nat → ByteArray} (h : goodTo I C n = true) : batch n I C = decide (n ≤ 60) := by
  unfold batch
  rw [h, Bool.true_and]
theorem batch_no {n : Nat} {I : Nat → Int} {C : Nat → ByteArray} {k : Nat} (hk : k < n) (h : code (C k) = false ∨ I k < 1 ∨ 9999 < I k ∨ ∃ j, j < k ∧ I j = I k) : batch n I C = false := by
  unfold batch
  have : goodTo I C n = false := by
    rw [Bool.eq_false_iff]
    intro e
    obtain ⟨h1, h2, h3⟩ := (goodTo_iff I C n).1 e k hk
    rcases h with h | h | h | ⟨j, hj, h⟩
    · rw [h] at h1; cases h1
    · omega
    · omega
    · exact h3 j hj h
  rw [this]; rfl
theorem batch_yes {n : Nat} {I : Nat → Int} {C : Nat → ByteArray} (h : batch n I C = true) : n ≤ 60 ∧ ∀ i, i < n → code (C i) = true ∧ (1 ≤ I i ∧ I i ≤ 9999) ∧ ∀ k, k < i → I k ≠ I i := by
  unfold batch at h
  rw [Bool.and_eq_true] at h
  exact ⟨of_decide_eq_true h.2, (goodTo_iff I C n).1 h.1⟩
/-- What is left of a number behind a string. -/
def rest (v : Int) (n : Nat) : Int := if v - n < 0 then -1 else v - n
theorem rest_neg {v : Int} {n : Nat} (h : v - n < 0) : rest v n = -1 := if_pos h
theorem rest_pos {v : Int} {n : Nat} (h : ¬ v - n < 0) : rest v n = v - n := if_neg h
end Go.Proofs.Ythnaglnmmgpiaaa.M

/-
  Plain functions on letters, given by index: their order by codes, pairs in the wrong order, where a number stands. No program is named here.
-/
namespace Go.Proofs.Ythnaglnmmgpiaaa.M

/-- One code comes before another. -/
def less (a b : ByteArray) : Bool := Op.bytesLess a.toList b.toList
theorem bytesLess_other : ∀ a b : List UInt8, Op.bytesLess b a = (!Op.bytesLess a b && !(a == b))
  | [], [] => rfl
  | [], _ :: _ => rfl
  | _ :: _, [] => rfl
  | x :: a, y :: b => by
    have ih := bytesLess_other a b
    unfold Op.bytesLess
    by_cases h1 : x < y
    · have h2 : ¬ y < x := UInt8.lt_asymm h1
      have h3 : ¬ x = y := fun e => by subst e; exact h2 h1
      have h4 : ¬ y = x := fun e => h3 e.symm
      simp [h1, h2, h4]
    · by_cases h2 : y < x
      · have h3 : ¬ x = y := fun e => by subst e; exact h1 h2
        simp [h1, h2, h3]
      · have h3 : x = y := by
          apply UInt8.toNat_inj.1
          simp only [UInt8.lt_iff_toNat_lt] at h1 h2
          omega
        subst h3
        simp [h1, ih]
theorem less_yes {a b : ByteArray} (h : less b a = true) : Op.bytesLess a.toList b.toList = false ∧ (a.toList == b.toList) = false := by
  have := bytesLess_other a.toList b.toList
  rw [show Op.bytesLess b.toList a.toList = true from h] at this
  have := this.symm
  rw [Bool.and_eq_true] at this
  simpa using this
theorem less_no {a b : ByteArray} (h : less b a = false) : Op.bytesLess a.toList b.toList = true ∨ (Op.bytesLess a.toList b.toList = false ∧ (a.toList == b.toList) = true) := by
  have := bytesLess_other a.toList b.toList
  rw [show Op.bytesLess b.toList a.toList = false from h] at this
  cases h1 : Op.bytesLess a.toList b.toList
  · rw [h1] at this
    exact Or.inr ⟨rfl, by simpa using this.symm⟩
  · exact Or.inl rfl
/-- Among the first m letters none has a code that comes before that of the letter before it. -/
def asc (C : Nat → ByteArray) : Nat → Bool
  | 0 => true
  | 1 => true
  | m + 2 => asc C (m + 1) && !less (C (m + 1)) (C m)
theorem asc_succ {C : Nat → ByteArray} {m : Nat} (h : asc C (m + 1) = true) (hl : less (C (m + 1)) (C m) = false) : asc C (m + 2) = true := by
  show (asc C (m + 1) && !less (C (m + 1)) (C m)) = true
  rw [h, hl]; rfl
theorem asc_down {C : Nat → ByteArray} : ∀ {m : Nat}, asc C (m + 1) = true → asc C m = true
  | 0, _ => rfl
  | m + 1, h => by
    have h' : (asc C (m + 1) && !less (C (m + 1)) (C m)) = true := h
    rw [Bool.and_eq_true] at h'
    exact h'.1
theorem asc_le {C : Nat → ByteArray} {m : Nat} : ∀ d, asc C (m + d) = true → asc C m = true
  | 0, h => h
  | d + 1, h => asc_le d (asc_down h)
theorem asc_end {C : Nat → ByteArray} {k n : Nat} (h : asc C k = true) (hn : n ≤ k) : asc C n = true := by
  obtain ⟨d, rfl⟩ := Nat.exists_eq_add_of_le hn
  exact asc_le d h
theorem asc_no {C : Nat → ByteArray} {k n : Nat} (hk : k + 1 < n) (h : less (C (k + 1)) (C k) = true) : asc C n = false := by
  rw [Bool.eq_false_iff]
  intro e
  have e2 : (asc C (k + 1) && !less (C (k + 1)) (C k)) = true := asc_end (k := n) e (n := k + 2) (by omega)
  rw [h, Bool.and_eq_true] at e2
  exact absurd e2.2 (by decide)
/-- Letters are a batch in which no code comes before that of the letter before it. -/
def sorted (n : Nat) (I : Nat → Int) (C : Nat → ByteArray) : Bool := batch n I C && asc C n
theorem sorted_no {n : Nat} {I : Nat → Int} {C : Nat → ByteArray} (h : batch n I C = false) : sorted n I C = false := by
  unfold sorted; rw [h]; rfl
theorem sorted_yes {n : Nat} {I : Nat → Int} {C : Nat → ByteArray} (h : batch n I C = true) : sorted n I C = asc C n := by
  unfold sorted; rw [h]; rfl
/-- Among the first k letters those whose codes come behind that of letter i. -/
def invAt (C : Nat → ByteArray) (i : Nat) : Nat → Nat
  | 0 => 0
  | k + 1 => if less (C i) (C k) = true then invAt C i k + 1 else invAt C i k
theorem invAt_yes {C : Nat → ByteArray} {i k : Nat} (h : less (C i) (C k) = true) : invAt C i (k + 1) = invAt C i k + 1 := if_pos h
theorem invAt_no {C : Nat → ByteArray} {i k : Nat} (h : less (C i) (C k) = false) : invAt C i (k + 1) = invAt C i k := if_neg (by rw [h]; decide)
theorem invAt_le (C : Nat → ByteArray) (i : Nat) : ∀ k, invAt C i k ≤ k
  | 0 => Nat.le_refl 0
  | k + 1 => by
    have := invAt_le C i k
    cases h : less (C i) (C k)
    · rw [invAt_no h]; omega
    · rw [invAt_yes h]; omega
/-- Pairs in the wrong order among the first m letters. -/
def inv (C : Nat → ByteArray) : Nat → Nat
  | 0 => 0
  | i + 1 => inv C i + invAt C i i
theorem inv_succ (C : Nat → ByteArray) (i : Nat) : inv C (i + 1) = inv C i + invAt C i i := rfl
theorem inv_le (C : Nat → ByteArray) : ∀ i, i ≤ 60 → inv C i ≤ 60 * i
  | 0, _ => Nat.le_refl 0
  | i + 1, h => by
    have := inv_le C i (by omega)
    have := invAt_le C i i
    rw [inv_succ]; omega
def inversions (n : Nat) (I : Nat → Int) (C : Nat → ByteArray) : Int := if batch n I C = true then (inv C n : Int) else -1
theorem inversions_no {n : Nat} {I : Nat → Int} {C : Nat → ByteArray} (h : batch n I C = false) : inversions n I C = -1 := if_neg (by rw [h]; decide)
theorem inversions_yes {n : Nat} {I : Nat → Int} {C : Nat → ByteArray} (h : batch n I C = true) : inversions n I C = inv C n := if_pos h
/-- Where a number stands first, or -1. -/
def find (I : Nat → Int) (n : Nat) (x : Int) : Int := match (List.range n).find? (fun i => decide (I i = x)) with
  | some i => (i : Int)
  | none => -1
theorem find_hit {I : Nat → Int} {n : Nat} {x : Int} {k : Nat} (hk : k < n) (h : I k = x) (hno : ∀ j, j < k → I j ≠ x) : find I n x = k := by
  have e : (List.range n).find? (fun i => decide (I i = x)) = some k := by
    rw [List.find?_range_eq_some]
    exact ⟨decide_eq_true h, List.mem_range.2 hk, fun j hj => by rw [decide_eq_false (hno j hj)]; rfl⟩
  unfold find; rw [e]
theorem find_miss {I : Nat → Int} {n : Nat} {x : Int} (hno : ∀ j, j < n → I j ≠ x) : find I n x = -1 := by
  have e : (List.range n).find? (fun i => decide (I i = x)) = none := by
    rw [List.find?_range_eq_none]
    exact fun j hj => by rw [decide_eq_false (hno j hj)]; rfl
  unfold find; rw [e]
theorem find_below {I : Nat → Int} {x : Int} {k : Nat} (hno : ∀ j, j < k → I j ≠ x) (h : I k ≠ x) : ∀ j, j < k + 1 → I j ≠ x := fun j hj => by
  by_cases e : j = k
  · subst e; exact h
  · exact hno j (by omega)
def findLetter (n : Nat) (I : Nat → Int) (C : Nat → ByteArray) (x : Int) : Int := if batch n I C = true then find I n x else -1
theorem findLetter_no {n : Nat} {I : Nat → Int} {C : Nat → ByteArray} {x : Int} (h : batch n I C = false) : findLetter n I C x = -1 := if_neg (by rw [h]; decide)
theorem findLetter_yes {n : Nat} {I : Nat → Int} {C : Nat → ByteArray} {x : Int} (h : batch n I C = true) : findLetter n I C x = find I n x := if_pos h
theorem batch_pos {n : Nat} {I : Nat → Int} {C : Nat → ByteArray} (h : batch n I C = false) : 0 < n := by
  cases n with
  | zero => cases h
  | succ n => omega
end Go.Proofs.Ythnaglnmmgpiaaa.M

/-
  A string of one byte, as a conversion makes it; strings of digits. 
-/
namespace Go.Proofs.Ythnaglnmmgpiaaa
open Go.RowKit

theorem byte_string (w : World) (x : Int) (x0 : 0 ≤ x) (x1 : x ≤ 255) (T : TypeId) : (convert 22 9 (.slice (some ⟨w.heap.size, 0, none⟩) 1 1)).run Try.prog (w.alloc (.cells #[.int .u8 x] T)) = .ok (.string ⟨#[UInt8.ofNat x.toNat]⟩) (w.alloc (.cells #[.int .u8 x] T)) := by
  have hb : (UInt8.ofNat x.toNat).toNat = x.toNat := by
    rw [UInt8.toNat_ofNat']
    omega
  exact run_convert_bytes_back (P := Try.prog) (w.alloc (.cells #[.int .u8 x] T)) 22 9 5 ⟨w.heap.size, 0, none⟩ 1 [UInt8.ofNat x.toNat] Try.underlying22 Try.underlying5 Try.underlying9 (by
    intro j hj
    have hj0 : j = 0 := by simp at hj; omega
    subst hj0
    show (w.alloc (.cells #[.int .u8 x] T)).cell? ⟨w.heap.size, 0, none⟩ = _
    have hx : ((x.toNat : Nat) : Int) = x := by omega
    simp [hb, hx])
end Go.Proofs.Ythnaglnmmgpiaaa
