/-
  A string of one byte, as a conversion makes it; strings of digits. 
-/
import Derived.Test.YtekkajgifgnklaaChecked
import Derived.Test.YtekkajgifgnklaaShow
import Derived.WalkKit
import Derived.Laws.IdiomStrings
import Derived.Test.YtekkajgifgnklaaDig
import Derived.Test.YtekkajgifgnklaaMgA1
import GoSem.Dispatch
import Derived.Test.YtekkajgifgnklaaPlanM
namespace Go.Proofs.Ytekkajgifgnklaa
open Go.RowKit

theorem byte_string (w : World) (x : Int) (x0 : 0 ≤ x) (x1 : x ≤ 255) (T : TypeId) : (convert 22 9 (.slice (some ⟨w.heap.size, 0, none⟩) 1 1)).run Try.prog (w.alloc (.cells #[.int .u8 x] T)) = .ok (.string ⟨#[UInt8.ofNat x.toNat]⟩) (w.alloc (.cells #[.int .u8 x] T)) := by
  have hb : (UInt8.ofNat x.toNat).toNat = x.toNat := by
    rw [UInt8.toNat_ofNat']
    omega
  exact run_convert_bytes_back (P := Try.prog) (w.alloc (.cells #[.int .u8 x] T)) 22 9 5 ⟨w.heap.size, 0, none⟩ 1 [UInt8.ofNat x.toNat] Try.underlying22 Try.underlying5 Try.underlying9 (by
    intro j hj
    have hj0 : j = 0 := by simp at hj; omega
    subst hj0
    show (w.alloc (.cells #[.int .u8 x] T)).cell? ⟨w.heap.size, 0, none⟩ = _
    have hx : ((x.toNat : Nat) : Int) = x := by omega
    simp [hb, hx])
end Go.Proofs.Ytekkajgifgnklaa

/-
  What l1In returns.
-/
namespace Go.Proofs.Ytekkajgifgnklaa
open Go.RowKit

set_option maxHeartbeats 400000 in
theorem spec_l1In (x lo hi : Int) (w : World) :
    Calls Try.prog 48 #[.int .i64 x, .int .i64 lo, .int .i64 hi] w fun e w' => e = .returned (.bool (decide (lo ≤ x ∧ x ≤ hi))) ∧ w = w' := by
  by_cases h1 : lo ≤ x
  · by_cases h2 : x ≤ hi
    · have hv := Lib.hid (decide_eq_true (show lo ≤ x ∧ x ≤ hi from ⟨h1, h2⟩))
      go_enter Try.func48, Try.ntmps48
      go_wp2
      go_ret
      exact ⟨ret_bool hv.out.symm, rfl⟩
    · go_enter Try.func48, Try.ntmps48
      go_wp2
      go_ret
      exact ⟨ret_bool (decide_eq_false (by omega)).symm, rfl⟩
  · go_enter Try.func48, Try.ntmps48
    go_wp2
    go_ret
    exact ⟨ret_bool (by rw [decide_eq_false (show ¬ lo ≤ x by omega)]; rfl), rfl⟩

end Go.Proofs.Ytekkajgifgnklaa

/-
  Plain functions on letters, given by index: their order by codes, pairs in the wrong order, where a number stands. No program is named here.
-/
namespace Go.Proofs.Ytekkajgifgnklaa.M

/-- One code comes before another. -/
def less (a b : ByteArray) : Bool := Op.bytesLess a.toList b.toList
theorem bytesLess_other : ∀ a b : List UInt8, Op.bytesLess b a = (!Op.bytesLess a b && !(a == b))
  | [], [] => rfl
  | [], _ :: _ => rfl
  | _ :: _, [] => rfl
  | x :: a, y :: b => by
    have ih := bytesLess_other a b
    unfold Op.bytesLess
    by_cases h1 : x < y
    · have h2 : ¬ y < x := UInt8.lt_asymm h1
      have h3 : ¬ x = y := fun e => by subst e; exact h2 h1
      have h4 : ¬ y = x := fun e => h3 e.symm
      simp [h1, h2, h4]
    · by_cases h2 : y < x
      · have h3 : ¬ x = y := fun e => by subst e; exact h1 h2
        simp [h1, h2, h3]
      · have h3 : x = y := by
          apply UInt8.toNat_inj.1
          simp only [UInt8.lt_iff_toNat_lt] at h1 h2
          omega
        subst h3
        simp [h1, ih]
theorem less_yes {a b : ByteArray} (h : less b a = true) : Op.bytesLess a.toList b.toList = false ∧ (a.toList == b.toList) = false := by
  have := bytesLess_other a.toList b.toList
  rw [show Op.bytesLess b.toList a.toList = true from h] at this
  have := this.symm
  rw [Bool.and_eq_true] at this
  simpa using this
theorem less_no {a b : ByteArray} (h : less b a = false) : Op.bytesLess a.toList b.toList = true ∨ (Op.bytesLess a.toList b.toList = false ∧ (a.toList == b.toList) = true) := by
  have := bytesLess_other a.toList b.toList
  rw [show Op.bytesLess b.toList a.toList = false from h] at this
  cases h1 : Op.bytesLess a.toList b.toList
  · rw [h1] at this
    exact Or.inr ⟨rfl, by simpa using this.symm⟩
  · exact Or.inl rfl
/-- Among the first m letters none has a code that comes before that of the letter before it. -/
def asc (C : Nat → ByteArray) : Nat → Bool
  | 0 => true
  | 1 => true
  | m + 2 => asc C (m + 1) && !less (C (m + 1)) (C m)
theorem asc_succ {C : Nat → ByteArray} {m : Nat} (h : asc C (m + 1) = true) (hl : less (C (m + 1)) (C m) = false) : asc C (m + 2) = true := by
  show (asc C (m + 1) && !less (C (m + 1)) (C m)) = true
  rw [h, hl]; rfl
theorem asc_down {C : Nat → ByteArray} : ∀ {m : Nat}, asc C (m + 1) = true → asc C m = true
  | 0, _ => rfl
  | m + 1, h => by
    have h' : (asc C (m + 1) && !less (C (m + 1)) (C m)) = true := h
    rw [Bool.and_eq_true] at h'
    exact h'.1
theorem asc_le {C : Nat → ByteArray} {m : Nat} : ∀ d, asc C (m + d) = true → asc C m = true
  | 0, h => h
  | d + 1, h => asc_le d (asc_down h)
theorem asc_end {C : Nat → ByteArray} {k n : Nat} (h : asc C k = true) (hn : n ≤ k) : asc C n = true := by
  obtain ⟨d, rfl⟩ := Nat.exists_eq_add_of_le hn
  exact asc_le d h
theorem asc_no {C : Nat → ByteArray} {k n : Nat} (hk : k + 1 < n) (h : less (C (k + 1)) (C k) = true) : asc C n = false := by
  rw [Bool.eq_false_iff]
  intro e
  have e2 : (asc C (k + 1) && !less (C (k + 1)) (C k)) = true := asc_end (k := n) e (n := k + 2) (by omega)
  rw [h, Bool.and_eq_true] at e2
  exact absurd e2.2 (by decide)
/-- Letters are a batch in which no code comes before that of the letter before it. -/
def sorted (n : Nat) (I : Nat → Int) (C : Nat → ByteArray) : Bool := batch n I C && asc C n
theorem sorted_no {n : Nat} {I : Nat → Int} {C : Nat → ByteArray} (h : batch n I C = false) : sorted n I C = false := by
  unfold sorted; rw [h]; rfl
theorem sorted_yes {n : Nat} {I : Nat → Int} {C : Nat → ByteArray} (h : batch n I C = true) : sorted n I C = asc C n := by
  unfold sorted; rw [h]; rfl
/-- Among the first k letters those whose codes come behind that of letter i. -/
def invAt (C : Nat → ByteArray) (i : Nat) : Nat → Nat
  | 0 => 0
  | k + 1 => if less (C i) (C k) = true then invAt C i k + 1 else invAt C i k
theorem invAt_yes {C : Nat → ByteArray} {i k : Nat} (h : less (C i) (C k) = true) : invAt C i (k + 1) = invAt C i k + 1 := if_pos h
theorem invAt_no {C : Nat → ByteArray} {i k : Nat} (h : less (C i) (C k) = false) : invAt C i (k + 1) = invAt C i k := if_neg (by rw [h]; decide)
theorem invAt_le (C : Nat → ByteArray) (i : Nat) : ∀ k, invAt C i k ≤ k
  | 0 => Nat.le_refl 0
  | k + 1 => by
    have := invAt_le C i k
    cases h : less (C i) (C k)
    · rw [invAt_no h]; omega
    · rw [invAt_yes h]; omega
/-- Pairs in the wrong order among the first m letters. -/
def inv (C : Nat → ByteArray) : Nat → Nat
  | 0 => 0
  | i + 1 => inv C i + invAt C i i
theorem inv_succ (C : Nat → ByteArray) (i : Nat) : inv C (i + 1) = inv C i + invAt C i i := rfl
theorem inv_le (C : Nat → ByteArray) : ∀ i, i ≤ 60 → inv C i ≤ 60 * i
  | 0, _ => Nat.le_refl 0
  | i + 1, h => by
    have := inv_le C i (by omega)
    have := invAt_le C i i
    rw [inv_succ]; omega
def inversions (n : Nat) (I : Nat → Int) (C : Nat → ByteArray) : Int := if batch n I C = true then (inv C n : Int) else -1
theorem inversions_no {n : Nat} {I : Nat → Int} {C : Nat → ByteArray} (h : batch n I C = false) : inversions n I C = -1 := if_neg (by rw [h]; decide)
theorem inversions_yes {n : Nat} {I : Nat → Int} {C : Nat → ByteArray} (h : batch n I C = true) : inversions n I C = inv C n := if_pos h
/-- Where a number stands first, or -1. -/
def find (I : Nat → Int) (n : Nat) (x : Int) : Int := match (List.range n).find? (fun i => decide (I i = x)) with
  | some i => (i : Int)
  | none => -1
theorem find_hit {I : Nat → Int} {n : Nat} {x : Int} {k : Nat} (hk : k < n) (h : I k = x) (hno : ∀ j, j < k → I j ≠ x) : find I n x = k := by
  have e : (List.range n).find? (fun i => decide (I i = x)) = some k := by
    rw [List.find?_range_eq_some]
    exact ⟨decide_eq_true h, List.mem_range.2 hk, fun j hj => by rw [decide_eq_false (hno j hj)]; rfl⟩
  unfold find; rw [e]
theorem find_miss {I : Nat → Int} {n : Nat} {x : Int} (hno : ∀ j, j < n → I j ≠ x) : find I n x = -1 := by
  have e : (List.range n).find? (fun i => decide (I i = x)) = none := by
    rw [List.find?_range_eq_none]
    exact fun j hj => by rw [decide_eq_false (hno j hj)]; rfl
  unfold find; rw [e]
theorem find_below {I : Nat → Int} {x : Int} {k : Nat} (hno : ∀ j, j < k → I j ≠ x) (h : I k ≠ x) : ∀ j, j < k + 1 → I j ≠ x := fun j hj => by
  by_cases e : j = k
  · subst e; exact h
  · exact hno j (by omega)
def findLetter (n : Nat) (I : Nat → Int) (C : Nat → ByteArray) (x : Int) : Int := if batch n I C = true then find I n x else -1
theorem findLetter_no {n : Nat} {I : Nat → Int} {C : Nat → ByteArray} {x : Int} (h : batch n I C = false) : findLetter n I C x = -1 := if_neg (by rw [h]; decide)
theorem findLetter_yes {n : Nat} {I : Nat → Int} {C : Nat → ByteArray} {x : Int} (h : batch n I C = true) : findLetter n I C x = find I n x := if_pos h
theorem batch_pos {n : Nat} {I : Nat → Int} {C : Nat → ByteArray} (h : batch n I C = false) : 0 < n := by
  cases n with
  | zero => cases h
  | succ n => omega
end Go.Proofs.Ytekkajgifgnklaa.M

/-
  Letters for held codes, and the others. No program is named here.
-/
namespace Go.Proofs.Ytekkajgifgnklaa.M

/-- The first m strings are codes. -/
def allCodes (S : Nat → ByteArray) (m : Nat) : Bool := (List.range m).all fun i => code (S i)
theorem allCodes_iff (S : Nat → ByteArray) (m : Nat) : allCodes S m = true ↔ ∀ i, i < m → code (S i) = true := by
  unfold allCodes
  rw [List.all_eq_true]
  exact ⟨fun h i hi => h i (List.mem_range.2 hi), fun h i hi => h i (List.mem_range.1 hi)⟩
theorem allCodes_no {S : Nat → ByteArray} {m k : Nat} (hk : k < m) (h : code (S k) = false) : allCodes S m = false := by
  rw [Bool.eq_false_iff]
  intro e
  rw [(allCodes_iff S m).1 e k hk] at h
  cases h
theorem allCodes_succ (S : Nat → ByteArray) (k : Nat) : allCodes S (k + 1) = (allCodes S k && code (S k)) := by
  unfold allCodes
  rw [List.range_succ, List.all_append]
  simp
/-- A batch, and codes to hold. -/
def holdOk (n : Nat) (I : Nat → Int) (C : Nat → ByteArray) (m : Nat) (S : Nat → ByteArray) : Bool := batch n I C && (decide (m ≤ 30) && allCodes S m)
def heldF (S : Nat → ByteArray) (m : Nat) : ByteArray → Bool := fun c => decide (0 ≤ rankTo S c m)
def holdOut (n : Nat) (I : Nat → Int) (C : Nat → ByteArray) (m : Nat) (S : Nat → ByteArray) : List (Int × ByteArray) := if holdOk n I C m S = true then sansF (heldF S m) (lst I C n) else []
def holdKept (n : Nat) (I : Nat → Int) (C : Nat → ByteArray) (m : Nat) (S : Nat → ByteArray) : List (Int × ByteArray) := if holdOk n I C m S = true then withF (heldF S m) (lst I C n) else []
theorem holdOut_le (n : Nat) (I : Nat → Int) (C : Nat → ByteArray) (m : Nat) (S : Nat → ByteArray) : (holdOut n I C m S).length ≤ n := by
  unfold holdOut; split
  · exact sansF_le _ I C n
  · exact Nat.zero_le _
theorem holdKept_le (n : Nat) (I : Nat → Int) (C : Nat → ByteArray) (m : Nat) (S : Nat → ByteArray) : (holdKept n I C m S).length ≤ n := by
  unfold holdKept; split
  · exact withF_le _ I C n
  · exact Nat.zero_le _
theorem heldF_yes {S : Nat → ByteArray} {m : Nat} {c : ByteArray} (h : heldF S m c = true) : 0 ≤ rankTo S c m := of_decide_eq_true h
theorem heldF_no {S : Nat → ByteArray} {m : Nat} {c : ByteArray} (h : heldF S m c = false) : ¬ 0 ≤ rankTo S c m := of_decide_eq_false h
end Go.Proofs.Ytekkajgifgnklaa.M
