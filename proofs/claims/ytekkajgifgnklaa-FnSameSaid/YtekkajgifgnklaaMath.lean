/-
  Plain functions on strings: digits, their sum, their number. No program is named here.
-/
import Derived.PlainAid
namespace Go.Proofs.Ytekkajgifgnklaa.M
open Go.PlainAid (bt)

/-- The first k bytes of s are digits. -/
def digsTo (s : ByteArray) (k : Nat) : Bool := (List.range k).all fun i => decide (48 ≤ bt s i ∧ bt s i ≤ 57)
/-- Digits: at most 20 bytes 0 to 9. -/
def digs (s : ByteArray) : Bool := digsTo s s.size && decide (s.size ≤ 20)
/-- A code: seven digits. -/
def code (s : ByteArray) : Bool := digs s && decide (s.size = 7)

theorem digsTo_iff (s : ByteArray) (k : Nat) : digsTo s k = true ↔ ∀ i, i < k → 48 ≤ bt s i ∧ bt s i ≤ 57 := by
  unfold digsTo
  rw [List.all_eq_true]
  constructor
  · intro h i hi
    exact of_decide_eq_true (h i (List.mem_range.2 hi))
  · intro h i hi
    exact decide_eq_true (h i (List.mem_range.1 hi))

theorem digsTo_zero (s : ByteArray) : digsTo s 0 = true := (digsTo_iff s 0).2 fun _ h => absurd h (by omega)
theorem digsTo_succ {s : ByteArray} {k : Nat} (h : digsTo s k = true) (h1 : 48 ≤ bt s k) (h2 : bt s k ≤ 57) : digsTo s (k + 1) = true :=
  (digsTo_iff s (k + 1)).2 fun i hi => by
    by_cases e : i = k
    · subst e; exact ⟨h1, h2⟩
    · exact (digsTo_iff s k).1 h i (by omega)
theorem digs_no {s : ByteArray} {k : Nat} (hk : k < s.size) (h : bt s k < 48 ∨ 57 < bt s k) : digs s = false := by
  unfold digs
  have : digsTo s s.size = false := by
    rw [Bool.eq_false_iff]
    intro e
    have := (digsTo_iff s s.size).1 e k hk
    omega
  rw [this]; rfl
theorem digs_long {s : ByteArray} (h : 20 < s.size) : digs s = false := by
  unfold digs
  rw [decide_eq_false (show ¬ s.size ≤ 20 by omega), Bool.and_false]
theorem digs_end {s : ByteArray} (h : digsTo s s.size = true) : digs s = decide (s.size ≤ 20) := by
  unfold digs
  rw [h, Bool.true_and]
theorem digs_bt {s : ByteArray} (h : digs s = true) (i : Nat) (hi : i < s.size) : 48 ≤ bt s i ∧ bt s i ≤ 57 := by
  unfold digs at h
  rw [Bool.and_eq_true] at h
  exact (digsTo_iff s s.size).1 h.1 i hi
theorem digs_len {s : ByteArray} (h : digs s = true) : s.size ≤ 20 := by
  unfold digs at h
  rw [Bool.and_eq_true] at h
  exact of_decide_eq_true h.2
theorem code_yes {s : ByteArray} (h : code s = true) : digs s = true ∧ s.size = 7 := by
  unfold code at h
  rw [Bool.and_eq_true] at h
  exact ⟨h.1, of_decide_eq_true h.2⟩

/-- The sum of the first k digits. -/
def sumTo (s : ByteArray) : Nat → Int
  | 0 => 0
  | k + 1 => sumTo s k + bt s k - 48
/-- The number that the first k digits write. -/
def numTo (s : ByteArray) : Nat → Int
  | 0 => 0
  | k + 1 => 10 * numTo s k + bt s k - 48
def sum (s : ByteArray) : Int := sumTo s s.size
def num (s : ByteArray) : Int := numTo s s.size
theorem sumTo_succ (s : ByteArray) (k : Nat) : sumTo s (k + 1) = sumTo s k + bt s k - 48 := rfl
theorem numTo_succ (s : ByteArray) (k : Nat) : numTo s (k + 1) = 10 * numTo s k + bt s k - 48 := rfl
theorem sumTo_bd {s : ByteArray} (h : ∀ i, i < s.size → 48 ≤ bt s i ∧ bt s i ≤ 57) : ∀ k, k ≤ s.size → 0 ≤ sumTo s k ∧ sumTo s k ≤ 9 * k
  | 0, _ => by simp [sumTo]
  | k + 1, hk => by
    have := sumTo_bd h k (by omega)
    have := h k (by omega)
    rw [sumTo_succ]
    omega
/-- Powers of ten. -/
theorem numTo_bd {s : ByteArray} (h : ∀ i, i < s.size → 48 ≤ bt s i ∧ bt s i ≤ 57) : ∀ k, k ≤ s.size → 0 ≤ numTo s k ∧ numTo s k < 10 ^ k
  | 0, _ => by simp [numTo]
  | k + 1, hk => by
    have := numTo_bd h k (by omega)
    have := h k (by omega)
    rw [numTo_succ, Int.pow_succ]
    omega
theorem numTo_lt {s : ByteArray} (h : ∀ i, i < s.size → 48 ≤ bt s i ∧ bt s i ≤ 57) (h7 : s.size ≤ 7) (k : Nat) (hk : k ≤ s.size) : 0 ≤ numTo s k ∧ numTo s k < 10000000 := by
  have h1 := numTo_bd h k hk
  have h2 : (10 : Nat) ^ k ≤ 10 ^ 7 := Nat.pow_le_pow_right (by omega) (by omega)
  have h3 : ((10 : Int) ^ k) ≤ 10 ^ 7 := by exact_mod_cast h2
  have h4 : ((10 : Int) ^ 7) = 10000000 := by decide
  omega
theorem sumTo_lt {s : ByteArray} (h : ∀ i, i < s.size → 48 ≤ bt s i ∧ bt s i ≤ 57) (h7 : s.size ≤ 20) (k : Nat) (hk : k ≤ s.size) : 0 ≤ sumTo s k ∧ sumTo s k ≤ 180 := by
  have h1 := sumTo_bd h k hk
  omega
/-- A valid place. -/
def placeOk (a b c : Int) : Bool := decide (0 ≤ a ∧ a ≤ 999 ∧ 0 ≤ b ∧ b ≤ 99 ∧ 0 ≤ c ∧ c ≤ 99)
theorem place_cases (a b c : Int) : (0 ≤ a ∧ a ≤ 999 ∧ 0 ≤ b ∧ b ≤ 99 ∧ 0 ≤ c ∧ c ≤ 99) ∨ a < 0 ∨ (0 ≤ a ∧ 999 < a) ∨ (0 ≤ a ∧ a ≤ 999 ∧ b < 0) ∨ (0 ≤ a ∧ a ≤ 999 ∧ 0 ≤ b ∧ 99 < b) ∨ (0 ≤ a ∧ a ≤ 999 ∧ 0 ≤ b ∧ b ≤ 99 ∧ c < 0) ∨ (0 ≤ a ∧ a ≤ 999 ∧ 0 ≤ b ∧ b ≤ 99 ∧ 0 ≤ c ∧ 99 < c) := by omega
theorem placeOk_yes {a b c : Int} (h : 0 ≤ a ∧ a ≤ 999 ∧ 0 ≤ b ∧ b ≤ 99 ∧ 0 ≤ c ∧ c ≤ 99) : placeOk a b c = true := decide_eq_true h
theorem placeOk_no {a b c : Int} (h : ¬ (0 ≤ a ∧ a ≤ 999 ∧ 0 ≤ b ∧ b ≤ 99 ∧ 0 ≤ c ∧ c ≤ 99)) : placeOk a b c = false := decide_eq_false h
theorem placeOk_out {a b c : Int} (h : placeOk a b c = true) : 0 ≤ a ∧ a ≤ 999 ∧ 0 ≤ b ∧ b ≤ 99 ∧ 0 ≤ c ∧ c ≤ 99 := of_decide_eq_true h
/-- The check digit. -/
def checkDigit (s : ByteArray) : Int := if digs s = true then (10 - sum s % 10) % 10 else -1
def checkValid (s : ByteArray) : Bool := digs s && (decide (0 < s.size) && decide (sum s % 10 = 0))
theorem checkDigit_yes {s : ByteArray} (h : digs s = true) : checkDigit s = (10 - sum s % 10) % 10 := by
  unfold checkDigit
  rw [if_pos h]
theorem checkDigit_no {s : ByteArray} (h : digs s = false) : checkDigit s = -1 := by
  unfold checkDigit
  rw [if_neg (by rw [h]; decide)]
theorem sum_bd {s : ByteArray} (h : digs s = true) : 0 ≤ sum s ∧ sum s ≤ 180 := sumTo_lt (digs_bt h) (digs_len h) s.size (Nat.le_refl _)
theorem checkValid_no {s : ByteArray} (h : digs s = false) : checkValid s = false := by
  unfold checkValid
  rw [h]; rfl
theorem checkValid_yes {s : ByteArray} (h : digs s = true) (h0 : 0 < s.size) : checkValid s = decide (sum s % 10 = 0) := by
  unfold checkValid
  rw [h, decide_eq_true h0]; rfl
theorem checkValid_empty {s : ByteArray} (h0 : s.size = 0) : checkValid s = false := by
  unfold checkValid
  rw [decide_eq_false (show ¬ 0 < s.size by omega), Bool.false_and, Bool.and_false]
/-- The bars of the digits, as bytes. -/
def barTable : List (List UInt8) := [[124, 124, 46, 46, 46], [46, 46, 46, 124, 124], [46, 46, 124, 46, 124], [46, 46, 124, 124, 46], [46, 124, 46, 46, 124], [46, 124, 46, 124, 46], [46, 124, 124, 46, 46], [124, 46, 46, 46, 124], [124, 46, 46, 124, 46], [124, 46, 124, 46, 46]]
/-- The bars of a digit. -/
def bar (d : Int) : ByteArray := ⟨(barTable.getD d.toNat []).toArray⟩
/-- The digit with some bars, or -1. -/
def barDigit (b : ByteArray) : Int := if barTable.idxOf b.data.toList < 10 then (barTable.idxOf b.data.toList : Int) else -1
theorem barDigit_no {b : ByteArray} (h : b.data.toList ∉ barTable) : barDigit b = -1 := by
  unfold barDigit
  rw [List.idxOf_eq_length h]
  rfl
theorem bar_cases (b : ByteArray) : (∃ d : Nat, d < 10 ∧ b = bar d) ∨ b.data.toList ∉ barTable := by
  by_cases h : b.data.toList ∈ barTable
  · refine Or.inl ⟨barTable.idxOf b.data.toList, ?_, ?_⟩
    · exact List.idxOf_lt_length_of_mem h
    · have h1 := List.idxOf_lt_length_of_mem h
      have h2 : barTable[barTable.idxOf b.data.toList]? = some b.data.toList := by
        rw [List.getElem?_eq_getElem h1, List.getElem_idxOf h1]
      unfold bar
      rw [Int.toNat_natCast, List.getD, h2]
      rfl
  · exact Or.inr h
theorem digit_cases {d : Int} (h0 : 0 ≤ d) (h9 : d ≤ 9) : d = 0 ∨ d = 1 ∨ d = 2 ∨ d = 3 ∨ d = 4 ∨ d = 5 ∨ d = 6 ∨ d = 7 ∨ d = 8 ∨ d = 9 := by omega
theorem bar_digit {d : Int} (h0 : 0 ≤ d) (h9 : d ≤ 9) : barDigit (bar d) = d := by
  rcases digit_cases h0 h9 with rfl | rfl | rfl | rfl | rfl | rfl | rfl | rfl | rfl | rfl <;> decide
theorem bar_size {d : Int} (h0 : 0 ≤ d) (h9 : d ≤ 9) : (bar d).size = 5 := by
  rcases digit_cases h0 h9 with rfl | rfl | rfl | rfl | rfl | rfl | rfl | rfl | rfl | rfl <;> decide
/-- The bars of the first k digits behind a long bar. -/
def barsTo (s : ByteArray) : Nat → ByteArray
  | 0 => ⟨#[124]⟩
  | k + 1 => barsTo s k ++ bar (bt s k - 48)
/-- The bars of a code. -/
def barsOf (s : ByteArray) : ByteArray := barsTo s 7 ++ bar (checkDigit s) ++ ⟨#[124]⟩
theorem barsTo_succ (s : ByteArray) (k : Nat) : barsTo s (k + 1) = barsTo s k ++ bar (bt s k - 48) := rfl
theorem size_le {a : ByteArray} {n : Nat} (h : a.size = n) : a.size ≤ n := by omega
theorem barsTo_size {s : ByteArray} (h : ∀ i, i < s.size → 48 ≤ bt s i ∧ bt s i ≤ 57) : ∀ k, k ≤ s.size → (barsTo s k).size = 1 + 5 * k
  | 0, _ => rfl
  | k + 1, hk => by
    have h1 := barsTo_size h k (by omega)
    have h2 := h k (by omega)
    rw [barsTo_succ, ByteArray.size_append, h1, bar_size (by omega) (by omega)]
    omega
theorem checkDigit_bd {s : ByteArray} (h : digs s = true) : 0 ≤ checkDigit s ∧ checkDigit s ≤ 9 := by
  rw [checkDigit_yes h]
  omega
/-- A string with another byte in a place. -/
def put (s : ByteArray) (k : Nat) (n : Int) : ByteArray := ⟨(s.data.toList.set k (UInt8.ofNat n.toNat)).toArray⟩
theorem put_size (s : ByteArray) (k : Nat) (n : Int) : (put s k n).size = s.size := by
  show (s.data.toList.set k (UInt8.ofNat n.toNat)).toArray.size = s.data.size
  simp
/-- How many of the first k bytes are a given one. -/
def cnt (c : Int) (s : ByteArray) : Nat → Int
  | 0 => 0
  | k + 1 => if bt s k = c then cnt c s k + 1 else cnt c s k
theorem cnt_yes {c : Int} {s : ByteArray} {k : Nat} (h : bt s k = c) : cnt c s (k + 1) = cnt c s k + 1 := by
  show (if bt s k = c then cnt c s k + 1 else cnt c s k) = _
  rw [if_pos h]
theorem cnt_no {c : Int} {s : ByteArray} {k : Nat} (h : ¬ bt s k = c) : cnt c s (k + 1) = cnt c s k := by
  show (if bt s k = c then cnt c s k + 1 else cnt c s k) = _
  rw [if_neg h]
theorem cnt_bd (c : Int) (s : ByteArray) : ∀ k : Nat, 0 ≤ cnt c s k ∧ cnt c s k ≤ k
  | 0 => by simp [cnt]
  | k + 1 => by
    have := cnt_bd c s k
    by_cases h : bt s k = c
    · rw [cnt_yes h]; omega
    · rw [cnt_no h]; omega
/-- Each digit has two long bars, and none of its bars can be changed. -/
theorem bar_facts {d : Int} (h0 : 0 ≤ d) (h9 : d ≤ 9) : cnt 124 (bar d) 5 = 2 ∧ ∀ k, k < 5 → barDigit (put (bar d) k (if bt (bar d) k = 124 then 46 else 124)) = -1 := by
  rcases digit_cases h0 h9 with rfl | rfl | rfl | rfl | rfl | rfl | rfl | rfl | rfl | rfl
  all_goals
    refine ⟨by decide, ?_⟩
    intro k hk
    have hk' : k = 0 ∨ k = 1 ∨ k = 2 ∨ k = 3 ∨ k = 4 := by omega
    rcases hk' with rfl | rfl | rfl | rfl | rfl <;> decide
end Go.Proofs.Ytekkajgifgnklaa.M
