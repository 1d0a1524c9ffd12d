/-
  The sum of digits of which one is changed, two are exchanged, one more is laid behind, or which are read from the other side.
-/
import Derived.Test.YtagbnfccagdlkaaDoorMath
import Derived.Test.YtagbnfccagdlkaaDoorTurn
import Derived.Test.YtagbnfccagdlkaaDoorPut
import Derived.Lib.Hide
import Derived.Deep.Draws
namespace Go.Proofs.YtagbnfccagdlkaaDoor
open Go.PlainAid (bt get_bt)

theorem ofNat_byte {n : Int} (n0 : 0 ≤ n) (n1 : n ≤ 255) : ((UInt8.ofNat n.toNat).toNat : Int) = n := by
  rw [UInt8.toNat_ofNat']
  omega
theorem bt_put (s : ByteArray) (i : Nat) (n : Int) (n0 : 0 ≤ n) (n1 : n ≤ 255) (j : Nat) (hj : j < s.size) : bt (M.put s i n) j = if j = i then n else bt s j := by
  rw [bt_list _ j (by rw [M.put_size]; exact hj)]
  have hl : j < s.data.toList.length := by simp; exact hj
  have e : (M.put s i n).data.toList = s.data.toList.set i (UInt8.ofNat n.toNat) := by simp [M.put]
  rw [e, List.getD_eq_getElem?_getD, List.getElem?_set]
  by_cases h : i = j
  · subst h
    rw [if_pos rfl, if_pos hl, if_pos rfl, Option.getD_some]
    exact ofNat_byte n0 n1
  · rw [if_neg h, if_neg (Ne.symm h), bt_list s j hj, List.getD_eq_getElem?_getD]
theorem bt_turn (s : ByteArray) (j : Nat) (hj : j < s.size) : bt (turn s) j = bt s (s.size - 1 - j) := by
  rw [bt_list _ j (by rw [turn_size]; exact hj), bt_list s _ (by omega)]
  have hl : j < s.data.toList.length := by simp; exact hj
  have e : (turn s).data.toList = s.data.toList.reverse := by simp [turn]
  have hl2 : s.data.toList.length = s.size := by simp
  rw [e, List.getD_eq_getElem?_getD, List.getD_eq_getElem?_getD, List.getElem?_reverse hl, hl2]
theorem bt_append_left (s t : ByteArray) (j : Nat) (hj : j < s.size) : bt (s ++ t) j = bt s j := by
  rw [bt_list _ j (by rw [ByteArray.size_append]; omega), bt_list s j hj]
  have hl : j < s.data.toList.length := by simp; exact hj
  rw [ByteArray.data_append, Array.toList_append, List.getD_eq_getElem?_getD, List.getD_eq_getElem?_getD, List.getElem?_append_left hl]
theorem bt_append_byte (s : ByteArray) (c : UInt8) : bt (s ++ ⟨#[c]⟩) s.size = (c.toNat : Int) := by
  rw [bt_list _ _ (by rw [ByteArray.size_append]; show s.size < s.size + 1; omega)]
  have hl : s.data.toList.length = s.size := by simp
  rw [ByteArray.data_append, Array.toList_append, List.getD_eq_getElem?_getD, List.getElem?_append_right (by omega), hl]
  simp

theorem sumTo_congr {s t : ByteArray} : ∀ k : Nat, (∀ i, i < k → bt s i = bt t i) → M.sumTo s k = M.sumTo t k
  | 0, _ => rfl
  | k + 1, h => by
    rw [M.sumTo_succ, M.sumTo_succ, sumTo_congr k (fun i hi => h i (by omega)), h k (by omega)]
theorem sumTo_put (s : ByteArray) (i : Nat) (n : Int) (n0 : 0 ≤ n) (n1 : n ≤ 255) : ∀ k : Nat, k ≤ s.size → M.sumTo (M.put s i n) k = M.sumTo s k + (if i < k then n - bt s i else 0)
  | 0, _ => by simp [M.sumTo]
  | k + 1, hk => by
    rw [M.sumTo_succ, M.sumTo_succ, sumTo_put s i n n0 n1 k (by omega), bt_put s i n n0 n1 k (by omega)]
    by_cases h : k = i
    · subst h
      rw [if_neg (by omega), if_pos rfl, if_pos (by omega)]
      omega
    · rw [if_neg h]
      by_cases h2 : i < k
      · rw [if_pos h2, if_pos (by omega)]; omega
      · rw [if_neg h2, if_neg (by omega)]; omega
theorem sum_put {s : ByteArray} {i : Nat} {n : Int} (hi : i < s.size) (n0 : 0 ≤ n) (n1 : n ≤ 255) : M.sum (M.put s i n) = M.sum s + n - bt s i := by
  unfold M.sum
  rw [M.put_size, sumTo_put s i n n0 n1 s.size (Nat.le_refl _), if_pos hi]
  omega
theorem digs_mk {s : ByteArray} (h : ∀ i, i < s.size → 48 ≤ bt s i ∧ bt s i ≤ 57) (hs : s.size ≤ 20) : M.digs s = true := by
  unfold M.digs
  rw [(M.digsTo_iff s s.size).2 h, decide_eq_true hs]
  rfl
theorem digs_put {s : ByteArray} {i : Nat} {n : Int} (h : M.digs s = true) (n0 : 48 ≤ n) (n1 : n ≤ 57) : M.digs (M.put s i n) = true := by
  refine digs_mk (fun j hj => ?_) (by rw [M.put_size]; exact M.digs_len h)
  rw [M.put_size] at hj
  rw [bt_put s i n (by omega) (by omega) j hj]
  by_cases e : j = i
  · rw [if_pos e]; omega
  · rw [if_neg e]; exact M.digs_bt h j hj

/-- A changed digit is noticed. -/
theorem put_noticed {s : ByteArray} {i : Nat} (m : Int) (h : M.digs s = true) (hv : M.checkValid s = true) (hi : i < s.size) (m0 : 0 ≤ m) (m1 : m ≤ 8) : M.checkValid (M.put s i (48 + (bt s i - 48 + 1 + m) % 10)) = false := by
  have hb := M.digs_bt h i hi
  have hd := digs_put (i := i) (n := 48 + (bt s i - 48 + 1 + m) % 10) h (by omega) (by omega)
  rw [M.checkValid_yes h (by omega)] at hv
  have hs := of_decide_eq_true hv
  rw [M.checkValid_yes hd (by rw [M.put_size]; omega), sum_put hi (by omega) (by omega)]
  exact decide_eq_false (by omega)
/-- Exchanged digits are not. -/
theorem swap_same {s : ByteArray} {i : Nat} (h : M.digs s = true) (hi : i + 1 < s.size) : M.checkValid (M.put (M.put s (i + 1) (bt s i)) i (bt s (i + 1))) = M.checkValid s := by
  have hb := M.digs_bt h i (by omega)
  have hc := M.digs_bt h (i + 1) hi
  have hd := digs_put (i := i + 1) (n := bt s i) h (by omega) (by omega)
  have hd2 := digs_put (i := i) (n := bt s (i + 1)) hd (by omega) (by omega)
  have hz : (M.put s (i + 1) (bt s i)).size = s.size := M.put_size _ _ _
  rw [M.checkValid_yes hd2 (by rw [M.put_size, hz]; omega), M.checkValid_yes h (by omega), sum_put (by omega) (by omega) (by omega), sum_put hi (by omega) (by omega), bt_put s (i + 1) (bt s i) (by omega) (by omega) i (by omega), if_neg (by omega)]
  congr 2
  omega

theorem sumTo_turn (s : ByteArray) : ∀ k : Nat, k ≤ s.size → M.sumTo (turn s) k = M.sumTo s s.size - M.sumTo s (s.size - k)
  | 0, _ => by simp [M.sumTo]
  | k + 1, hk => by
    rw [M.sumTo_succ, sumTo_turn s k (by omega), bt_turn s k (by omega)]
    have e : s.size - k = (s.size - (k + 1)) + 1 := by omega
    have e2 : s.size - 1 - k = s.size - (k + 1) := by omega
    rw [e, M.sumTo_succ, e2]
    omega
/-- Digits from the other side have the same check digit. -/
theorem turn_check {s : ByteArray} (h : M.digs s = true) : M.checkDigit (turn s) = M.checkDigit s := by
  have hd : M.digs (turn s) = true := by
    refine digs_mk (fun j hj => ?_) (by rw [turn_size]; exact M.digs_len h)
    rw [turn_size] at hj
    rw [bt_turn s j hj]
    exact M.digs_bt h _ (by omega)
  rw [M.checkDigit_yes hd, M.checkDigit_yes h]
  unfold M.sum
  rw [turn_size, sumTo_turn s s.size (Nat.le_refl _), Nat.sub_self]
  simp [M.sumTo]
/-- The check digit completes digits, and no other digit does. -/
theorem append_check {s : ByteArray} (h : M.digs s = true) (hs : s.size ≤ 19) (x : Int) (x0 : 0 ≤ x) (x1 : x ≤ 9) : M.checkValid (s ++ ⟨#[UInt8.ofNat (48 + x).toNat]⟩) = (x == M.checkDigit s) := by
  have hb : bt (s ++ ⟨#[UInt8.ofNat (48 + x).toNat]⟩) s.size = 48 + x := by
    rw [bt_append_byte]
    exact ofNat_byte (by omega) (by omega)
  have hz : (s ++ ⟨#[UInt8.ofNat (48 + x).toNat]⟩ : ByteArray).size = s.size + 1 := by rw [ByteArray.size_append]; rfl
  have hl : ∀ j, j < s.size → bt (s ++ ⟨#[UInt8.ofNat (48 + x).toNat]⟩) j = bt s j := fun j hj => bt_append_left s _ j hj
  generalize s ++ ⟨#[UInt8.ofNat (48 + x).toNat]⟩ = S at hb hz hl
  have hd : M.digs S = true := by
    refine digs_mk (fun j hj => ?_) (by omega)
    by_cases e : j = s.size
    · subst e; rw [hb]; omega
    · rw [hl j (by omega)]; exact M.digs_bt h j (by omega)
  have hsum : M.sum S = M.sum s + x := by
    unfold M.sum
    rw [hz, M.sumTo_succ, sumTo_congr s.size hl, hb]
    omega
  obtain ⟨n0, n1⟩ := M.sum_bd h
  rw [M.checkValid_yes hd (by omega), hsum, M.checkDigit_yes h]
  by_cases e : (M.sum s + x) % 10 = 0
  · rw [decide_eq_true e]
    have : x = (10 - M.sum s % 10) % 10 := by omega
    rw [← this]
    simp
  · rw [decide_eq_false e]
    symm
    rw [beq_eq_false_iff_ne]
    omega

theorem drawn_below {B : Nat} {a w : World} (h : RowKit.Below B a w) (n : Nat) : RowKit.Below B a (w.drewN n) := h.trans ⟨rfl, rfl, rfl, Nat.le_refl _, fun _ _ => rfl⟩
theorem soPut_int (s : ByteArray) (i n : Int) (w : World) (i0 : 0 ≤ i) (ik : i < s.size) (n0 : 0 ≤ n) (n1 : n ≤ 255) :
    Calls Tryd.prog 8 #[.string s, .int .i64 i, .int .u8 n] w fun e w' => e = .returned (.string (M.put s i.toNat n)) ∧ RowKit.Below w.heap.size w w' := by
  obtain ⟨k, rfl⟩ := Int.eq_ofNat_of_zero_le i0
  exact soPut_any s k n w (by omega) n0 n1
end Go.Proofs.YtagbnfccagdlkaaDoor
