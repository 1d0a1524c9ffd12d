/-
  Drawn codes: what the functions that draw a code return. For every input.
-/
import Derived.Test.YtekkajgifgnklaaDraw
import Derived.Laws.IdiomStrings
namespace Go.Proofs.Ytekkajgifgnklaa
open Go.RowKit

/-- A string whose size lies between two numbers, and new memory alone. -/
def StrOf (lo hi : Nat) (w : World) (e : Ending) (w' : World) : Prop := ∃ s : ByteArray, e = .returned (.string s) ∧ lo ≤ s.size ∧ s.size ≤ hi ∧ Below w.heap.size w w'
/-- The same, behind which a reader goes on. -/
def StrSt (W : World) (lo hi r N : Nat) (e : Ending) (w' : World) : Prop := ∃ s : ByteArray, e = .returned (.string s) ∧ lo ≤ s.size ∧ s.size ≤ hi ∧ St W w' r N

theorem one_byte (w : World) (x : Int) (x0 : 0 ≤ x) (x1 : x ≤ 255) (T : TypeId) : (convert 22 9 (.slice (some ⟨w.heap.size, 0, none⟩) 1 1)).run Try.prog (w.alloc (.cells #[.int .u8 x] T)) = .ok (.string ⟨#[UInt8.ofNat x.toNat]⟩) (w.alloc (.cells #[.int .u8 x] T)) := by
  have hb : (UInt8.ofNat x.toNat).toNat = x.toNat := by
    rw [UInt8.toNat_ofNat']
    omega
  exact run_convert_bytes_back (P := Try.prog) (w.alloc (.cells #[.int .u8 x] T)) 22 9 5 ⟨w.heap.size, 0, none⟩ 1 [UInt8.ofNat x.toNat] Try.underlying22 Try.underlying5 Try.underlying9 (by
    intro j hj
    have hj0 : j = 0 := by simp at hj; omega
    subst hj0
    show (w.alloc (.cells #[.int .u8 x] T)).cell? ⟨w.heap.size, 0, none⟩ = _
    have hx : ((x.toNat : Nat) : Int) = x := by omega
    simp [hb, hx])

set_option maxHeartbeats 1000000 in
theorem l9Dec_digit (n : Int) (w : World) (n0 : 0 ≤ n) (n1 : n ≤ 9) :
    Calls Try.prog 71 #[.int .i64 n] w (StrOf 1 1 w) := by
  have ha := one_byte w (48 + n) (by omega) (by omega)
  go_enter Try.func71, Try.ntmps71
  have hx : ¬ (9 < n) := by omega
  go_wp2
  go_rounds 1
  go_ret
  exact ⟨_, rfl, by rw [ByteArray.size_append]; exact Nat.le_refl 1, by rw [ByteArray.size_append]; exact Nat.le_refl 1, (Below.refl _ _).alloc (Nat.le_refl _) _⟩

set_option maxHeartbeats 1000000 in
theorem l1Show_any (n : Int) (sz : Nat) (w : World) (n0 : 0 ≤ n) (n1 : n ≤ 1000000000) (hs : sz ≤ 20) :
    Calls Try.prog 56 #[.int .i64 n, .int .i64 sz] w (StrOf sz sz w) := by
  go_enter Try.func56, Try.ntmps56
  go_wp2
  go_loopw [0, 5, 6] (fun m o i wr => ∃ (k : Nat) (v : Int) (s : ByteArray), k ≤ sz ∧ i = .int .i64 k ∧ m = .int .i64 v ∧ 0 ≤ v ∧ v ≤ 1000000000 ∧ o = .string s ∧ k ≤ s.size ∧ s.size ≤ k ∧ Below w.heap.size w wr) (fun _ _ i _ => sz - (intOf i).toNat)
  case atStart => exact ⟨0, n, ⟨#[]⟩, by omega, rfl, rfl, n0, n1, rfl, by decide, by decide, Below.refl _ _⟩
  case round =>
    obtain ⟨k, v, s, hk, rfl, rfl, v0, v1, rfl, s0, s1, hb⟩ := hrel
    have hz := hb.size
    by_cases hlt : k < sz
    · have q0 : 0 ≤ v % 10 := by omega
      have q1 : v % 10 ≤ 9 := by omega
      go_wp2_with (go_at_call 71; refine (l9Dec_digit _ _ (by omega) (by omega)).mono ?_; rintro e w1 ⟨t, rfl, t0, t1, hb1⟩)
      go_roundw
      case rel => exact ⟨k + 1, v / 10, t ++ s, by omega, by go_num, by go_num, by omega, by omega, rfl, by rw [ByteArray.size_append]; omega, by rw [ByteArray.size_append]; omega, hb.trans (hb1.mono hz)⟩
      case measure => simp [intOf]; omega
    · obtain rfl : k = sz := by omega
      go_wp2
      go_ret
      exact ⟨s, rfl, s0, s1, hb⟩

set_option maxHeartbeats 2000000 in
theorem l1Some_any (W w : World) (r N : Nat) (h : St W w r N) (hN : N ≤ 90000) :
    Calls Try.prog 59 #[.pointer (some ⟨r, 0, none⟩)] w (StrSt W 7 7 r (N + 10)) := by
  go_enter Try.func59, Try.ntmps59
  go_wp2_with fail
  have hr := h.1.lt
  refine (num_st W [120, 121, 7, 999] w.heap.size _ r _ (h.alloc _) (by omega) (by decide) (by decide) (by omega) (cells_int [120, 121, 7, 999] _ w)).mono ?_
  rintro e w1 ⟨v1, rfl, hm1, st1⟩
  have hv1 := (show ∀ x ∈ [(120 : Int), 121, 7, 999], 0 ≤ x ∧ x ≤ 999 from by decide) v1 hm1
  clear hm1 h
  go_wp2_with fail
  have hr1 := st1.1.lt
  refine (num_st W [1, 2, 10, 99] w1.heap.size _ r _ (st1.alloc _) (by omega) (by decide) (by decide) (by omega) (cells_int [1, 2, 10, 99] _ w1)).mono ?_
  rintro e w2 ⟨v2, rfl, hm2, st2⟩
  have hv2 := (show ∀ x ∈ [(1 : Int), 2, 10, 99], 0 ≤ x ∧ x ≤ 999 from by decide) v2 hm2
  clear hm2 st1
  obtain ⟨a1, a2⟩ := hv1
  obtain ⟨b1, b2⟩ := hv2
  go_wp2_with fail
  refine (l1Show_any _ 3 _ a1 (by omega) (by omega)).mono ?_
  rintro e w3 ⟨s3, rfl, s30, s31, hb3⟩
  have st3 := st2.below hb3
  clear st2 hb3
  go_wp2_with fail
  refine (l1Show_any _ 2 _ b1 (by omega) (by omega)).mono ?_
  rintro e w4 ⟨s4, rfl, s40, s41, hb4⟩
  have st4 := st3.below hb4
  clear st3 hb4
  go_wp2_with fail
  refine (pick_st W _ _ r _ st4 (by omega) (by omega) (by omega)).mono ?_
  rintro e w5 ⟨v5, rfl, c1, c2, st5⟩
  clear st4
  go_wp2_with fail
  refine (l1Show_any _ 2 _ c1 (by omega) (by omega)).mono ?_
  rintro e w6 ⟨s6, rfl, s60, s61, hb6⟩
  have st6 := st5.below hb6
  clear st5 hb6
  go_wp2_with fail
  refine (pick_st W _ _ r _ st6 (by omega) (by omega) (by omega)).mono ?_
  rintro e w7 ⟨v7, rfl, d1, d2, st7⟩
  clear st6
  cases hv : (v7 == 0)
  · go_wp2
    go_ret
    exact ⟨_, rfl, by simp only [ByteArray.size_append]; omega, by simp only [ByteArray.size_append]; omega, st7.mono (by omega) (by omega)⟩
  · go_wp2_with fail
    refine (pick_st W _ _ r _ st7 (by omega) (by omega) (by omega)).mono ?_
    rintro e w8 ⟨x1, rfl, x10, x11, st8⟩
    clear st7
    go_wp2_with fail
    refine (pick_st W _ _ r _ st8 (by omega) (by omega) (by omega)).mono ?_
    rintro e w9 ⟨x2, rfl, x20, x21, st9⟩
    clear st8
    have p0 : 0 ≤ x1 * x2 := Int.mul_nonneg x10 x20
    have p1 : x1 * x2 ≤ 255 * 255 := Int.mul_le_mul (by omega) (by omega) x20 (by omega)
    go_wp2_with fail
    refine (pick_st W _ _ r _ st9 (by omega) (by omega) (by omega)).mono ?_
    rintro e w10 ⟨x3, rfl, x30, x31, st10⟩
    clear st9
    generalize x1 * x2 = P at p0 p1 ⊢
    have p2 : 0 ≤ P * x3 := Int.mul_nonneg p0 x30
    have p3 : P * x3 ≤ 255 * 255 * 149 := Int.mul_le_mul p1 (by omega) x30 (by omega)
    go_wp2_with fail
    refine (pick_st W _ _ r _ st10 (by omega) (by omega) (by omega)).mono ?_
    rintro e w11 ⟨x4, rfl, x40, x41, st11⟩
    clear st10
    generalize P * x3 = Q at p2 p3 ⊢
    go_wp2_with fail
    refine (l1Show_any _ 7 _ (by omega) (by omega) (by omega)).mono ?_
    rintro e w12 ⟨s12, rfl, z0, z1, hb12⟩
    have st12 := st11.below hb12
    clear st11 hb12
    go_wp2
    go_ret
    exact ⟨_, rfl, z0, z1, st12.mono (by omega) (by omega)⟩

set_option maxHeartbeats 1000000 in
theorem l9Dec_any (n : Int) (w : World) (n0 : -1 ≤ n) (n1 : n ≤ 9) :
    Calls Try.prog 71 #[.int .i64 n] w (StrOf 1 2 w) := by
  by_cases h : n = -1
  · subst h
    go_enter Try.func71, Try.ntmps71
    go_wp2_with fail
    refine (l9Dec_digit _ _ (by decide) (by decide)).mono ?_
    rintro e w1 ⟨s, rfl, s0, s1, hb⟩
    go_wp2
    go_ret
    refine ⟨_, rfl, ?_, ?_, hb⟩
    · rw [ByteArray.size_append]; omega
    · rw [ByteArray.size_append, show (⟨#[45]⟩ : ByteArray).size = 1 from rfl]; omega
  · exact (l9Dec_digit n w (by omega) n1).mono fun e w' hp => by
      obtain ⟨s, he, s0, s1, hb⟩ := hp
      exact ⟨s, he, s0, by omega, hb⟩

set_option maxHeartbeats 1000000 in
theorem l1Bad_any (W w : World) (r N : Nat) (c : ByteArray) (h : St W w r N) (hN : N ≤ 90000) (c0 : 1 ≤ c.size) (c1 : c.size ≤ 20) :
    Calls Try.prog 41 #[.pointer (some ⟨r, 0, none⟩), .string c] w (StrSt W 0 21 r (N + 10)) := by
  go_enter Try.func41, Try.ntmps41
  go_wp2_with fail
  refine (pick_st W _ _ r _ h (by omega) (by omega) (by omega)).mono ?_
  rintro e w1 ⟨v, rfl, v0, v1, st1⟩
  clear h
  have d1 : c.size - 1 ≤ c.size := by omega
  cases h0 : (v == 0)
  · cases h1 : (v == 1)
    · cases h2 : (v == 2)
      · go_wp2
        go_ret
        exact ⟨_, rfl, by omega, by omega, st1.mono (by omega) (by omega)⟩
      · go_wp2
        go_ret
        exact ⟨_, rfl, by omega, by decide, st1.mono (by omega) (by omega)⟩
    · go_wp2
      go_ret
      refine ⟨_, rfl, by omega, ?_, st1.mono (by omega) (by omega)⟩
      rw [ByteArray.size_append, ByteArray.size_extract, show (⟨#[120]⟩ : ByteArray).size = 1 from rfl]
      omega
  · go_wp2
    go_ret
    refine ⟨_, rfl, by omega, ?_, st1.mono (by omega) (by omega)⟩
    rw [ByteArray.size_append, show (⟨#[48]⟩ : ByteArray).size = 1 from rfl]
    omega
end Go.Proofs.Ytekkajgifgnklaa
