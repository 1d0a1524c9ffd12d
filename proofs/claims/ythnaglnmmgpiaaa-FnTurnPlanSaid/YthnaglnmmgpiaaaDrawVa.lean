/-
  Drawn codes and letters once more: they are valid.
-/
import Derived.Test.YthnaglnmmgpiaaaDrawG
namespace Go.Proofs.Ythnaglnmmgpiaaa
open Go.RowKit
open Go.PlainAid (bt get_bt bt_nonneg bt_le)
set_option linter.unusedVariables false

/-- Digits alone. -/
def DigS (s : ByteArray) : Prop := ∀ i, i < s.size → 48 ≤ bt s i ∧ bt s i ≤ 57
theorem bt_low (s t : ByteArray) (j : Nat) (hj : j < s.size) : bt (s ++ t) j = bt s j := by
  have h1 := get_bt (s ++ t) j (by rw [ByteArray.size_append]; omega)
  have h2 := get_bt s j hj
  rw [← h1, ← h2, ByteArray.getElem_append_left hj]
theorem bt_high (s t : ByteArray) (j : Nat) (hj : s.size ≤ j) (h : j < s.size + t.size) : bt (s ++ t) j = bt t (j - s.size) := by
  have h1 := get_bt (s ++ t) j (by rw [ByteArray.size_append]; omega)
  have h2 := get_bt t (j - s.size) (by omega)
  rw [← h1, ← h2, ByteArray.getElem_append_right hj]
theorem DigS.app {s t : ByteArray} (hs : DigS s) (ht : DigS t) : DigS (s ++ t) := fun i hi => by
  rw [ByteArray.size_append] at hi
  by_cases h : i < s.size
  · rw [bt_low s t i h]; exact hs i h
  · rw [bt_high s t i (by omega) (by omega)]; exact ht _ (by omega)
theorem digS_nil : DigS ⟨#[]⟩ := fun i hi => absurd hi (by show ¬ i < 0; omega)
theorem digS_one (x : Int) (h0 : 48 ≤ x) (h1 : x ≤ 57) : DigS ⟨#[UInt8.ofNat x.toNat]⟩ := fun i hi => by
  have hi1 : i < 1 := hi
  obtain rfl : i = 0 := by omega
  have h := get_bt (⟨#[UInt8.ofNat x.toNat]⟩ : ByteArray) 0 hi
  rw [← h]
  show 48 ≤ (((UInt8.ofNat x.toNat).toNat : Nat) : Int) ∧ (((UInt8.ofNat x.toNat).toNat : Nat) : Int) ≤ 57
  rw [UInt8.toNat_ofNat']
  omega
theorem DigS.code {s : ByteArray} (h : DigS s) (h7 : s.size = 7) : M.code s = true := by
  unfold M.code M.digs
  rw [Bool.and_eq_true, Bool.and_eq_true]
  exact ⟨⟨(M.digsTo_iff s s.size).2 h, decide_eq_true (by omega)⟩, decide_eq_true h7⟩
def DigOf (n : Nat) (w : World) (e : Ending) (w' : World) : Prop := ∃ s : ByteArray, e = .returned (.string s) ∧ n ≤ s.size ∧ s.size ≤ n ∧ DigS s ∧ Below w.heap.size w w'
def CodeSg (W : World) (r N : Nat) (e : Ending) (w' : World) : Prop := ∃ s : ByteArray, e = .returned (.string s) ∧ DigS s ∧ s.size = 7 ∧ Sg W w' r N
/-- Letters with codes, their numbers x, x + 7 and so on. -/
def OkL (x : Int) (L : List (Int × ByteArray)) : Prop := ∀ i (h : i < L.length), L[i].1 = x + (i : Int) * 7 ∧ M.code L[i].2 = true
theorem okL_nil (x : Int) : OkL x [] := fun i h => absurd h (by simp)
theorem okL_more {x : Int} {L : List (Int × ByteArray)} (h : OkL x L) {s : ByteArray} (hs : DigS s) (h7 : s.size = 7) (hx : 0 ≤ x) : OkL x (L ++ [(x + (L.length : Int) * 7, s)]) := fun i hi => by
  by_cases e : i < L.length
  · simp only [List.getElem_append_left e]; exact h i e
  · obtain rfl : i = L.length := by rw [List.length_append] at hi; simp at hi; omega
    simp only [List.getElem_append_right (Nat.le_refl _), Nat.sub_self, List.getElem_cons_zero]
    exact ⟨by first | trivial | rfl, hs.code h7⟩
theorem OkL.small {x : Int} {L : List (Int × ByteArray)} (h : OkL x L) (x0 : 1 ≤ x) (x1 : x ≤ 10) (hl : L.length ≤ 14) : Small 7 L := fun p hp => by
  obtain ⟨i, hi, rfl⟩ := List.mem_iff_getElem.1 hp
  obtain ⟨h1, h2⟩ := h i hi
  have := (M.code_yes h2).2
  exact ⟨by rw [h1]; omega, by omega⟩
theorem OkL.batch {x : Int} {L : List (Int × ByteArray)} (h : OkL x L) (x0 : 1 ≤ x) (x1 : x ≤ 10) (hl : L.length ≤ 14) : M.batch L.length (nI L) (nC L) = true := by
  have hg : M.goodTo (nI L) (nC L) L.length = true := (M.goodTo_iff _ _ _).2 fun i hi => by
    obtain ⟨h1, h2⟩ := h i hi
    rw [nI_at hi, nC_at hi]
    refine ⟨h2, by rw [h1]; omega, fun k hk => ?_⟩
    rw [nI_at (by omega), h1, (h k (by omega)).1]
    omega
  rw [M.batch_end hg]
  exact decide_eq_true (by omega)
def RowOk (W : World) (base : Nat) (x : Int) (m r N : Nat) (e : Ending) (w' : World) : Prop := ∃ (v : Value) (L : List (Int × ByteArray)), e = .returned v ∧ Row w' base v L ∧ L.length ≤ m ∧ OkL x L ∧ Sg W w' r N
set_option maxHeartbeats 1000000 in
theorem l9Dec_dig (n : Int) (w : World) (n0 : 0 ≤ n) (n1 : n ≤ 9) :
    Calls Try.prog 65 #[.int .i64 n] w (DigOf 1 w) := by
  have ha := one_byte w (48 + n) (by omega) (by omega)
  go_enter Try.func65, Try.ntmps65
  have hx : ¬ (9 < n) := by omega
  go_wp2
  go_rounds 1
  go_ret
  exact ⟨_, rfl, by rw [ByteArray.size_append]; exact Nat.le_refl 1, by rw [ByteArray.size_append]; exact Nat.le_refl 1, (digS_one (48 + n) (by omega) (by omega)).app digS_nil, (Below.refl _ _).alloc (Nat.le_refl _) _⟩

set_option maxHeartbeats 1000000 in
theorem l1Show_dig (n : Int) (sz : Nat) (w : World) (n0 : 0 ≤ n) (n1 : n ≤ 1000000000) (hs : sz ≤ 20) :
    Calls Try.prog 64 #[.int .i64 n, .int .i64 sz] w (DigOf sz w) := by
  go_enter Try.func64, Try.ntmps64
  go_wp2
  go_loopw [0, 5, 6] (fun m o i wr => ∃ (k : Nat) (v : Int) (s : ByteArray), k ≤ sz ∧ i = .int .i64 k ∧ m = .int .i64 v ∧ 0 ≤ v ∧ v ≤ 1000000000 ∧ o = .string s ∧ k ≤ s.size ∧ s.size ≤ k ∧ Hid (DigS s) ∧ Below w.heap.size w wr) (fun _ _ i _ => sz - (intOf i).toNat)
  case atStart => exact ⟨0, n, ⟨#[]⟩, by omega, rfl, rfl, n0, n1, rfl, by decide, by decide, digS_nil, Below.refl _ _⟩
  case round =>
    obtain ⟨k, v, s, hk, rfl, rfl, v0, v1, rfl, s0, s1, hds, hb⟩ := hrel
    have hz := hb.size
    by_cases hlt : k < sz
    · have q0 : 0 ≤ v % 10 := by omega
      have q1 : v % 10 ≤ 9 := by omega
      go_wp2_with (go_at_call 65; refine (l9Dec_dig _ _ (by omega) (by omega)).mono ?_; rintro e w1 ⟨t, rfl, t0, t1, hdt, hb1⟩; have HDT := Lib.hid hdt; clear hdt)
      go_roundw
      case rel => exact ⟨k + 1, v / 10, t ++ s, by omega, by go_num, by go_num, by omega, by omega, rfl, by rw [ByteArray.size_append]; omega, by rw [ByteArray.size_append]; omega, HDT.out.app hds.out, hb.trans (hb1.mono hz)⟩
      case measure => simp [intOf]; omega
    · obtain rfl : k = sz := by omega
      go_wp2
      go_ret
      exact ⟨s, rfl, s0, s1, hds.out, hb⟩

set_option maxHeartbeats 2000000 in
theorem l1Some_ok (W w : World) (r N : Nat) (h : Sg W w r N) (hN : N ≤ 90000) :
    Calls Try.prog 60 #[.pointer (some ⟨r, 0, none⟩)] w (CodeSg W r (N + 10)) := by
  go_enter Try.func60, Try.ntmps60
  go_wp2_with fail
  have hr := h.1.lt
  refine (num_sg W [120, 121, 7, 999] w.heap.size _ r _ (h.alloc _) (by omega) (by decide) (by decide) (by omega) (cells_int [120, 121, 7, 999] _ w)).mono ?_
  rintro e w1 ⟨v1, rfl, hm1, st1⟩
  have hv1 := (show ∀ x ∈ [(120 : Int), 121, 7, 999], 0 ≤ x ∧ x ≤ 999 from by decide) v1 hm1
  clear hm1 h
  go_wp2_with fail
  have hr1 := st1.1.lt
  refine (num_sg W [1, 2, 10, 99] w1.heap.size _ r _ (st1.alloc _) (by omega) (by decide) (by decide) (by omega) (cells_int [1, 2, 10, 99] _ w1)).mono ?_
  rintro e w2 ⟨v2, rfl, hm2, st2⟩
  have hv2 := (show ∀ x ∈ [(1 : Int), 2, 10, 99], 0 ≤ x ∧ x ≤ 999 from by decide) v2 hm2
  clear hm2 st1
  obtain ⟨a1, a2⟩ := hv1
  obtain ⟨b1, b2⟩ := hv2
  go_wp2_with fail
  refine (l1Show_dig _ 3 _ a1 (by omega) (by omega)).mono ?_
  rintro e w3 ⟨s3, rfl, s30, s31, qs3, hb3⟩
  have QS3 := Lib.hid qs3
  clear qs3
  have st3 := st2.below hb3
  clear st2 hb3
  go_wp2_with fail
  refine (l1Show_dig _ 2 _ b1 (by omega) (by omega)).mono ?_
  rintro e w4 ⟨s4, rfl, s40, s41, qs4, hb4⟩
  have QS4 := Lib.hid qs4
  clear qs4
  have st4 := st3.below hb4
  clear st3 hb4
  go_wp2_with fail
  refine (pick_sg W _ _ r _ st4 (by omega) (by omega) (by omega)).mono ?_
  rintro e w5 ⟨v5, rfl, c1, c2, st5⟩
  clear st4
  go_wp2_with fail
  refine (l1Show_dig _ 2 _ c1 (by omega) (by omega)).mono ?_
  rintro e w6 ⟨s6, rfl, s60, s61, qs6, hb6⟩
  have QS6 := Lib.hid qs6
  clear qs6
  have st6 := st5.below hb6
  clear st5 hb6
  go_wp2_with fail
  refine (pick_sg W _ _ r _ st6 (by omega) (by omega) (by omega)).mono ?_
  rintro e w7 ⟨v7, rfl, d1, d2, st7⟩
  clear st6
  cases hv : (v7 == 0)
  · go_wp2
    go_ret
    exact ⟨_, rfl, (QS3.out.app QS4.out).app QS6.out, by simp only [ByteArray.size_append]; omega, st7.mono (by omega) (by omega)⟩
  · go_wp2_with fail
    refine (pick_sg W _ _ r _ st7 (by omega) (by omega) (by omega)).mono ?_
    rintro e w8 ⟨x1, rfl, x10, x11, st8⟩
    clear st7
    go_wp2_with fail
    refine (pick_sg W _ _ r _ st8 (by omega) (by omega) (by omega)).mono ?_
    rintro e w9 ⟨x2, rfl, x20, x21, st9⟩
    clear st8
    have p0 : 0 ≤ x1 * x2 := Int.mul_nonneg x10 x20
    have p1 : x1 * x2 ≤ 255 * 255 := Int.mul_le_mul (by omega) (by omega) x20 (by omega)
    go_wp2_with fail
    refine (pick_sg W _ _ r _ st9 (by omega) (by omega) (by omega)).mono ?_
    rintro e w10 ⟨x3, rfl, x30, x31, st10⟩
    clear st9
    generalize x1 * x2 = P at p0 p1 ⊢
    have p2 : 0 ≤ P * x3 := Int.mul_nonneg p0 x30
    have p3 : P * x3 ≤ 255 * 255 * 149 := Int.mul_le_mul p1 (by omega) x30 (by omega)
    go_wp2_with fail
    refine (pick_sg W _ _ r _ st10 (by omega) (by omega) (by omega)).mono ?_
    rintro e w11 ⟨x4, rfl, x40, x41, st11⟩
    clear st10
    generalize P * x3 = Q at p2 p3 ⊢
    go_wp2_with fail
    refine (l1Show_dig _ 7 _ (by omega) (by omega) (by omega)).mono ?_
    rintro e w12 ⟨s12, rfl, z0, z1, qs12, hb12⟩
    have QS12 := Lib.hid qs12
    clear qs12
    have st12 := st11.below hb12
    clear st11 hb12
    go_wp2
    go_ret
    exact ⟨_, rfl, QS12.out, by omega, st12.mono (by omega) (by omega)⟩

end Go.Proofs.Ythnaglnmmgpiaaa
