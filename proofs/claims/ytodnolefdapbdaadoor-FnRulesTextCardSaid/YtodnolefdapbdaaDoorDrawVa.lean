/-
  Drawn codes and letters once more: they are valid.
-/
import Derived.Test.YtodnolefdapbdaaDoorDrawG
namespace Go.Proofs.YtodnolefdapbdaaDoor
open Go.RowKit
open Go.PlainAid (bt get_bt bt_nonneg bt_le)
set_option linter.unusedVariables false

/-- Digits alone. -/
def DigS (s : ByteArray) : Prop := ∀ i, i < s.size → 48 ≤ bt s i ∧ bt s i ≤ 57
theorem bt_low (s t : ByteArray) (j : Nat) (hj : j < s.size) : bt (s ++ t) j = bt s j := by
  have h1 := get_bt (s ++ t) j (by rw [ByteArray.size_append]; omega)
  have h2 := get_bt s j hj
  rw [← h1, ← h2, ByteArray.getElem_append_left hj]
theorem bt_high (s t : ByteArray) (j : Nat) (hj : s.size ≤ j) (h : j < s.size + t.size) : bt (s ++ t) j = bt t (j - s.size) := by
  have h1 := get_bt (s ++ t) j (by rw [ByteArray.size_append]; omega)
  have h2 := get_bt t (j - s.size) (by omega)
  rw [← h1, ← h2, ByteArray.getElem_append_right hj]
theorem DigS.app {s t : ByteArray} (hs : DigS s) (ht : DigS t) : DigS (s ++ t) := fun i hi => by
  rw [ByteArray.size_append] at hi
  by_cases h : i < s.size
  · rw [bt_low s t i h]; exact hs i h
  · rw [bt_high s t i (by omega) (by omega)]; exact ht _ (by omega)
theorem digS_nil : DigS ⟨#[]⟩ := fun i hi => absurd hi (by show ¬ i < 0; omega)
theorem digS_one (x : Int) (h0 : 48 ≤ x) (h1 : x ≤ 57) : DigS ⟨#[UInt8.ofNat x.toNat]⟩ := fun i hi => by
  have hi1 : i < 1 := hi
  obtain rfl : i = 0 := by omega
  have h := get_bt (⟨#[UInt8.ofNat x.toNat]⟩ : ByteArray) 0 hi
  rw [← h]
  show 48 ≤ (((UInt8.ofNat x.toNat).toNat : Nat) : Int) ∧ (((UInt8.ofNat x.toNat).toNat : Nat) : Int) ≤ 57
  rw [UInt8.toNat_ofNat']
  omega
theorem DigS.code {s : ByteArray} (h : DigS s) (h7 : s.size = 7) : M.code s = true := by
  unfold M.code M.digs
  rw [Bool.and_eq_true, Bool.and_eq_true]
  exact ⟨⟨(M.digsTo_iff s s.size).2 h, decide_eq_true (by omega)⟩, decide_eq_true h7⟩
def DigOf (n : Nat) (w : World) (e : Ending) (w' : World) : Prop := ∃ s : ByteArray, e = .returned (.string s) ∧ n ≤ s.size ∧ s.size ≤ n ∧ DigS s ∧ Below w.heap.size w w'
def CodeSg (W : World) (r N : Nat) (e : Ending) (w' : World) : Prop := ∃ s : ByteArray, e = .returned (.string s) ∧ DigS s ∧ s.size = 7 ∧ Sg W w' r N
/-- Letters with codes, their numbers x, x + 7 and so on. -/
def OkL (x : Int) (L : List (Int × ByteArray)) : Prop := ∀ i (h : i < L.length), L[i].1 = x + (i : Int) * 7 ∧ M.code L[i].2 = true
theorem okL_nil (x : Int) : OkL x [] := fun i h => absurd h (by simp)
theorem okL_more {x : Int} {L : List (Int × ByteArray)} (h : OkL x L) {s : ByteArray} (hs : DigS s) (h7 : s.size = 7) (hx : 0 ≤ x) : OkL x (L ++ [(x + (L.length : Int) * 7, s)]) := fun i hi => by
  by_cases e : i < L.length
  · simp only [List.getElem_append_left e]; exact h i e
  · obtain rfl : i = L.length := by rw [List.length_append] at hi; simp at hi; omega
    simp only [List.getElem_append_right (Nat.le_refl _), Nat.sub_self, List.getElem_cons_zero]
    exact ⟨by first | trivial | rfl, hs.code h7⟩
theorem OkL.small {x : Int} {L : List (Int × ByteArray)} (h : OkL x L) (x0 : 1 ≤ x) (x1 : x ≤ 10) (hl : L.length ≤ 14) : Small 7 L := fun p hp => by
  obtain ⟨i, hi, rfl⟩ := List.mem_iff_getElem.1 hp
  obtain ⟨h1, h2⟩ := h i hi
  have := (M.code_yes h2).2
  exact ⟨by rw [h1]; omega, by omega⟩
theorem OkL.batch {x : Int} {L : List (Int × ByteArray)} (h : OkL x L) (x0 : 1 ≤ x) (x1 : x ≤ 10) (hl : L.length ≤ 14) : M.batch L.length (nI L) (nC L) = true := by
  have hg : M.goodTo (nI L) (nC L) L.length = true := (M.goodTo_iff _ _ _).2 fun i hi => by
    obtain ⟨h1, h2⟩ := h i hi
    rw [nI_at hi, nC_at hi]
    refine ⟨h2, by rw [h1]; omega, fun k hk => ?_⟩
    rw [nI_at (by omega), h1, (h k (by omega)).1]
    omega
  rw [M.batch_end hg]
  exact decide_eq_true (by omega)
set_option maxHeartbeats 1000000 in
theorem l9Dec_dig (n : Int) (w : World) (n0 : 0 ≤ n) (n1 : n ≤ 9) :
    Calls Tryd.prog 66 #[.int .i64 n] w (DigOf 1 w) := by
  have ha := one_byte w (48 + n) (by omega) (by omega)
  go_enter Tryd.func66, Tryd.ntmps66
  have hx : ¬ (9 < n) := by omega
  go_wp2
  go_rounds 1
  go_ret
  exact ⟨_, rfl, by rw [ByteArray.size_append]; exact Nat.le_refl 1, by rw [ByteArray.size_append]; exact Nat.le_refl 1, (digS_one (48 + n) (by omega) (by omega)).app digS_nil, (Below.refl _ _).alloc (Nat.le_refl _) _⟩

set_option maxHeartbeats 1000000 in
theorem l1Show_dig (n : Int) (sz : Nat) (w : World) (n0 : 0 ≤ n) (n1 : n ≤ 1000000000) (hs : sz ≤ 20) :
    Calls Tryd.prog 57 #[.int .i64 n, .int .i64 sz] w (DigOf sz w) := by
  go_enter Tryd.func57, Tryd.ntmps57
  go_wp2
  go_loopw [0, 5, 6] (fun m o i wr => ∃ (k : Nat) (v : Int) (s : ByteArray), k ≤ sz ∧ i = .int .i64 k ∧ m = .int .i64 v ∧ 0 ≤ v ∧ v ≤ 1000000000 ∧ o = .string s ∧ k ≤ s.size ∧ s.size ≤ k ∧ Hid (DigS s) ∧ Below w.heap.size w wr) (fun _ _ i _ => sz - (intOf i).toNat)
  case atStart => exact ⟨0, n, ⟨#[]⟩, by omega, rfl, rfl, n0, n1, rfl, by decide, by decide, digS_nil, Below.refl _ _⟩
  case round =>
    obtain ⟨k, v, s, hk, rfl, rfl, v0, v1, rfl, s0, s1, hds, hb⟩ := hrel
    have hz := hb.size
    by_cases hlt : k < sz
    · have q0 : 0 ≤ v % 10 := by omega
      have q1 : v % 10 ≤ 9 := by omega
      go_wp2_with (go_at_call 66; refine (l9Dec_dig _ _ (by omega) (by omega)).mono ?_; rintro e w1 ⟨t, rfl, t0, t1, hdt, hb1⟩; have HDT := Lib.hid hdt; clear hdt)
      go_roundw
      case rel => exact ⟨k + 1, v / 10, t ++ s, by omega, by go_num, by go_num, by omega, by omega, rfl, by rw [ByteArray.size_append]; omega, by rw [ByteArray.size_append]; omega, HDT.out.app hds.out, hb.trans (hb1.mono hz)⟩
      case measure => simp [intOf]; omega
    · obtain rfl : k = sz := by omega
      go_wp2
      go_ret
      exact ⟨s, rfl, s0, s1, hds.out, hb⟩

end Go.Proofs.YtodnolefdapbdaaDoor
