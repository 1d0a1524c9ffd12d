/-
  Drawn codes: what the functions that draw a code return. For every input.
-/
import Derived.Test.YtkbebpadbdhnhaaDraw
import Derived.Laws.IdiomStrings
namespace Go.Proofs.Ytkbebpadbdhnhaa
open Go.RowKit

/-- A string whose size lies between two numbers, and new memory alone. -/
def StrOf (lo hi : Nat) (w : World) (e : Ending) (w' : World) : Prop := ∃ s : ByteArray, e = .returned (.string s) ∧ lo ≤ s.size ∧ s.size ≤ hi ∧ Below w.heap.size w w'
/-- The same, behind which a reader goes on. -/
def StrSt (W : World) (lo hi r N : Nat) (e : Ending) (w' : World) : Prop := ∃ s : ByteArray, e = .returned (.string s) ∧ lo ≤ s.size ∧ s.size ≤ hi ∧ St W w' r N

theorem one_byte (w : World) (x : Int) (x0 : 0 ≤ x) (x1 : x ≤ 255) (T : TypeId) : (convert 22 9 (.slice (some ⟨w.heap.size, 0, none⟩) 1 1)).run Try.prog (w.alloc (.cells #[.int .u8 x] T)) = .ok (.string ⟨#[UInt8.ofNat x.toNat]⟩) (w.alloc (.cells #[.int .u8 x] T)) := by
  have hb : (UInt8.ofNat x.toNat).toNat = x.toNat := by
    rw [UInt8.toNat_ofNat']
    omega
  exact run_convert_bytes_back (P := Try.prog) (w.alloc (.cells #[.int .u8 x] T)) 22 9 5 ⟨w.heap.size, 0, none⟩ 1 [UInt8.ofNat x.toNat] Try.underlying22 Try.underlying5 Try.underlying9 (by
    intro j hj
    have hj0 : j = 0 := by simp at hj; omega
    subst hj0
    show (w.alloc (.cells #[.int .u8 x] T)).cell? ⟨w.heap.size, 0, none⟩ = _
    have hx : ((x.toNat : Nat) : Int) = x := by omega
    simp [hb, hx])

set_option maxHeartbeats 1000000 in
theorem l9Dec_digit (n : Int) (w : World) (n0 : 0 ≤ n) (n1 : n ≤ 9) :
    Calls Try.prog 39 #[.int .i64 n] w (StrOf 1 1 w) := by
  have ha := one_byte w (48 + n) (by omega) (by omega)
  go_enter Try.func39, Try.ntmps39
  have hx : ¬ (9 < n) := by omega
  go_wp2
  go_rounds 1
  go_ret
  exact ⟨_, rfl, by rw [ByteArray.size_append]; exact Nat.le_refl 1, by rw [ByteArray.size_append]; exact Nat.le_refl 1, (Below.refl _ _).alloc (Nat.le_refl _) _⟩

set_option maxHeartbeats 1000000 in
theorem l1Show_any (n : Int) (sz : Nat) (w : World) (n0 : 0 ≤ n) (n1 : n ≤ 1000000000) (hs : sz ≤ 20) :
    Calls Try.prog 38 #[.int .i64 n, .int .i64 sz] w (StrOf sz sz w) := by
  go_enter Try.func38, Try.ntmps38
  go_wp2
  go_loopw [0, 5, 6] (fun m o i wr => ∃ (k : Nat) (v : Int) (s : ByteArray), k ≤ sz ∧ i = .int .i64 k ∧ m = .int .i64 v ∧ 0 ≤ v ∧ v ≤ 1000000000 ∧ o = .string s ∧ k ≤ s.size ∧ s.size ≤ k ∧ Below w.heap.size w wr) (fun _ _ i _ => sz - (intOf i).toNat)
  case atStart => exact ⟨0, n, ⟨#[]⟩, by omega, rfl, rfl, n0, n1, rfl, by decide, by decide, Below.refl _ _⟩
  case round =>
    obtain ⟨k, v, s, hk, rfl, rfl, v0, v1, rfl, s0, s1, hb⟩ := hrel
    have hz := hb.size
    by_cases hlt : k < sz
    · have q0 : 0 ≤ v % 10 := by omega
      have q1 : v % 10 ≤ 9 := by omega
      go_wp2_with (go_at_call 39; refine (l9Dec_digit _ _ (by omega) (by omega)).mono ?_; rintro e w1 ⟨t, rfl, t0, t1, hb1⟩)
      go_roundw
      case rel => exact ⟨k + 1, v / 10, t ++ s, by omega, by go_num, by go_num, by omega, by omega, rfl, by rw [ByteArray.size_append]; omega, by rw [ByteArray.size_append]; omega, hb.trans (hb1.mono hz)⟩
      case measure => simp [intOf]; omega
    · obtain rfl : k = sz := by omega
      go_wp2
      go_ret
      exact ⟨s, rfl, s0, s1, hb⟩

set_option maxHeartbeats 1000000 in
theorem l9Dec_any (n : Int) (w : World) (n0 : -1 ≤ n) (n1 : n ≤ 9) :
    Calls Try.prog 39 #[.int .i64 n] w (StrOf 1 2 w) := by
  by_cases h : n = -1
  · subst h
    go_enter Try.func39, Try.ntmps39
    go_wp2_with fail
    refine (l9Dec_digit _ _ (by decide) (by decide)).mono ?_
    rintro e w1 ⟨s, rfl, s0, s1, hb⟩
    go_wp2
    go_ret
    refine ⟨_, rfl, ?_, ?_, hb⟩
    · rw [ByteArray.size_append]; omega
    · rw [ByteArray.size_append, show (⟨#[45]⟩ : ByteArray).size = 1 from rfl]; omega
  · exact (l9Dec_digit n w (by omega) n1).mono fun e w' hp => by
      obtain ⟨s, he, s0, s1, hb⟩ := hp
      exact ⟨s, he, s0, by omega, hb⟩

set_option maxHeartbeats 1000000 in
theorem l1Bad_any (W w : World) (r N : Nat) (c : ByteArray) (h : St W w r N) (hN : N ≤ 90000) (c0 : 1 ≤ c.size) (c1 : c.size ≤ 20) :
    Calls Try.prog 25 #[.pointer (some ⟨r, 0, none⟩), .string c] w (StrSt W 0 21 r (N + 10)) := by
  go_enter Try.func25, Try.ntmps25
  go_wp2_with fail
  refine (pick_st W _ _ r _ h (by omega) (by omega) (by omega)).mono ?_
  rintro e w1 ⟨v, rfl, v0, v1, st1⟩
  clear h
  have d1 : c.size - 1 ≤ c.size := by omega
  cases h0 : (v == 0)
  · cases h1 : (v == 1)
    · cases h2 : (v == 2)
      · go_wp2
        go_ret
        exact ⟨_, rfl, by omega, by omega, st1.mono (by omega) (by omega)⟩
      · go_wp2
        go_ret
        exact ⟨_, rfl, by omega, by decide, st1.mono (by omega) (by omega)⟩
    · go_wp2
      go_ret
      refine ⟨_, rfl, by omega, ?_, st1.mono (by omega) (by omega)⟩
      rw [ByteArray.size_append, ByteArray.size_extract, show (⟨#[120]⟩ : ByteArray).size = 1 from rfl]
      omega
  · go_wp2
    go_ret
    refine ⟨_, rfl, by omega, ?_, st1.mono (by omega) (by omega)⟩
    rw [ByteArray.size_append, show (⟨#[48]⟩ : ByteArray).size = 1 from rfl]
    omega
end Go.Proofs.Ytkbebpadbdhnhaa
