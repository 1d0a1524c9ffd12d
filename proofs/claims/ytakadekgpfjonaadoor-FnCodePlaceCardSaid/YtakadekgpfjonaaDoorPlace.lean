/-
  What PlaceValid and PlaceOf return, in the program and in the model of the document.
-/
import Derived.Test.YtakadekgpfjonaaDoorChecked
import Derived.Test.YtakadekgpfjonaaDoorMath
import Derived.Test.YtakadekgpfjonaaDoorDig
import Derived.WalkKit
import Derived.Below
import Derived.Lib.Hide
import Derived.Deep.RegionWith
import Derived.Handy
namespace Go.Proofs.YtakadekgpfjonaaDoor
open Go.RowKit
open Go.PlainAid (bt get_bt bt_nonneg bt_le)

set_option maxHeartbeats 1000000 in
theorem spec_PlaceValid (a b c : Int) (w : World) :
    Calls Tryd.prog 26 #[.agg #[.int .i64 a, .int .i64 b, .int .i64 c]] w fun e w' => e = .returned (.bool (M.placeOk a b c)) ∧ w' = w.alloc (.cells #[.int .i64 a, .int .i64 b, .int .i64 c] 24) := by
  rcases M.place_cases a b c with ⟨a0, a1, b0, b1, c0, c1⟩ | h | ⟨a0, h⟩ | ⟨a0, a1, h⟩ | ⟨a0, a1, b0, h⟩ | ⟨a0, a1, b0, b1, h⟩ | ⟨a0, a1, b0, b1, c0, h⟩
  all_goals
    have hv := Lib.hid (show M.placeOk a b c = _ from (by first | exact M.placeOk_yes (by omega) | exact M.placeOk_no (by omega)))
    go_enter Tryd.func26, Tryd.ntmps26
    go_wp2
    go_ret
    exact ⟨ret_bool (by first | exact hv.out.symm | (rw [hv.out]; simp; omega)), rfl⟩

set_option maxHeartbeats 1000000 in
theorem impl_PlaceValid (a b c : Int) (w : World) :
    Calls Tryd.prog 11 #[.agg #[.int .i64 a, .int .i64 b, .int .i64 c]] w fun e w' => e = .returned (.bool (M.placeOk a b c)) ∧ w' = w.alloc (.cells #[.int .i64 a, .int .i64 b, .int .i64 c] 24) := by
  rcases M.place_cases a b c with ⟨a0, a1, b0, b1, c0, c1⟩ | h | ⟨a0, h⟩ | ⟨a0, a1, h⟩ | ⟨a0, a1, b0, h⟩ | ⟨a0, a1, b0, b1, h⟩ | ⟨a0, a1, b0, b1, c0, h⟩
  all_goals
    have hv := Lib.hid (show M.placeOk a b c = _ from (by first | exact M.placeOk_yes (by omega) | exact M.placeOk_no (by omega)))
    go_enter Tryd.func11, Tryd.ntmps11
    go_wp2
    go_ret
    exact ⟨ret_bool (by first | exact hv.out.symm | (rw [hv.out]; simp; omega)), rfl⟩

set_option maxHeartbeats 400000 in
theorem spec_l1Number (s : ByteArray) (w : World) (hd : ∀ i, i < s.size → 48 ≤ bt s i ∧ bt s i ≤ 57) (h7 : s.size ≤ 7) :
    Calls Tryd.prog 33 #[.string s] w fun e w' => e = .returned (.int .i64 (M.num s)) ∧ w = w' := by
  have hbt := get_bt s
  have HD := Lib.hid hd
  have hf := Lib.hid (show M.num s = M.numTo s s.size from rfl)
  clear hd
  go_enter Tryd.func33, Tryd.ntmps33
  go_wp2
  go_loop [3, 4] (fun n i => ∃ k : Nat, k ≤ s.size ∧ i = .int .i64 k ∧ n = .int .i64 (M.numTo s k)) (fun _ i => s.size - (intOf i).toNat)
  case atStart => exact ⟨0, Nat.zero_le _, rfl, rfl⟩
  case round =>
    obtain ⟨k, hk, rfl, rfl⟩ := hrel
    obtain ⟨n0, n1⟩ := M.numTo_lt HD.out h7 k hk
    by_cases hlt : k < s.size
    · have hs := Lib.hid (M.numTo_succ s k)
      obtain ⟨b0, b1⟩ := HD.out k hlt
      go_wp2
      go_round
      case rel => exact ⟨k + 1, by omega, by go_num, by rw [hs.out]⟩
      case measure => simp [intOf]; omega
    · obtain rfl : k = s.size := by omega
      go_wp2
      go_ret
      exact ⟨ret_int hf.out.symm, rfl⟩

set_option maxHeartbeats 400000 in
theorem impl_numberOf (s : ByteArray) (w : World) (hd : ∀ i, i < s.size → 48 ≤ bt s i ∧ bt s i ≤ 57) (h7 : s.size ≤ 7) :
    Calls Tryd.prog 29 #[.string s] w fun e w' => e = .returned (.int .i64 (M.num s)) ∧ w' = w.alloc (.stringIter s s.size) := by
  have hbt := get_bt s
  have HD := Lib.hid hd
  have hf := Lib.hid (show M.num s = M.numTo s s.size from rfl)
  clear hd
  go_enter Tryd.func29, Tryd.ntmps29
  go_wp2
  go_loopw [3, 5] (fun n _ wr => ∃ k : Nat, wr = w.iter s k ∧ k ≤ s.size ∧ n = .int .i64 (M.numTo s k)) (fun _ _ wr => s.size - wr.iterPos w.heap.size)
  case atStart => exact ⟨0, rfl, Nat.zero_le _, rfl⟩
  case round =>
    obtain ⟨k, rfl, hk, rfl⟩ := hrel
    obtain ⟨n0, n1⟩ := M.numTo_lt HD.out h7 k hk
    by_cases hlt : k < s.size
    · have hs := Lib.hid (M.numTo_succ s k)
      obtain ⟨b0, b1⟩ := HD.out k hlt
      have ha : (s[k]'hlt).toNat < 128 := by have := hbt k hlt; omega
      have hnx : ∀ ty, (Instr.next (.pointer (some ⟨w.heap.size, 0, none⟩)) true ty).run Tryd.prog (w.iter s k) = _ := fun ty => run_next_ascii w s k ty hlt ha
      rw [hbt k hlt] at hnx
      clear ha
      go_wp2
      go_roundw
      case rel => exact ⟨k + 1, rfl, by omega, by rw [hs.out]; go_num⟩
      case measure => simp; omega
    · obtain rfl : k = s.size := by omega
      have hnx : ∀ ty, (Instr.next (.pointer (some ⟨w.heap.size, 0, none⟩)) true ty).run Tryd.prog (w.iter s s.size) = _ := fun ty => run_next_end w s s.size ty (by omega)
      go_wp2
      go_ret
      exact ⟨ret_int hf.out.symm, rfl⟩

set_option maxHeartbeats 400000 in
theorem toPlace_any (a b c : Int) (w : World) :
    Calls Tryd.prog 21 #[.agg #[.int .i64 a, .int .i64 b, .int .i64 c]] w fun e w' => e = .returned (.agg #[.int .i64 a, .int .i64 b, .int .i64 c]) ∧ w' = ((w.alloc (.cells #[.int .i64 a, .int .i64 b, .int .i64 c] 36)).alloc (.cells #[.int .i64 a, .int .i64 b, .int .i64 c] 24)).alloc (.cells #[.int .i64 a, .int .i64 b, .int .i64 c] 24) := by
  go_enter Tryd.func21, Tryd.ntmps21
  go_wp2
  go_returns
  exact ⟨rfl, rfl⟩

set_option maxHeartbeats 400000 in
theorem eqPlace_same (a b c : Int) (w : World) :
    Calls Tryd.prog 23 #[.agg #[.int .i64 a, .int .i64 b, .int .i64 c], .agg #[.int .i64 a, .int .i64 b, .int .i64 c]] w fun e w' => e = .returned (.bool true) ∧ w' = (w.alloc (.cells #[.int .i64 a, .int .i64 b, .int .i64 c] 24)).alloc (.cells #[.int .i64 a, .int .i64 b, .int .i64 c] 24) := by
  go_enter Tryd.func23, Tryd.ntmps23
  go_wp2
  go_returns
  exact ⟨rfl, rfl⟩

theorem bt_extract (s : ByteArray) (a b i : Nat) (hb : b ≤ s.size) (hi : i < (s.extract a b).size) : bt (s.extract a b) i = bt s (a + i) := by
  have h0 : (s.extract a b).size = b - a := by simp; omega
  have h1 := get_bt (s.extract a b) i hi
  have h2 := get_bt s (a + i) (by omega)
  rw [← h1, ← h2]
  simp [ByteArray.getElem_extract]

theorem digs_extract {s : ByteArray} (hd : ∀ i, i < s.size → 48 ≤ bt s i ∧ bt s i ≤ 57) (a b : Nat) (hb : b ≤ s.size) : ∀ i, i < (s.extract a b).size → 48 ≤ bt (s.extract a b) i ∧ bt (s.extract a b) i ≤ 57 := by
  intro i hi
  have h0 : (s.extract a b).size = b - a := by simp; omega
  rw [bt_extract s a b i hb hi]
  exact hd (a + i) (by omega)

set_option maxHeartbeats 400000 in
theorem spec_PlaceOf_yes (s : ByteArray) (w : World) (hc : M.code s = true) :
    Calls Tryd.prog 17 #[.string s] w fun e w' => e = .returned (.tuple #[.agg #[.int .i64 (M.num (s.extract 0 3)), .int .i64 (M.num (s.extract 3 5)), .int .i64 (M.num (s.extract 5 7))], .bool true]) ∧ Below w.heap.size w w' := by
  obtain ⟨hdg, h7⟩ := M.code_yes hc
  have HD := Lib.hid (M.digs_bt hdg)
  have hs : s.size ≤ maxLen := by unfold maxLen; omega
  go_enter Tryd.func17, Tryd.ntmps17
  go_wp2_with (go_at_call 32; refine (spec_CodeValid _ _ hs).mono ?_; rw [hc]; rintro e w' ⟨rfl, rfl⟩)
  go_region_with (go_at_call 33; refine (spec_l1Number _ _ (digs_extract HD.out _ _ (by omega)) (by simp; omega)).mono ?_; rintro e w' ⟨rfl, rfl⟩)
  all_goals
    go_wp2
    go_returns
    refine ⟨rfl, ?_⟩
    go_grown

set_option maxHeartbeats 400000 in
theorem impl_PlaceOf_yes (s : ByteArray) (w : World) (hc : M.code s = true) :
    Calls Tryd.prog 12 #[.string s] w fun e w' => e = .returned (.tuple #[.agg #[.int .i64 (M.num (s.extract 0 3)), .int .i64 (M.num (s.extract 3 5)), .int .i64 (M.num (s.extract 5 7))], .bool true]) ∧ Below w.heap.size w w' := by
  obtain ⟨hdg, h7⟩ := M.code_yes hc
  have HD := Lib.hid (M.digs_bt hdg)
  have HC := Lib.hid hc
  clear hc hdg
  go_enter Tryd.func12, Tryd.ntmps12
  go_wp2_with (go_at_call 15; refine (impl_CodeValid_yes _ _ HC.out).mono ?_; rintro e w' ⟨rfl, rfl⟩)
  go_region_with (go_at_call 29; refine (impl_numberOf _ _ (digs_extract HD.out _ _ (by omega)) (by simp; omega)).mono ?_; rintro e w' ⟨rfl, rfl⟩)
  all_goals
    go_wp2
    go_returns
    refine ⟨rfl, ?_⟩
    go_grown

set_option maxHeartbeats 400000 in
theorem spec_PlaceOf_no (s : ByteArray) (w : World) (hs : s.size ≤ maxLen) (hc : M.code s = false) :
    Calls Tryd.prog 17 #[.string s] w fun e w' => e = .returned (.tuple #[.agg #[.int .i64 0, .int .i64 0, .int .i64 0], .bool false]) ∧ Below w.heap.size w w' := by
  go_enter Tryd.func17, Tryd.ntmps17
  go_wp2_with (go_at_call 32; refine (spec_CodeValid _ _ hs).mono ?_; rw [hc]; rintro e w' ⟨rfl, rfl⟩)
  go_returns
  refine ⟨rfl, ?_⟩
  go_grown

set_option maxHeartbeats 400000 in
theorem impl_PlaceOf_no (s : ByteArray) (w : World) (hs : s.size ≤ maxLen) (hc : M.code s = false) :
    Calls Tryd.prog 12 #[.string s] w fun e w' => e = .returned (.tuple #[.agg #[.int .i64 0, .int .i64 0, .int .i64 0], .bool false]) ∧ Below w.heap.size w w' := by
  go_enter Tryd.func12, Tryd.ntmps12
  go_wp2_with (go_at_call 15; refine (impl_CodeValid _ _ hs).mono ?_; rw [hc]; rintro e w1 ⟨rfl, rfl | ⟨k, rfl⟩⟩)
  all_goals
    go_returns
    refine ⟨rfl, ?_⟩
    go_grown
end Go.Proofs.YtakadekgpfjonaaDoor
