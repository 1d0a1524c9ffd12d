/-
  What CodeOf, FormatPlace and ParsePlace return, in the program and in the model of the document.
-/
import Derived.Test.YtakadekgpfjonaaDoorChecked
import Derived.Test.YtakadekgpfjonaaDoorShow
import Derived.Test.YtakadekgpfjonaaDoorPlace
import Derived.Test.YtakadekgpfjonaaDoorDrawCode
import Derived.Test.YtakadekgpfjonaaDoorShelf
import Derived.Test.YtakadekgpfjonaaDoorDec
import Derived.Test.YtakadekgpfjonaaDoorVars
import Derived.WalkKit
import Derived.Below
import Derived.Lib.Hide
import Derived.Lib.LaidTab
import Derived.Lib.AppendIntMem
import Derived.Deep.RegionWith
import Derived.Lib.QuietBelow
import Derived.Handy
namespace Go.Proofs.YtakadekgpfjonaaDoor
open Go.RowKit
open Go.PlainAid (bt get_bt bt_nonneg bt_le)

set_option maxHeartbeats 1000000 in
theorem spec_l1Show (n : Int) (sz : Nat) (w : World) (n0 : 0 ≤ n) (n1 : n ≤ 1000000000) (hs : sz ≤ 20) :
    Calls Tryd.prog 27 #[.int .i64 n, .int .i64 sz] w fun e w' => e = .returned (.string (M.showTo n sz)) ∧ Below w.heap.size w w' := by
  have N0 := Lib.hid n0
  have N1 := Lib.hid n1
  go_enter Tryd.func27, Tryd.ntmps27
  go_wp2
  go_loopw [0, 5, 6] (fun m o i wr => ∃ (k : Nat) (v : Int) (s : ByteArray), k ≤ sz ∧ i = .int .i64 k ∧ m = .int .i64 v ∧ v = n / 10 ^ k ∧ o = .string s ∧ s = M.showTo n k ∧ Below w.heap.size w wr) (fun _ _ i _ => sz - (intOf i).toNat)
  case atStart => exact ⟨0, n, ⟨#[]⟩, by omega, rfl, rfl, by simp, rfl, rfl, Below.refl _ _⟩
  case round =>
    obtain ⟨k, v, s, hk, rfl, rfl, hv, rfl, hs', hb⟩ := hrel
    have hz := hb.size
    obtain ⟨v0, v1⟩ := M.div_bd N0.out k
    rw [← hv] at v0 v1
    have v2 : v ≤ 1000000000 := Int.le_trans v1 N1.out
    have HV := Lib.hid hv
    have hsz : s.size ≤ k := by rw [hs', M.showTo_size]; exact Nat.le_refl _
    have HS := Lib.hid hs'
    clear hv hs'
    by_cases hlt : k < sz
    · have q0 : 0 ≤ v % 10 := by omega
      have q1 : v % 10 ≤ 9 := by omega
      go_wp2_with (go_at_call 42; refine (spec_l9Dec _ _ (by omega) (by omega)).mono ?_; rintro e w1 ⟨rfl, hb1⟩; have hds : (M.dig (v % 10)).size ≤ 1 := Nat.le_refl 1)
      go_roundw
      case rel => exact ⟨k + 1, v / 10, M.dig (v % 10) ++ s, by omega, by go_num, by go_num, by rw [HV.out, M.div_step], rfl, by rw [M.showTo_succ, ← HS.out, ← HV.out], hb.trans (hb1.mono hz)⟩
      case measure => simp [intOf]; omega
    · obtain rfl : k = sz := by omega
      go_wp2
      go_ret
      exact ⟨congrArg (fun s => Ending.returned (.string s)) HS.out, hb⟩

/-- The listed table of powers of ten. -/
def Pow (w : World) : Prop := Lib.TabIs Tryd.prog w "internal/strconv.uint64pow10" .u64 Lib.pow10Tab
theorem itoa_call (n : Int) (h0 : 0 ≤ n) (h1 : n ≤ 999) (w : World) (hT : Pow w) :
    Calls Tryd.prog 39 #[.int .i64 n] w fun e w' => e = .returned (.string (M.ofInts (M.decInts n))) ∧ Below w.heap.size w w' :=
  (Tryd.strconv_Itoa n (by omega) (by omega) w hT).mono fun e w' h => by
    obtain ⟨he, k, os, rfl⟩ := h
    exact ⟨he.trans (congrArg (fun s => Ending.returned (.string s)) (M.itoa_ints h0 h1)), Lib.below_grow _ _ (Nat.le_refl _) _ _⟩
theorem repeat_call (c : Int) (h0 : 0 ≤ c) (h1 : c ≤ 20) (w : World) :
    Calls Tryd.prog 40 #[.string ⟨#[48]⟩, .int .i64 c] w fun e w' => e = .returned (.string (M.zeros c.toNat)) ∧ Below w.heap.size w w' := by
  obtain ⟨n, rfl⟩ := Int.eq_ofNat_of_zero_le h0
  exact (Tryd.strings_Repeat ⟨#[48]⟩ n w (by omega) (by show 1 * n ≤ _; omega)).mono fun e w' h =>
    ⟨h.1.trans (congrArg (fun s => Ending.returned (.string s)) (M.zeros_repeat n)), h.2⟩
theorem Pow.below {w w' : World} (h : Pow w) (hb : Below w.heap.size w w') : Pow w' := by
  have hg : Tryd.prog.globalNamed "internal/strconv.uint64pow10" = some 3 := by kernel_rfl
  unfold Pow Lib.TabIs at h ⊢
  exact Go.var?_below hb hg (Vars.var?_lt hg h) h

set_option maxHeartbeats 1000000 in
theorem impl_padded (n : Int) (k : Nat) (r : ByteArray) (w : World) (hT : Pow w) (n0 : 0 ≤ n) (n1 : n ≤ 999) (hk : (M.decInts n).length ≤ k) (hk3 : k ≤ 3) (hr : M.zeros (k - (M.decInts n).length) ++ M.ofInts (M.decInts n) = r) :
    Calls Tryd.prog 25 #[.int .i64 n, .int .i64 k] w fun e w' => e = .returned (.string r) ∧ Below w.heap.size w w' := by
  have HT := Lib.hid hT
  obtain ⟨s, hs⟩ : ∃ s, s = M.ofInts (M.decInts n) := ⟨_, rfl⟩
  have hsz : s.size = (M.decInts n).length := by rw [hs, M.ofInts_size]
  have HR := Lib.hid (show M.zeros (k - s.size) ++ s = r by rw [← hr, hsz, hs])
  have HS := Lib.hid hs
  have hk' : s.size ≤ k := by omega
  clear hr hT hs hsz hk
  go_enter Tryd.func25, Tryd.ntmps25
  go_wp2_with (first
    | (go_at_call 39; refine (itoa_call n n0 n1 _ HT.out).mono ?_; rw [← HS.out]; rintro e w1 ⟨rfl, hb1⟩)
    | (go_at_call 40; refine (repeat_call _ (by omega) (by omega) _).mono ?_; rintro e w2 ⟨rfl, hb2⟩; have hzs : (M.zeros (k - s.size)).size ≤ 3 := by rw [M.zeros_size]; omega))
  go_ret
  exact ⟨congrArg (fun s => Ending.returned (.string s)) HR.out, hb1.trans (hb2.mono hb1.size)⟩

theorem impl_padded3 (n : Int) (w : World) (hT : Pow w) (n0 : 0 ≤ n) (n1 : n ≤ 999) :
    Calls Tryd.prog 25 #[.int .i64 n, .int .i64 3] w fun e w' => e = .returned (.string (M.showTo n 3)) ∧ Below w.heap.size w w' :=
  impl_padded n 3 _ w hT n0 n1 (by rw [M.decInts_length]; split <;> (try split) <;> omega) (by omega) (M.pad3 n0 n1)
theorem impl_padded2 (n : Int) (w : World) (hT : Pow w) (n0 : 0 ≤ n) (n1 : n ≤ 99) :
    Calls Tryd.prog 25 #[.int .i64 n, .int .i64 2] w fun e w' => e = .returned (.string (M.showTo n 2)) ∧ Below w.heap.size w w' :=
  impl_padded n 2 _ w hT n0 (by omega) (by rw [M.decInts_length]; split <;> (try split) <;> omega) (by omega) (M.pad2 n0 n1)

/-- CodeOf at a valid place, and at another one. -/
def codeAns (a b c : Int) : Value := if M.placeOk a b c = true then .tuple #[.string (M.codeOf a b c), .bool true] else .tuple #[.string ⟨#[]⟩, .bool false]
set_option maxHeartbeats 1000000 in
theorem impl_CodeOf_yes (a b c : Int) (w : World) (hT : Pow w) (hp : M.placeOk a b c = true) :
    Calls Tryd.prog 9 #[.agg #[.int .i64 a, .int .i64 b, .int .i64 c]] w fun e w' => e = .returned (.tuple #[.string (M.codeOf a b c), .bool true]) ∧ Below w.heap.size w w' := by
  have HT := Lib.hid hT
  clear hT
  obtain ⟨a0, a1, b0, b1, c0, c1⟩ := M.placeOk_out hp
  have sa := M.size_le (M.showTo_size a 3)
  have sb := M.size_le (M.showTo_size b 2)
  have sc := M.size_le (M.showTo_size c 2)
  go_enter Tryd.func9, Tryd.ntmps9
  go_wp2_with (first
    | (go_at_call 11; refine (impl_PlaceValid _ _ _ _).mono ?_; rw [hp]; rintro e w1 ⟨rfl, rfl⟩))
  have hc0 : ((w.alloc (.cells #[.int .i64 a, .int .i64 b, .int .i64 c] 24)).alloc (.cells #[.int .i64 a, .int .i64 b, .int .i64 c] 24)).cell? ⟨w.heap.size, 0, none⟩ = some (.int .i64 a) := by simp [go_sem]
  have hc1 : ((w.alloc (.cells #[.int .i64 a, .int .i64 b, .int .i64 c] 24)).alloc (.cells #[.int .i64 a, .int .i64 b, .int .i64 c] 24)).cell? ⟨w.heap.size, 1, none⟩ = some (.int .i64 b) := by simp [go_sem]
  have hc2 : ((w.alloc (.cells #[.int .i64 a, .int .i64 b, .int .i64 c] 24)).alloc (.cells #[.int .i64 a, .int .i64 b, .int .i64 c] 24)).cell? ⟨w.heap.size, 2, none⟩ = some (.int .i64 c) := by simp [go_sem]
  have hbW : Below w.heap.size w ((w.alloc (.cells #[.int .i64 a, .int .i64 b, .int .i64 c] 24)).alloc (.cells #[.int .i64 a, .int .i64 b, .int .i64 c] 24)) := by go_grown
  generalize ((w.alloc (.cells #[.int .i64 a, .int .i64 b, .int .i64 c] 24)).alloc (.cells #[.int .i64 a, .int .i64 b, .int .i64 c] 24)) = W0 at hc0 hc1 hc2 hbW ⊢
  have k0 := cell_regrown hc0
  have k1 := cell_regrown hc1
  have k2 := cell_regrown hc2
  have HP : ∀ d os, Pow (Sort.grow (redrawn W0 d) os) := fun d os => (HT.out.below hbW).below (below_regrown W0 d os)
  have cA := fun d os => Calls.regrown_of (impl_padded3 a _ (HP d os) a0 a1)
  have cB := fun d os => Calls.regrown_of (impl_padded2 b _ (HP d os) b0 b1)
  have cC := fun d os => Calls.regrown_of (impl_padded2 c _ (HP d os) c0 c1)
  have n1 : ¬ 9223372036854775807 < (M.showTo a 3).size + (M.showTo b 2).size := by omega
  have n2 : ¬ 9223372036854775807 < (M.showTo a 3).size + (M.showTo b 2).size + (M.showTo c 2).size := by omega
  clear HP hc0 hc1 hc2
  refine wp_region_quiet_below (by kernel_rfl) (by kernel_rfl) ?_
  repeat (quiet_step (first | (go_at_call_of 25 a; exact cA _ _) | (go_at_call_of 25 b; exact cB _ _) | (go_at_call_of 25 c; exact cC _ _)))
  refine wpQuiet_nil ?_
  intro _ hw'
  obtain ⟨⟨dq, osq⟩, hw''⟩ := hw'
  subst hw''
  go_wp2
  go_ret2
  exact ⟨rfl, hbW.trans ((below_regrown W0 dq osq).mono hbW.size)⟩

set_option maxHeartbeats 1000000 in
theorem impl_CodeOf_no (a b c : Int) (w : World) (hp : M.placeOk a b c = false) :
    Calls Tryd.prog 9 #[.agg #[.int .i64 a, .int .i64 b, .int .i64 c]] w fun e w' => e = .returned (.tuple #[.string ⟨#[]⟩, .bool false]) ∧ Below w.heap.size w w' := by
  go_enter Tryd.func9, Tryd.ntmps9
  go_wp2_with (go_at_call 11; refine (impl_PlaceValid _ _ _ _).mono ?_; rw [hp]; rintro e w1 ⟨rfl, rfl⟩)
  go_ret2
  exact ⟨rfl, by go_grown⟩
set_option maxHeartbeats 1000000 in
theorem spec_CodeOf_no (a b c : Int) (w : World) (hp : M.placeOk a b c = false) :
    Calls Tryd.prog 10 #[.agg #[.int .i64 a, .int .i64 b, .int .i64 c]] w fun e w' => e = .returned (.tuple #[.string ⟨#[]⟩, .bool false]) ∧ Below w.heap.size w w' := by
  go_enter Tryd.func10, Tryd.ntmps10
  go_wp2_with (go_at_call 26; refine (spec_PlaceValid _ _ _ _).mono ?_; rw [hp]; rintro e w1 ⟨rfl, rfl⟩)
  go_ret2
  exact ⟨rfl, by go_grown⟩
set_option maxHeartbeats 1000000 in
theorem spec_CodeOf_yes (a b c : Int) (w : World) (hp : M.placeOk a b c = true) :
    Calls Tryd.prog 10 #[.agg #[.int .i64 a, .int .i64 b, .int .i64 c]] w fun e w' => e = .returned (.tuple #[.string (M.codeOf a b c), .bool true]) ∧ Below w.heap.size w w' := by
  obtain ⟨a0, a1, b0, b1, c0, c1⟩ := M.placeOk_out hp
  have sa := M.size_le (M.showTo_size a 3)
  have sb := M.size_le (M.showTo_size b 2)
  have sc := M.size_le (M.showTo_size c 2)
  go_enter Tryd.func10, Tryd.ntmps10
  go_wp2_with (go_at_call 26; refine (spec_PlaceValid _ _ _ _).mono ?_; rw [hp]; rintro e w1 ⟨rfl, rfl⟩)
  have hc0 : ((w.alloc (.cells #[.int .i64 a, .int .i64 b, .int .i64 c] 24)).alloc (.cells #[.int .i64 a, .int .i64 b, .int .i64 c] 24)).cell? ⟨w.heap.size, 0, none⟩ = some (.int .i64 a) := by simp [go_sem]
  have hc1 : ((w.alloc (.cells #[.int .i64 a, .int .i64 b, .int .i64 c] 24)).alloc (.cells #[.int .i64 a, .int .i64 b, .int .i64 c] 24)).cell? ⟨w.heap.size, 1, none⟩ = some (.int .i64 b) := by simp [go_sem]
  have hc2 : ((w.alloc (.cells #[.int .i64 a, .int .i64 b, .int .i64 c] 24)).alloc (.cells #[.int .i64 a, .int .i64 b, .int .i64 c] 24)).cell? ⟨w.heap.size, 2, none⟩ = some (.int .i64 c) := by simp [go_sem]
  have hbW : Below w.heap.size w ((w.alloc (.cells #[.int .i64 a, .int .i64 b, .int .i64 c] 24)).alloc (.cells #[.int .i64 a, .int .i64 b, .int .i64 c] 24)) := by go_grown
  generalize ((w.alloc (.cells #[.int .i64 a, .int .i64 b, .int .i64 c] 24)).alloc (.cells #[.int .i64 a, .int .i64 b, .int .i64 c] 24)) = W0 at hc0 hc1 hc2 hbW ⊢
  have k0 := cell_regrown hc0
  have k1 := cell_regrown hc1
  have k2 := cell_regrown hc2
  have cA := fun d os => Calls.regrown_of (spec_l1Show a 3 (Sort.grow (redrawn W0 d) os) a0 (by omega) (by omega))
  have cB := fun d os => Calls.regrown_of (spec_l1Show b 2 (Sort.grow (redrawn W0 d) os) b0 (by omega) (by omega))
  have cC := fun d os => Calls.regrown_of (spec_l1Show c 2 (Sort.grow (redrawn W0 d) os) c0 (by omega) (by omega))
  have n1 : ¬ 9223372036854775807 < (M.showTo a 3).size + (M.showTo b 2).size := by omega
  have n2 : ¬ 9223372036854775807 < (M.showTo a 3).size + (M.showTo b 2).size + (M.showTo c 2).size := by omega
  clear hc0 hc1 hc2
  refine wp_region_quiet_below (by kernel_rfl) (by kernel_rfl) ?_
  repeat (quiet_step (first | (go_at_call_of 27 a; exact cA _ _) | (go_at_call_of 27 b; exact cB _ _) | (go_at_call_of 27 c; exact cC _ _)))
  refine wpQuiet_nil ?_
  intro _ hw'
  obtain ⟨⟨dq, osq⟩, hw''⟩ := hw'
  subst hw''
  go_wp2
  go_ret2
  exact ⟨rfl, hbW.trans ((below_regrown W0 dq osq).mono hbW.size)⟩

theorem fmt_eq (a b c : Int) : (M.codeOf a b c).extract 0 3 ++ ⟨#[45]⟩ ++ (M.codeOf a b c).extract 3 5 ++ ⟨#[45]⟩ ++ (M.codeOf a b c).extract 5 7 = M.fmt (M.codeOf a b c) := rfl
theorem text_yes {a b c : Int} (h : M.placeOk a b c = true) : M.text a b c = M.fmt (M.codeOf a b c) := if_pos h
theorem text_no {a b c : Int} (h : M.placeOk a b c = false) : M.text a b c = ⟨#[]⟩ := if_neg (by rw [h]; decide)

set_option maxHeartbeats 1000000 in
theorem impl_FormatPlace (a b c : Int) (w : World) (hT : Pow w) :
    Calls Tryd.prog 14 #[.agg #[.int .i64 a, .int .i64 b, .int .i64 c]] w fun e w' => e = .returned (.string (M.text a b c)) ∧ Below w.heap.size w w' := by
  have HT := Lib.hid (hT.below (Below.refl _ _))
  cases hp : M.placeOk a b c
  · rw [text_no hp]
    go_enter Tryd.func14, Tryd.ntmps14
    go_wp2_with (go_at_call 9; refine (impl_CodeOf_no a b c _ hp).mono ?_; rintro e w1 ⟨rfl, hb1⟩)
    go_ret
    exact ⟨rfl, ((Below.refl _ _).alloc (Nat.le_refl _) _).trans (hb1.mono (by simp))⟩
  · rw [text_yes hp]
    have hsz := M.codeOf_size a b c
    have HF := Lib.hid (fmt_eq a b c)
    go_enter Tryd.func14, Tryd.ntmps14
    go_wp2_with (go_at_call 9; refine (impl_CodeOf_yes a b c _ (HT.out.below (by go_grown)) hp).mono ?_; rintro e w1 ⟨rfl, hb1⟩)
    go_region
    all_goals
      go_wp2
      go_ret
      exact ⟨congrArg (fun s => Ending.returned (.string s)) HF.out, (((Below.refl _ _).alloc (Nat.le_refl _) _).trans (hb1.mono (by simp))).drew⟩

set_option maxHeartbeats 1000000 in
theorem spec_FormatPlace (a b c : Int) (w : World) :
    Calls Tryd.prog 22 #[.agg #[.int .i64 a, .int .i64 b, .int .i64 c]] w fun e w' => e = .returned (.string (M.text a b c)) ∧ Below w.heap.size w w' := by
  skip
  cases hp : M.placeOk a b c
  · rw [text_no hp]
    go_enter Tryd.func22, Tryd.ntmps22
    go_wp2_with (go_at_call 10; refine (spec_CodeOf_no a b c _ hp).mono ?_; rintro e w1 ⟨rfl, hb1⟩)
    go_ret
    exact ⟨rfl, ((Below.refl _ _).alloc (Nat.le_refl _) _).trans (hb1.mono (by simp))⟩
  · rw [text_yes hp]
    have hsz := M.codeOf_size a b c
    have HF := Lib.hid (fmt_eq a b c)
    go_enter Tryd.func22, Tryd.ntmps22
    go_wp2_with (go_at_call 10; refine (spec_CodeOf_yes a b c _ hp).mono ?_; rintro e w1 ⟨rfl, hb1⟩)
    go_region
    all_goals
      go_wp2
      go_ret
      exact ⟨congrArg (fun s => Ending.returned (.string s)) HF.out, (((Below.refl _ _).alloc (Nat.le_refl _) _).trans (hb1.mono (by simp))).drew⟩
end Go.Proofs.YtakadekgpfjonaaDoor
