/-
  What ReadBars and ReadEither return, in the program and in the model of the document.
-/
import Derived.Test.YthpdcilffbffoaaDoorReadM
import Derived.Test.YthpdcilffbffoaaDoorRecS
import Derived.Test.YthpdcilffbffoaaDoorTurnSpec
namespace Go.Proofs.YthpdcilffbffoaaDoor
open Go.RowKit
open Go.PlainAid (bt get_bt bt_nonneg bt_le)

theorem neq_list {a b : ByteArray} (h : a ≠ b) : (a.toList == b.toList) = false := by
  rw [beq_eq_false_iff_ne]
  intro e
  rw [ByteArray.toList_eq, ByteArray.toList_eq] at e
  exact h (ByteArray.ext (Array.toList_inj.1 e))

set_option maxHeartbeats 1000000 in
theorem impl_ReadBars (b : ByteArray) (w : World) (hL : Laid.read w) :
    Calls Tryd.prog 15 #[.string b] w fun e w' => e = .returned (M.ans (M.readB b)) ∧ Below w.heap.size w w' := by
  obtain ⟨o, ho⟩ : ∃ o, M.recov b = o := ⟨_, rfl⟩
  obtain ⟨r, hr⟩ : ∃ r, M.readB b = r := ⟨_, rfl⟩
  have HO := Lib.hid ho
  have HR := Lib.hid hr
  rw [hr]
  cases o with
  | none =>
    have hv : Hid (r = none) := hr.symm.trans (M.read_of_recov_none ho)
    clear hr ho
    go_enter Tryd.func15, Tryd.ntmps15
    go_wp2_with (go_at_call 16; refine (impl_RecoverBars _ _ hL).mono ?_; rw [HO.out, M.ans_none]; rintro e w1 ⟨rfl, k1⟩)
    go_ret2
    exact ⟨ret_no hv.out, k1⟩
  | some c =>
    have hc := M.recov_code ho
    have HC := Lib.hid hc
    by_cases he : M.barsOf c = b
    · have hv : Hid (r = some c) := hr.symm.trans (M.read_of_recov_eq ho he)
      have HE := Lib.hid he
      have hee : (b.toList == b.toList) = true := by simp
      clear hr ho hc he
      go_enter Tryd.func15, Tryd.ntmps15
      go_wp2_with (first
        | (go_at_call 16; refine (impl_RecoverBars _ _ hL).mono ?_; rw [HO.out, M.ans_some]; rintro e w1 ⟨rfl, k1⟩)
        | (go_at_call 12; refine (impl_BarsOf_yes _ _ (hL.below k1).1 HC.out).mono ?_; rw [HE.out]; rintro e w2 ⟨rfl, k2⟩))
      go_ret2
      exact ⟨ret_ans hv.out rfl, stepR k1 k2⟩
    · have hv : Hid (r = none) := hr.symm.trans (M.read_of_recov_ne ho he)
      have hee := neq_list he
      clear hr ho hc he
      go_enter Tryd.func15, Tryd.ntmps15
      go_wp2_with (first
        | (go_at_call 16; refine (impl_RecoverBars _ _ hL).mono ?_; rw [HO.out, M.ans_some]; rintro e w1 ⟨rfl, k1⟩)
        | (go_at_call 12; refine (impl_BarsOf_yes _ _ (hL.below k1).1 HC.out).mono ?_; rintro e w2 ⟨rfl, k2⟩))
      go_ret2
      exact ⟨ret_no hv.out, stepR k1 k2⟩

set_option maxHeartbeats 2000000 in
theorem spec_ReadBars (b : ByteArray) (w : World) :
    Calls Tryd.prog 19 #[.string b] w fun e w' => e = .returned (M.ans (M.readB b)) ∧ Below w.heap.size w w' := by
  obtain ⟨r, hr⟩ : ∃ r, M.readB b = r := ⟨_, rfl⟩
  have HR := Lib.hid hr
  rw [hr]
  clear hr
  by_cases h42 : b.size = 42
  · have hl : ((b.size : Int) == 42) = true := by simp; omega
    have hl2 : ((b.size : Int) != 42) = false := by simp; omega
    have hq : (42 : Int) ≤ (b.size : Int) := by omega
    obtain ⟨g, hg⟩ : ∃ g : Nat → Int, ∀ i, M.G b i = g i := ⟨M.G b, fun _ => rfl⟩
    obtain ⟨st, hst⟩ : ∃ st : Nat → ByteArray, ∀ i, M.str (M.val b) i = st i := ⟨_, fun _ => rfl⟩
    have HG := Lib.hid hg
    have HT := Lib.hid hst
    have HSZ : Hid (∀ i, (st i).size = i) := fun i => by rw [← hst]; exact M.str_size _ _
    have HT0 : Hid (st 0 = ⟨#[]⟩) := by unfold Hid; rw [← hst]; rfl
    clear h42 hg hst
    go_enter Tryd.func19, Tryd.ntmps19
    go_wp2
    go_loopw [4, 5] (fun s i wr => ∃ k : Nat, k ≤ 7 ∧ i = .int .i64 (1 + 5 * (k : Int)) ∧ s = .string (st k) ∧ Below w.heap.size w wr) (fun _ i _ => 40 - (intOf i).toNat)
    case atStart => exact ⟨0, by omega, rfl, by rw [HT0.out], Below.refl _ _⟩
    case round =>
      obtain ⟨k, hk, rfl, rfl, hb⟩ := hrel
      have hz := hb.size
      by_cases hlt : k < 7
      · have hgb := M.G_bd b k
        rw [HG.out] at hgb
        obtain ⟨g0, g1⟩ := hgb
        have q3 : (1 : Int) + 5 * (k : Int) < 36 := by omega
        have q0 : (0 : Int) ≤ 1 + 5 * (k : Int) := by omega
        have q1 : (1 : Int) + 5 * (k : Int) + 5 ≤ (b.size : Int) := by omega
        have q2 : (1 : Int) + 5 * (k : Int) ≤ 1 + 5 * (k : Int) + 5 := by omega
        have t1 : ((1 : Int) + 5 * (k : Int)).toNat = 1 + 5 * k := by omega
        have t2 : ((1 : Int) + 5 * (k : Int) + 5).toNat = 6 + 5 * k := by omega
        have hsz : (st k).size ≤ 8 := by rw [HSZ.out]; omega
        by_cases hg : g k < 0
        · have hv : Hid (r = none) := HR.out.symm.trans (M.read_lost (i := k) (by omega) (by rw [HG.out]; exact hg))
          go_wp2_with (go_at_call 44; refine (spec_BarsDigit _ _).mono ?_; rw [show M.barDigit (b.extract (1 + 5 * k) (6 + 5 * k)) = g k from HG.out k]; rintro e w1 ⟨rfl, hb1⟩)
          go_ret2
          exact ⟨ret_no hv.out, stepR hb hb1⟩
        · have hgl : 0 ≤ M.G b k := by rw [HG.out]; omega
          have HS : Hid (st (k + 1) = st k ++ M.dig (g k)) := by unfold Hid; rw [← HT.out, ← HT.out, M.str_succ, M.val_ok hgl, HG.out]
          have hd1 := M.dig_size (g k)
          clear hgl
          go_wp2_with (first
            | (go_at_call 44; refine (spec_BarsDigit _ _).mono ?_; rw [show M.barDigit (b.extract (1 + 5 * k) (6 + 5 * k)) = g k from HG.out k]; rintro e w1 ⟨rfl, hb1⟩)
            | (go_at_call 45; refine (spec_l9Dec _ _ (by omega) (by omega)).mono ?_; rintro e w2 ⟨rfl, hb2⟩))
          go_roundw
          case rel => exact ⟨k + 1, by omega, by refine congrArg (Value.int .i64) ?_; omega, by rw [HS.out], stepR (stepR hb hb1) hb2⟩
          case measure => simp [intOf]; omega
      · obtain rfl : k = 7 := by omega
        have HC : Hid (M.code (st 7) = true) := by unfold Hid; rw [← HT.out]; exact M.cand_code b
        have hcand : Hid (M.cand b = st 7) := HT.out 7
        by_cases he : M.barsOf (st 7) = b
        · have hv : Hid (r = some (st 7)) := by unfold Hid; rw [← HR.out, ← hcand.out]; exact M.read_cand_eq (by rw [hcand.out]; exact he)
          have HE := Lib.hid he
          have hee : (b.toList == b.toList) = true := by simp
          clear he
          go_wp2_with (go_at_call 13; refine (spec_BarsOf_yes _ _ HC.out).mono ?_; rw [HE.out]; rintro e w2 ⟨rfl, k2⟩)
          go_ret2
          exact ⟨ret_ans hv.out rfl, stepR hb k2⟩
        · have hv : Hid (r = none) := by unfold Hid; rw [← HR.out]; exact M.read_cand_ne (by rw [hcand.out]; exact he)
          have hee := neq_list he
          clear he
          go_wp2_with (go_at_call 13; refine (spec_BarsOf_yes _ _ HC.out).mono ?_; rintro e w2 ⟨rfl, k2⟩)
          go_ret2
          exact ⟨ret_no hv.out, stepR hb k2⟩
  · have hv : Hid (r = none) := HR.out.symm.trans (M.read_size h42)
    have hl : ((b.size : Int) == 42) = false := by simp; omega
    clear h42
    go_enter Tryd.func19, Tryd.ntmps19
    go_wp2
    go_ret2
    exact ⟨ret_no hv.out, Below.refl _ _⟩
end Go.Proofs.YthpdcilffbffoaaDoor
