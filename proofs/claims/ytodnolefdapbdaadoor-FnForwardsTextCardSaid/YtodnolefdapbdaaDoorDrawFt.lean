/-
  Drawn texts of orders.
-/
import Derived.Test.YtodnolefdapbdaaDoorDrawFo
import Derived.Test.YtodnolefdapbdaaDoorDrawH
import Derived.Test.YtodnolefdapbdaaDoorFwdRt
import Derived.Deep.RegionWith
namespace Go.Proofs.YtodnolefdapbdaaDoor
open Go.RowKit
open Go.PlainAid (bt get_bt bt_nonneg bt_le)
set_option linter.unusedVariables false

set_option maxHeartbeats 4000000 in
set_option maxRecDepth 100000 in
theorem DrawParseForwards_any (a : Option Addr) (l k : Nat) (z : List Int) (w : World) (h : IsRow .u8 w a l k z) :
    Calls Tryd.prog 11 #[.slice a l k] w (StrTwoK w) := by
  go_enter Tryd.func11, Tryd.ntmps11
  go_wp2_with fail
  refine (open_any a l k z w h).mono ?_
  rintro e w1 ⟨r, rfl, rd1, b1, hwr⟩
  have hr1 := rd1.lt
  have B1 := Lib.hid b1
  have RD1 := Lib.hid rd1
  clear b1 rd1 h
  go_wp2_with fail
  refine (l4Some_ok _ r _ RD1.out (by omega)).mono ?_
  rintro e w2 ⟨v1, L1, rfl, R1, l1, ok1, sg2⟩
  obtain ⟨a1, c1, rfl, _, lt1⟩ := R1.form
  have hb1 := ok1.fwd l1
  obtain ⟨t1, t2⟩ := fwd_text_size hb1
  have HF := Lib.hid (show FFits L1.length (nF L1) (nT L1) from fun i hi => by
    obtain ⟨g1, g2, _⟩ := (M.fwd_yes hb1).2 i hi
    have := (M.code_yes g1).2
    have := (M.code_yes g2).2
    exact ⟨by unfold maxLen; omega, by unfold maxLen; omega⟩)
  have LT := Lib.hid lt1
  have SG2 := Lib.hid ((Sg.start RD1.out).trans sg2)
  clear R1 lt1 ok1 sg2 hb1
  go_wp2_with fail
  refine (spec_FormatForwards _ a1 L1.length c1 (nF L1) (nT L1) LT.out HF.out (by omega)).mono ?_
  generalize M.fwdText L1.length (nF L1) (nT L1) = t at t1 t2
  rintro e w3 ⟨rfl, b3⟩
  have SG3 := Lib.hid (SG2.out.below b3)
  clear b3 SG2 LT HF
  go_wp2_with fail
  refine (pick_sg _ _ _ r _ SG3.out (by omega) (by omega) (by omega)).mono ?_
  rintro e w5 ⟨q, rfl, q0, q1, sg5⟩
  have SG5 := Lib.hid sg5
  clear sg5 SG3
  cases hv : (q == 0)
  · go_wp2_with fail
    refine (pick_sg _ _ _ r _ SG5.out (by omega) (by omega) (by omega)).mono ?_
    rintro e w7 ⟨x, rfl, x0, x1, sg7⟩
    have SG7 := Lib.hid sg7
    have hr := sg7.1.lt
    clear sg7 SG5
    obtain ⟨j, rfl⟩ := Int.eq_ofNat_of_zero_le x0
    have hjl : j < t.size := by omega
    have ht0 : ¬ (t.size : Int) = 0 := by omega
    have ht1 : ¬ t.size = 0 := by omega
    have q1 : (j : Int) ≤ (t.size : Int) := by omega
    go_wp2
    go_region_with (first | (go_at_call 32; refine (of_sg w1 [⟨#[]⟩, ⟨#[48]⟩, ⟨#[32]⟩, ⟨#[62]⟩, ⟨#[45]⟩, ⟨#[120]⟩] w7.heap.size _ r _ ((SG7.out.alloc _).drew) (by omega) (by decide) (by decide) (by omega) (cells_str [⟨#[]⟩, ⟨#[48]⟩, ⟨#[32]⟩, ⟨#[62]⟩, ⟨#[45]⟩, ⟨#[120]⟩] _ w7)).mono ?_; rintro e w8 ⟨s, rfl, hs, st7⟩; have hz1 := (show ∀ x ∈ [(⟨#[]⟩ : ByteArray), ⟨#[48]⟩, ⟨#[32]⟩, ⟨#[62]⟩, ⟨#[45]⟩, ⟨#[120]⟩], x.size ≤ 1 from by decide) s hs; clear hs) | (go_at_call 31; refine (pick_sg w1 _ _ r _ st7 (by omega) (by omega) (by omega)).mono ?_; rintro e w9 ⟨n, rfl, n0, n1, st8⟩; obtain ⟨n, rfl⟩ := Int.eq_ofNat_of_zero_le n0; have q3 : (0 : Int) ≤ (j : Int) + (n : Int) := (by omega); have q4 : (j : Int) + (n : Int) ≤ (t.size : Int) := (by omega); have sj : IntKind.i64.wrap ((j : Int) + (n : Int)) = (j : Int) + (n : Int) := IntWalk.i64_in _ (by omega); have tj : ((j : Int) + (n : Int)).toNat = j + n := (by omega)))
    all_goals
      go_wp2
      go_ret
      exact ⟨_, rfl, by simp only [ByteArray.size_append, ByteArray.size_extract]; omega, B1.out.trans ((st8.below_r hr1).mono hwr)⟩
  · go_wp2
    go_ret
    exact ⟨_, rfl, by omega, B1.out.trans ((SG5.out.below_r hr1).mono hwr)⟩
end Go.Proofs.YtodnolefdapbdaaDoor
