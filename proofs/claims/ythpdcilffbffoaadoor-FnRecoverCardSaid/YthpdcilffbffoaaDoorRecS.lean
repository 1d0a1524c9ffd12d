/-
  What RecoverBars returns in the model of the document.
-/
import Derived.Test.YthpdcilffbffoaaDoorRec
import Derived.Test.YthpdcilffbffoaaDoorDec
import Derived.IntWalk
namespace Go.Proofs.YthpdcilffbffoaaDoor
open Go.RowKit
open Go.PlainAid (bt get_bt bt_nonneg bt_le)

theorem valid_str {f : Nat → Int} (h : ∀ i, 0 ≤ f i ∧ f i ≤ 9) : M.checkValid (M.str f 8) = decide (M.vsum f 8 % 10 = 0) := by
  rw [M.checkValid_yes (M.digs_str h (by omega)) (by rw [M.str_size]; omega), M.sum_str h]
theorem digit_str {f : Nat → Int} (h : ∀ i, 0 ≤ f i ∧ f i ≤ 9) : M.checkDigit (M.str f 8) = (10 - M.vsum f 8 % 10) % 10 := by
  rw [M.checkDigit_yes (M.digs_str h (by omega)), M.sum_str h]

set_option maxHeartbeats 2000000 in
theorem spec_RecoverBars (b : ByteArray) (w : World) :
    Calls Tryd.prog 25 #[.string b] w fun e w' => e = .returned (M.ans (M.recov b)) ∧ Below w.heap.size w w' := by
  obtain ⟨o, ho⟩ : ∃ o, M.recov b = o := ⟨_, rfl⟩
  have HO := Lib.hid ho
  rw [ho]
  clear ho
  by_cases h42 : b.size = 42
  · have H42 := Lib.hid h42
    have hl : ((b.size : Int) == 42) = true := by simp; omega
    have hl2 : ((b.size : Int) != 42) = false := by simp; omega
    have hq : (42 : Int) ≤ (b.size : Int) := by omega
    obtain ⟨g, hg⟩ : ∃ g : Nat → Int, ∀ i, M.G b i = g i := ⟨M.G b, fun _ => rfl⟩
    obtain ⟨st, hst⟩ : ∃ st : Nat → ByteArray, ∀ i, M.str (M.val b) i = st i := ⟨_, fun _ => rfl⟩
    have HG := Lib.hid hg
    have HT := Lib.hid hst
    have HSZ : Hid (∀ i, (st i).size = i) := fun i => by rw [← hst]; exact M.str_size _ _
    have HT0 : Hid (st 0 = ⟨#[]⟩) := by unfold Hid; rw [← hst]; rfl
    clear h42 hg hst
    go_enter Tryd.func25, Tryd.ntmps25
    go_wp2
    go_loopw [4, 5, 6] (fun s u i wr => ∃ (k : Nat) (y : Int), k ≤ 8 ∧ i = .int .i64 k ∧ s = .string (st k) ∧ u = .int .i64 y ∧ Hid (M.Lost b k y) ∧ Below w.heap.size w wr) (fun _ _ i _ => 8 - (intOf i).toNat)
    case atStart => exact ⟨0, -1, by omega, rfl, by rw [HT0.out], rfl, M.Lost.zero b, Below.refl _ _⟩
    case round =>
      obtain ⟨k, y, hk, rfl, rfl, rfl, hlo, hb⟩ := hrel
      have hz := hb.size
      obtain ⟨y0, y1⟩ := hlo.out.bd
      by_cases hlt : k < 8
      · have hgb := M.G_bd b k
        rw [HG.out] at hgb
        obtain ⟨g0, g1⟩ := hgb
        have q0 : (0 : Int) ≤ 1 + 5 * (k : Int) := by omega
        have q1 : (6 : Int) + 5 * (k : Int) ≤ (b.size : Int) := by omega
        have q2 : (1 : Int) + 5 * (k : Int) ≤ 6 + 5 * (k : Int) := by omega
        have t1 : ((1 : Int) + 5 * (k : Int)).toNat = 1 + 5 * k := by omega
        have t2 : ((6 : Int) + 5 * (k : Int)).toNat = 6 + 5 * k := by omega
        have hsz : (st k).size ≤ 8 := by rw [HSZ.out]; omega
        by_cases hg : g k < 0
        · have hgl : M.G b k < 0 := by rw [HG.out]; exact hg
          have HS : Hid (st (k + 1) = st k ++ M.dig 0) := by unfold Hid; rw [← HT.out, ← HT.out, M.str_succ, M.val_lost hgl]
          by_cases hy : 0 ≤ y
          · have hv := Lib.hid (hlo.out.second hy hgl hlt H42.out)
            clear hgl
            go_wp2_with (go_at_call 44; refine (spec_BarsDigit _ _).mono ?_; rw [show M.barDigit (b.extract (1 + 5 * k) (6 + 5 * k)) = g k from HG.out k]; rintro e w1 ⟨rfl, hb1⟩)
            go_ret2
            exact ⟨ret_no (HO.out.symm.trans hv.out), stepR hb hb1⟩
          · have hl' := Lib.hid (hlo.out.first (by omega) hgl)
            have hd1 := M.dig_size 0
            clear hgl
            go_wp2_with (first
              | (go_at_call 44; refine (spec_BarsDigit _ _).mono ?_; rw [show M.barDigit (b.extract (1 + 5 * k) (6 + 5 * k)) = g k from HG.out k]; rintro e w1 ⟨rfl, hb1⟩)
              | (go_at_call 45; refine (spec_l9Dec _ _ (by omega) (by omega)).mono ?_; rintro e w2 ⟨rfl, hb2⟩))
            go_roundw
            case rel => first | exact ⟨k + 1, k, by omega, by go_num, by rw [HS.out], rfl, hl', stepR (stepR hb hb1) hb2⟩ | ((repeat apply Exists.intro); exact ⟨⟨k + 1, k, by omega, by go_num, by rw [HS.out], rfl, hl', stepR (stepR hb hb1) hb2⟩, rfl⟩)
            case measure => simp [intOf]; omega
        · have hgl : 0 ≤ M.G b k := by rw [HG.out]; omega
          have HS : Hid (st (k + 1) = st k ++ M.dig (g k)) := by unfold Hid; rw [← HT.out, ← HT.out, M.str_succ, M.val_ok hgl, HG.out]
          have hl' := Lib.hid (hlo.out.keep hgl)
          have hd1 := M.dig_size (g k)
          clear hgl
          go_wp2_with (first
            | (go_at_call 44; refine (spec_BarsDigit _ _).mono ?_; rw [show M.barDigit (b.extract (1 + 5 * k) (6 + 5 * k)) = g k from HG.out k]; rintro e w1 ⟨rfl, hb1⟩)
            | (go_at_call 45; refine (spec_l9Dec _ _ (by omega) (by omega)).mono ?_; rintro e w2 ⟨rfl, hb2⟩))
          go_roundw
          case rel => first | exact ⟨k + 1, y, by omega, by go_num, by rw [HS.out], rfl, hl', stepR (stepR hb hb1) hb2⟩ | ((repeat apply Exists.intro); exact ⟨⟨k + 1, y, by omega, by go_num, by rw [HS.out], rfl, hl', stepR (stepR hb hb1) hb2⟩, rfl⟩)
          case measure => simp [intOf]; omega
      · obtain rfl : k = 8 := by omega
        obtain ⟨s, hs⟩ : ∃ s, M.vsum (M.val b) 8 = s := ⟨_, rfl⟩
        have HS := Lib.hid hs
        have hbd := M.vsum_bd (M.val_bd b) 8
        rw [hs] at hbd
        clear hs
        have h8 := hlo.out
        cases h8 with
        | no h =>
          have hcv : Hid (M.checkValid (st 8) = decide (s % 10 = 0)) := by unfold Hid; rw [← HT.out, valid_str (M.val_bd b), HS.out]
          have hcut : Hid ((st 8).extract 0 7 = st 7) := by unfold Hid; rw [← HT.out, ← HT.out]; exact M.str_cut _ (by omega)
          have hsz : (st 8).size ≤ maxLen := by rw [HSZ.out]; unfold maxLen; omega
          have hsz7 : (7 : Int) ≤ ((st 8).size : Int) := by rw [HSZ.out]; omega
          by_cases hz0 : s % 10 = 0
          · have hv : Hid (o = some (st 7)) := by unfold Hid; rw [← HO.out, M.recov_all H42.out h (by rw [HS.out]; exact hz0), HT.out]
            have hcv' : Hid (M.checkValid (st 8) = true) := by unfold Hid; rw [hcv.out]; exact decide_eq_true hz0
            clear h hz0
            go_wp2_with (go_at_call 46; refine (spec_CheckValid _ _ hsz).mono ?_; rw [hcv'.out]; rintro e w1 ⟨rfl, rfl⟩)
            go_ret2
            exact ⟨ret_ans hv.out hcut.out, hb⟩
          · have hv : Hid (o = none) := by unfold Hid; rw [← HO.out, M.recov_bad H42.out h (by rw [HS.out]; exact hz0)]
            have hcv' : Hid (M.checkValid (st 8) = false) := by unfold Hid; rw [hcv.out]; exact decide_eq_false hz0
            clear h hz0
            go_wp2_with (go_at_call 46; refine (spec_CheckValid _ _ hsz).mono ?_; rw [hcv'.out]; rintro e w1 ⟨rfl, rfl⟩)
            go_ret2
            exact ⟨ret_no hv.out, hb⟩
        | at_ u hu hlu h =>
          obtain ⟨m, hm⟩ : ∃ m : Int, (10 - s % 10) % 10 = m := ⟨_, rfl⟩
          have m0 : 0 ≤ m ∧ m ≤ 9 := by omega
          have hms : (s + m) % 10 = 0 := by omega
          have hfu : M.val b u = 0 := M.val_lost hlu
          have hub := M.upd_bd (M.val_bd b) (u := u) m0.1 m0.2
          have hcd : Hid (M.checkDigit (st 8) = m) := by unfold Hid; rw [← HT.out, digit_str (M.val_bd b), HS.out, hm]
          have hv : Hid (o = some (M.str (M.upd (M.val b) u m) 7)) := by unfold Hid; rw [← HO.out, M.recov_one H42.out hu hlu h, HS.out]; unfold M.miss; rw [hm]
          have HE : Hid ((st 8).extract 0 u ++ M.dig m ++ (st 8).extract (u + 1) (st 8).size = M.str (M.upd (M.val b) u m) 8) := by
            unfold Hid; rw [HSZ.out, ← HT.out]; exact M.str_upd _ _ hu
          have hcv : Hid (M.checkValid (M.str (M.upd (M.val b) u m) 8) = true) := by
            unfold Hid; rw [valid_str hub, M.vsum_upd hfu, if_pos hu, HS.out]; exact decide_eq_true hms
          have hcut : Hid ((M.str (M.upd (M.val b) u m) 8).extract 0 7 = M.str (M.upd (M.val b) u m) 7) := M.str_cut _ (by omega)
          have hs8 := M.str_size (M.upd (M.val b) u m) 8
          have hsz : (st 8).size ≤ maxLen := by rw [HSZ.out]; unfold maxLen; omega
          have hszu : (u : Int) + 1 ≤ ((st 8).size : Int) := by rw [HSZ.out]; omega
          have hszv : (u : Int) ≤ ((st 8).size : Int) := by omega
          have hszw : (st 8).size ≤ 8 := by rw [HSZ.out]; exact Nat.le_refl 8
          generalize M.str (M.upd (M.val b) u m) 8 = S8 at *
          generalize M.str (M.upd (M.val b) u m) 7 = S7 at *
          have h7 : (7 : Int) ≤ (S8.size : Int) := by omega
          have hsm : S8.size ≤ maxLen := by unfold maxLen; omega
          have tu : ((u : Int) + 1).toNat = u + 1 := by omega
          have hd1 := M.dig_size m
          have wu : IntKind.i64.wrap ((u : Int) + 1) = (u : Int) + 1 := IntWalk.i64_in _ (by omega)
          have pu : (0 : Int) ≤ (u : Int) + 1 := by omega
          clear h hm hms hfu hub hs8 hlu
          go_wp2
          go_region_with (first
            | (go_at_call 33; refine (spec_CheckDigit _ _ hsz).mono ?_; rw [hcd.out]; rintro e w1 ⟨rfl, rfl⟩)
            | (go_at_call 45; refine (spec_l9Dec _ _ m0.1 m0.2).mono ?_; rintro e w2 ⟨rfl, hb2⟩))
          all_goals
            rw [HE.out]
            go_wp2_with (go_at_call 46; refine (spec_CheckValid _ _ hsm).mono ?_; rw [hcv.out]; rintro e w3 ⟨rfl, rfl⟩)
            go_ret2
            exact ⟨ret_ans hv.out hcut.out, stepR (by go_grown) hb2⟩
  · have hv := Lib.hid (M.recov_size h42)
    have hl : ((b.size : Int) == 42) = false := by simp; omega
    clear h42
    go_enter Tryd.func25, Tryd.ntmps25
    go_wp2
    go_ret2
    exact ⟨ret_no (HO.out.symm.trans hv.out), Below.refl _ _⟩
end Go.Proofs.YthpdcilffbffoaaDoor
