/-
  What RecoverBars returns, in the program and in the model of the document.
-/
import Derived.Test.YthpdcilffbffoaaDoorRecM
import Derived.Test.YthpdcilffbffoaaDoorBarsOf
import Derived.Test.YthpdcilffbffoaaDoorLaidB
import Derived.Test.YthpdcilffbffoaaDoorByte
import Derived.Test.YthpdcilffbffoaaDoorShelf
import Derived.Deep.OwnRows
import Derived.Deep.RegionWith
import Derived.Handy
namespace Go.Proofs.YthpdcilffbffoaaDoor
open Go.RowKit
open Go.PlainAid (bt get_bt bt_nonneg bt_le)

theorem lt8 {p : Nat → Prop} (h0 : p 0) (h1 : p 1) (h2 : p 2) (h3 : p 3) (h4 : p 4) (h5 : p 5) (h6 : p 6) (h7 : p 7) : ∀ i, i < 8 → p i := by
  intro i hi
  have hk : i = 0 ∨ i = 1 ∨ i = 2 ∨ i = 3 ∨ i = 4 ∨ i = 5 ∨ i = 6 ∨ i = 7 := by omega
  rcases hk with rfl | rfl | rfl | rfl | rfl | rfl | rfl | rfl <;> assumption
theorem zeros8 (w : World) (T : TypeId) : (w.alloc (.cells #[.int .i64 0, .int .i64 0, .int .i64 0, .int .i64 0, .int .i64 0, .int .i64 0, .int .i64 0, .int .i64 0] T)).rowIs w.heap.size T 8 (fun _ => .int .i64 0) :=
  World.rowIs_alloc w _ T (fun _ => .int .i64 0) (lt8 rfl rfl rfl rfl rfl rfl rfl rfl)

theorem itoa_digit (d : Int) (w : World) (d0 : 0 ≤ d) (d9 : d ≤ 9) :
    Calls Tryd.prog 51 #[.int .i64 d] w fun e w' => e = .returned (.string (M.dig d)) ∧ w = w' := by
  obtain ⟨n, rfl⟩ := Int.eq_ofNat_of_zero_le d0
  refine (Tryd.strconv_Itoa_small n (by omega) w).mono fun e w' h => ⟨h.1.trans (congrArg (fun s => Ending.returned (.string s)) ?_), h.2.symm⟩
  rw [Lib.decDigits_one (by omega)]
  unfold M.dig
  rw [show ((48 : Int) + (n : Int)).toNat = 48 + n from by omega]

set_option maxHeartbeats 1000000 in
theorem impl_readGroups (b : ByteArray) (g : Nat → Int) (HG : ∀ i, M.G b i = g i) (w : World) (hb : b.size = 42) (hL : Laid.both w) :
    Calls Tryd.prog 35 #[.string b] w fun e w' => e = .returned (.agg #[.int .i64 (g 0), .int .i64 (g 1), .int .i64 (g 2), .int .i64 (g 3), .int .i64 (g 4), .int .i64 (g 5), .int .i64 (g 6), .int .i64 (g 7)]) ∧ Below w.heap.size w w' := by
  have HL := Lib.hid hL
  have H42 := Lib.hid hb
  have q0 : (6 : Int) ≤ (b.size : Int) := by omega
  have q1 : (11 : Int) ≤ (b.size : Int) := by omega
  have q2 : (16 : Int) ≤ (b.size : Int) := by omega
  have q3 : (21 : Int) ≤ (b.size : Int) := by omega
  have q4 : (26 : Int) ≤ (b.size : Int) := by omega
  have q5 : (31 : Int) ≤ (b.size : Int) := by omega
  have q6 : (36 : Int) ≤ (b.size : Int) := by omega
  have q7 : (41 : Int) ≤ (b.size : Int) := by omega
  clear hb hL
  go_enter Tryd.func35, Tryd.ntmps35
  have HE := Lib.hid (show (.agg #[.int .i64 (g 0), .int .i64 (g 1), .int .i64 (g 2), .int .i64 (g 3), .int .i64 (g 4), .int .i64 (g 5), .int .i64 (g 6), .int .i64 (g 7)] : Value) = .agg #[.int .i64 (M.barDigit (b.extract 1 6)), .int .i64 (M.barDigit (b.extract 6 11)), .int .i64 (M.barDigit (b.extract 11 16)), .int .i64 (M.barDigit (b.extract 16 21)), .int .i64 (M.barDigit (b.extract 21 26)), .int .i64 (M.barDigit (b.extract 26 31)), .int .i64 (M.barDigit (b.extract 31 36)), .int .i64 (M.barDigit (b.extract 36 41))] from by rw [← HG, ← HG, ← HG, ← HG, ← HG, ← HG, ← HG, ← HG]; rfl)
  rw [HE.out]
  clear HG
  go_wp2
  refine wp_loop_rounds 9 ?_
  repeat any_goals (rw [rounds_succ]; go_wp2_with (go_at_call 26; refine (impl_BarsDigit _ _ (HL.out.2.below (by go_grown))).mono ?_; rintro e w' ⟨rfl, rfl⟩))
  go_returns
  exact ⟨rfl, by go_grown⟩

set_option maxHeartbeats 1000000 in
theorem impl_codeOfDigits (d0 d1 d2 d3 d4 d5 d6 d7 : Int) (w : World) (h0 : 0 ≤ d0 ∧ d0 ≤ 9) (h1 : 0 ≤ d1 ∧ d1 ≤ 9) (h2 : 0 ≤ d2 ∧ d2 ≤ 9) (h3 : 0 ≤ d3 ∧ d3 ≤ 9) (h4 : 0 ≤ d4 ∧ d4 ≤ 9) (h5 : 0 ≤ d5 ∧ d5 ≤ 9) (h6 : 0 ≤ d6 ∧ d6 ≤ 9) :
    Calls Tryd.prog 37 #[.agg #[.int .i64 d0, .int .i64 d1, .int .i64 d2, .int .i64 d3, .int .i64 d4, .int .i64 d5, .int .i64 d6, .int .i64 d7]] w fun e w' => e = .returned (.string (M.ofInts [48 + d0, 48 + d1, 48 + d2, 48 + d3, 48 + d4, 48 + d5, 48 + d6])) ∧ Below w.heap.size w w' := by
  have hz := M.dig_size
  go_enter Tryd.func37, Tryd.ntmps37
  go_wp2
  refine wp_loop_rounds 8 ?_
  repeat any_goals (rw [rounds_succ]; go_wp2_with (go_at_call 51; refine (itoa_digit _ _ (by omega) (by omega)).mono ?_; rintro e w' ⟨rfl, rfl⟩))
  go_ret
  refine ⟨?_, by go_grown⟩
  simp only [M.dig_ofInts]
  rfl

theorem eight_at (x0 x1 x2 x3 x4 x5 x6 x7 : Int) (w : World) (f : Nat → Int) (h0 : f 0 = x0) (h1 : f 1 = x1) (h2 : f 2 = x2) (h3 : f 3 = x3) (h4 : f 4 = x4) (h5 : f 5 = x5) (h6 : f 6 = x6) (h7 : f 7 = x7) (k : Nat) (hk : k < 8) :
    (Instr.index 36 (.agg #[.int .i64 x0, .int .i64 x1, .int .i64 x2, .int .i64 x3, .int .i64 x4, .int .i64 x5, .int .i64 x6, .int .i64 x7]) (.int .i64 (k : Int))).run Tryd.prog w = .ok (.int .i64 (f k)) w := by
  have hk' : k = 0 ∨ k = 1 ∨ k = 2 ∨ k = 3 ∨ k = 4 ∨ k = 5 ∨ k = 6 ∨ k = 7 := by omega
  rcases hk' with rfl | rfl | rfl | rfl | rfl | rfl | rfl | rfl
  · rw [h0]; exact (show (Instr.index 36 (.agg #[.int .i64 x0, .int .i64 x1, .int .i64 x2, .int .i64 x3, .int .i64 x4, .int .i64 x5, .int .i64 x6, .int .i64 x7]) (.int .i64 0)).run Tryd.prog w = .ok (.int .i64 x0) w by kernel_rfl)
  · rw [h1]; exact (show (Instr.index 36 (.agg #[.int .i64 x0, .int .i64 x1, .int .i64 x2, .int .i64 x3, .int .i64 x4, .int .i64 x5, .int .i64 x6, .int .i64 x7]) (.int .i64 1)).run Tryd.prog w = .ok (.int .i64 x1) w by kernel_rfl)
  · rw [h2]; exact (show (Instr.index 36 (.agg #[.int .i64 x0, .int .i64 x1, .int .i64 x2, .int .i64 x3, .int .i64 x4, .int .i64 x5, .int .i64 x6, .int .i64 x7]) (.int .i64 2)).run Tryd.prog w = .ok (.int .i64 x2) w by kernel_rfl)
  · rw [h3]; exact (show (Instr.index 36 (.agg #[.int .i64 x0, .int .i64 x1, .int .i64 x2, .int .i64 x3, .int .i64 x4, .int .i64 x5, .int .i64 x6, .int .i64 x7]) (.int .i64 3)).run Tryd.prog w = .ok (.int .i64 x3) w by kernel_rfl)
  · rw [h4]; exact (show (Instr.index 36 (.agg #[.int .i64 x0, .int .i64 x1, .int .i64 x2, .int .i64 x3, .int .i64 x4, .int .i64 x5, .int .i64 x6, .int .i64 x7]) (.int .i64 4)).run Tryd.prog w = .ok (.int .i64 x4) w by kernel_rfl)
  · rw [h5]; exact (show (Instr.index 36 (.agg #[.int .i64 x0, .int .i64 x1, .int .i64 x2, .int .i64 x3, .int .i64 x4, .int .i64 x5, .int .i64 x6, .int .i64 x7]) (.int .i64 5)).run Tryd.prog w = .ok (.int .i64 x5) w by kernel_rfl)
  · rw [h6]; exact (show (Instr.index 36 (.agg #[.int .i64 x0, .int .i64 x1, .int .i64 x2, .int .i64 x3, .int .i64 x4, .int .i64 x5, .int .i64 x6, .int .i64 x7]) (.int .i64 6)).run Tryd.prog w = .ok (.int .i64 x6) w by kernel_rfl)
  · rw [h7]; exact (show (Instr.index 36 (.agg #[.int .i64 x0, .int .i64 x1, .int .i64 x2, .int .i64 x3, .int .i64 x4, .int .i64 x5, .int .i64 x6, .int .i64 x7]) (.int .i64 7)).run Tryd.prog w = .ok (.int .i64 x7) w by kernel_rfl)
theorem stepR {w a b : World} (h : Below w.heap.size w a) (k : Below a.heap.size a b) : Below w.heap.size w b := h.trans (k.mono h.size)
theorem str7 (f : Nat → Int) : M.str f 7 = M.ofInts [48 + f 0, 48 + f 1, 48 + f 2, 48 + f 3, 48 + f 4, 48 + f 5, 48 + f 6] := rfl
theorem ret_ans {o : Option ByteArray} {s t : ByteArray} (h : o = some s) (e : t = s) : Ending.returned (.tuple #[.string t, .bool true]) = .returned (M.ans o) := by rw [h, e]; rfl
theorem ret_no {o : Option ByteArray} (h : o = none) : Ending.returned (.tuple #[.string ⟨#[]⟩, .bool false]) = .returned (M.ans o) := by rw [h]; rfl

set_option maxHeartbeats 2000000 in
theorem impl_RecoverBars (b : ByteArray) (w : World) (hL : Laid.read w) :
    Calls Tryd.prog 16 #[.string b] w fun e w' => e = .returned (M.ans (M.recov b)) ∧ Below w.heap.size w w' := by
  obtain ⟨o, ho⟩ : ∃ o, M.recov b = o := ⟨_, rfl⟩
  have HO := Lib.hid ho
  rw [ho]
  clear ho
  by_cases h42 : b.size = 42
  · have HL := Lib.hid hL
    have H42 := Lib.hid h42
    have hl : ((b.size : Int) == 42) = true := by simp; omega
    obtain ⟨g, hg⟩ : ∃ g : Nat → Int, ∀ i, M.G b i = g i := ⟨M.G b, fun _ => rfl⟩
    obtain ⟨f, hf⟩ : ∃ f : Nat → Int, ∀ i, M.vsum (M.val b) i = f i := ⟨_, fun _ => rfl⟩
    have HG := Lib.hid hg
    have HF := Lib.hid hf
    have hf0 : f 0 = 0 := by rw [← hf]; rfl
    have HF0 := Lib.hid hf0
    clear hL h42 hg hf hf0
    go_enter Tryd.func16, Tryd.ntmps16
    go_wp2_with (go_at_call 35; refine (impl_readGroups _ g HG.out _ H42.out HL.out.1).mono ?_; rintro e w1 ⟨rfl, hb1⟩)
    have hz1 := hb1.size
    generalize hA : Value.agg #[.int .i64 (g 0), .int .i64 (g 1), .int .i64 (g 2), .int .i64 (g 3), .int .i64 (g 4), .int .i64 (g 5), .int .i64 (g 6), .int .i64 (g 7)] = A
    have HX : Hid (∀ (W : World) (k : Nat), k < 8 → (Instr.index 36 A (.int .i64 (k : Int))).run Tryd.prog W = .ok (.int .i64 (g k)) W) := fun W k hk => by
      rw [← hA]
      exact eight_at _ _ _ _ _ _ _ _ W g rfl rfl rfl rfl rfl rfl rfl rfl k hk
    clear hA
    go_loop [5, 6, 16] (fun s u i => ∃ (k : Nat) (y : Int), k ≤ 8 ∧ i = .int .i64 k ∧ s = .int .i64 (f k) ∧ u = .int .i64 y ∧ Hid (M.Lost b k y)) (fun _ _ i => 8 - (intOf i).toNat)
    case atStart => exact ⟨0, -1, by omega, rfl, by rw [HF0.out], rfl, M.Lost.zero b⟩
    case round =>
      obtain ⟨k, y, hk, rfl, rfl, rfl, hlo⟩ := hrel
      have hvb := M.vsum_bd (M.val_bd b) k
      rw [HF.out] at hvb
      obtain ⟨v0, v1⟩ := hvb
      obtain ⟨y0, y1⟩ := hlo.out.bd
      by_cases hlt : k < 8
      · have hx := fun W => HX.out W k hlt
        have hgb := M.G_bd b k
        rw [HG.out] at hgb
        obtain ⟨g0, g1⟩ := hgb
        have HS : Hid (f (k + 1) = f k + M.val b k) := by unfold Hid; rw [← HF.out, ← HF.out]; exact M.vsum_succ _ _
        by_cases hg : g k < 0
        · have HV : Hid (M.val b k = 0) := M.val_lost (by rw [HG.out]; exact hg)
          have hgl : M.G b k < 0 := by rw [HG.out]; exact hg
          by_cases hy : 0 ≤ y
          · have hv := Lib.hid (hlo.out.second hy hgl hlt H42.out)
            clear hgl
            go_wp2
            go_ret2
            exact ⟨ret_no (HO.out.symm.trans hv.out), by go_grown⟩
          · have hl' := Lib.hid (hlo.out.first (by omega) hgl)
            clear hgl
            go_wp2
            go_round
            case rel => exact ⟨k + 1, k, by omega, by go_num, by refine congrArg (Value.int .i64) ?_; have h1 := HS.out; have h2 := HV.out; omega, rfl, hl'⟩
            case measure => simp [intOf]; omega
        · have hgl : 0 ≤ M.G b k := by rw [HG.out]; omega
          have HV : Hid (M.val b k = g k) := by unfold Hid; rw [M.val_ok hgl, HG.out]
          have hl' := Lib.hid (hlo.out.keep hgl)
          clear hgl
          go_wp2
          go_round
          case rel => exact ⟨k + 1, y, by omega, by go_num, by refine congrArg (Value.int .i64) ?_; have h1 := HS.out; have h2 := HV.out; omega, rfl, hl'⟩
          case measure => simp [intOf]; omega
      · obtain rfl : k = 8 := by omega
        obtain ⟨m, hm⟩ : ∃ m : Int, (10 - f 8 % 10) % 10 = m := ⟨_, rfl⟩
        have m0 : 0 ≤ m ∧ m ≤ 9 := by omega
        have HMM := Lib.hid hm
        clear hm
        have hb8 : ∀ i, i < 8 → g i ≤ 9 := fun i _ => by rw [← HG.out]; exact (M.G_bd b i).2
        have HF8 : Hid (M.vsum (M.val b) 8 = f 8) := HF.out 8
        have h8 := hlo.out
        cases h8 with
        | no h =>
          have hge : ∀ i, i < 8 → 0 ≤ g i ∧ g i ≤ 9 := fun i hi => ⟨by rw [← HG.out]; exact h i hi, hb8 i hi⟩
          have hvg : ∀ i, i < 8 → M.val b i = g i := fun i hi => by rw [M.val_ok (h i hi), HG.out]
          have HE : Hid (M.ofInts [48 + g 0, 48 + g 1, 48 + g 2, 48 + g 3, 48 + g 4, 48 + g 5, 48 + g 6] = M.str (M.val b) 7) := by
            unfold Hid
            rw [str7, hvg 0 (by omega), hvg 1 (by omega), hvg 2 (by omega), hvg 3 (by omega), hvg 4 (by omega), hvg 5 (by omega), hvg 6 (by omega)]
          have HH := Lib.hid h
          have HB := Lib.hid hge
          clear h hge hvg hb8
          by_cases hz : m = 0
          · subst hz
            have hv : Hid (o = some (M.str (M.val b) 7)) := HO.out.symm.trans (M.recov_all H42.out HH.out (by rw [HF8.out]; have := HMM.out; omega))
            go_wp2_with (first
              | (go_at_call 36; refine (impl_completing _ _ (HL.out.1.1.below (by go_grown)) v0 (by omega)).mono ?_; rw [HMM.out]; rintro e w2 ⟨rfl, rfl⟩)
              | (go_at_call 37; refine (impl_codeOfDigits _ _ _ _ _ _ _ _ _ (HB.out 0 (by omega)) (HB.out 1 (by omega)) (HB.out 2 (by omega)) (HB.out 3 (by omega)) (HB.out 4 (by omega)) (HB.out 5 (by omega)) (HB.out 6 (by omega))).mono ?_; rw [HE.out]; rintro e w3 ⟨rfl, hb3⟩))
            go_ret2
            exact ⟨ret_ans hv.out rfl, stepR (by go_grown) hb3⟩
          · have hv : Hid (o = none) := HO.out.symm.trans (M.recov_bad H42.out HH.out (by rw [HF8.out]; have := HMM.out; omega))
            have hz' : (m == 0) = false := by simpa using hz
            go_wp2_with (go_at_call 36; refine (impl_completing _ _ (HL.out.1.1.below (by go_grown)) v0 (by omega)).mono ?_; rw [HMM.out]; rintro e w2 ⟨rfl, rfl⟩)
            go_ret2
            exact ⟨ret_no hv.out, by go_grown⟩
        | at_ u hu hlu h =>
          have hge : ∀ i, i < 8 → i ≠ u → 0 ≤ g i ∧ g i ≤ 9 := fun i hi hne => ⟨by rw [← HG.out]; exact h i hi hne, hb8 i hi⟩
          have hvg : ∀ i, i < 8 → M.upd (M.val b) u m i = if i = u then m else g i := fun i hi => by
            unfold M.upd
            by_cases e : i = u
            · rw [if_pos e, if_pos e]
            · rw [if_neg e, if_neg e, M.val_ok (h i hi e), HG.out]
          have hv : Hid (o = some (M.str (M.upd (M.val b) u m) 7)) := HO.out.symm.trans (by rw [M.recov_one H42.out hu hlu h, HF8.out]; unfold M.miss; rw [HMM.out])
          have HE : Hid (M.str (M.upd (M.val b) u m) 7 = M.ofInts [48 + (if 0 = u then m else g 0), 48 + (if 1 = u then m else g 1), 48 + (if 2 = u then m else g 2), 48 + (if 3 = u then m else g 3), 48 + (if 4 = u then m else g 4), 48 + (if 5 = u then m else g 5), 48 + (if 6 = u then m else g 6)]) := by
            unfold Hid
            rw [str7, hvg 0 (by omega), hvg 1 (by omega), hvg 2 (by omega), hvg 3 (by omega), hvg 4 (by omega), hvg 5 (by omega), hvg 6 (by omega)]
          have HB : Hid (∀ i x, i < 8 → (x = if i = u then m else g i) → 0 ≤ x ∧ x ≤ 9) := fun i x hi hx => by
            rw [hx]
            by_cases e : i = u
            · rw [if_pos e]; exact m0
            · rw [if_neg e]; exact hge i hi e
          clear h hge hvg hb8
          have hk' : u = 0 ∨ u = 1 ∨ u = 2 ∨ u = 3 ∨ u = 4 ∨ u = 5 ∨ u = 6 ∨ u = 7 := by omega
          clear hlo hlu
          rcases hk' with rfl | rfl | rfl | rfl | rfl | rfl | rfl | rfl
          all_goals
            go_wp2_with (first
              | (go_at_call 36; refine (impl_completing _ _ (HL.out.1.1.below (by go_grown)) v0 (by omega)).mono ?_; rw [HMM.out]; rintro e w2 ⟨rfl, rfl⟩)
              | (go_at_call 37; refine (impl_codeOfDigits _ _ _ _ _ _ _ _ _ (HB.out 0 _ (by omega) (by rfl)) (HB.out 1 _ (by omega) (by rfl)) (HB.out 2 _ (by omega) (by rfl)) (HB.out 3 _ (by omega) (by rfl)) (HB.out 4 _ (by omega) (by rfl)) (HB.out 5 _ (by omega) (by rfl)) (HB.out 6 _ (by omega) (by rfl))).mono ?_; rintro e w3 ⟨rfl, hb3⟩))
            go_ret2
            exact ⟨ret_ans hv.out (HE.out.trans (by rfl)).symm, stepR (by go_grown) hb3⟩
  · have hv := Lib.hid (M.recov_size h42)
    have hl : ((b.size : Int) == 42) = false := by simp; omega
    clear h42
    go_enter Tryd.func16, Tryd.ntmps16
    go_wp2
    go_ret2
    exact ⟨ret_no (HO.out.symm.trans hv.out), Below.refl _ _⟩
end Go.Proofs.YthpdcilffbffoaaDoor
