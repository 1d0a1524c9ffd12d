/-
  For every plan, slice of slices of letters and number, laws.FnExactRepairBins returns true: the program's RepairBins answers as the model of the document does, and its answer owns its memory. No condition but that the program's variable holds its error.
-/
import Derived.Test.YtmjgblhihpbbdaaDoorCards
import Derived.Test.YtmjgblhihpbbdaaDoorRepR
import Derived.Test.YtmjgblhihpbbdaaDoorMatL
import Derived.Test.YtmjgblhihpbbdaaDoorOpenB
import Derived.Test.YtmjgblhihpbbdaaDoorTie
import Derived.LaidMore
import Derived.Stop.Joined
import Derived.SevenTiedAt
import Derived.Lay
import Derived.WalkKit
import Derived.ProofKit
import Derived.OpenShut
import Derived.ShutString
import Derived.ChangeOld
import Derived.Below
import Derived.Handy
import Derived.Lib.Hide
import Derived.Lib.SmallJoins
namespace Go.Proofs.YtmjgblhihpbbdaaDoor.fnExactRepairBins
open Go.ChangeShapes Go.WideShapes Go.ChangeAt Go.RowKit
open Go.ChangeMaps (open_string shut_string)
open Go.PlainAid (bt get_bt bt_nonneg bt_le)
open Go.Joins
set_option linter.unusedVariables false

theorem own : ownKnob Tryd.prog.godebug = none := by kernel_rfl
theorem laidOut : laidOutB Tryd.prog = true := by kernel_rfl

set_option maxHeartbeats 4000000 in
set_option maxRecDepth 100000 in
theorem walk (w : World) (a0 b0 : Int) (A0 : Option Addr) (n0 k0 : Nat) (S0 : Nat → ByteArray) (w0 : Strs w A0 n0 S0) (f0 : SFits n0 S0) (z0 : n0 ≤ maxLen) (x0 : (Lit.int .i64 a0).wf = true) (y0 : (Lit.int .i64 b0).wf = true) (a1 : Option Addr) (n1 k1 : Nat) (MM1 : Nat → List (Int × ByteArray)) (w1 : Lss w a1 n1 MM1) (z1 : n1 ≤ maxLen) (a2 : Int) (w2 : (Lit.int .i64 a2).wf = true) (J : Addr) (hJ : Jam w J) :
    Calls Tryd.prog 3 #[.agg #[.int .i64 a0, .int .i64 b0, .slice A0 n0 k0], .slice a1 n1 k1, .int .i64 a2] w fun e w' => e = .returned (.bool true) ∧ Below w.heap.size w w' := by
  have HS := Lib.hid w0
  have HF := Lib.hid f0
  have HS1 := Lib.hid w1
  have ZL : n1 ≤ maxLen := z1
  have HJ := Lib.hid hJ
  clear w0 w1 z1 hJ
  go_enter Tryd.func3, Tryd.ntmps3
  go_wp2_with fail
  refine (szPlan_any _ a0 b0 A0 n0 k0 S0 (HS.out.on (below_alloc0 _ _)) HF.out z0 _ (by omega) (by omega)).mono ?_
  rintro e w1 ⟨r, rfl, hr, hr1, k1⟩
  have BA := Lib.hid ((tri_made w (.int .i64 a0) (.int .i64 b0) (.slice A0 n0 k0) 24).on k1)
  have hb1 : Below w.heap.size w w1 := sstep (below_alloc0 _ _) k1
  have lo_BA : Hid (∀ k, k = w.heap.size → w.heap.size ≤ k ∧ k < w1.heap.size) := fun k hk => ⟨by omega, by have := BA.out.lt; omega⟩
  clear k1
  by_cases hneg : r < 0
  · go_wp2
    go_ret
    exact ⟨rfl, hb1⟩
  have hn : n0 ≤ 1048576 := by omega
  clear hr z0
  have BL := Lib.hid hb1
  have z1 := BL.out.size
  obtain ⟨⟨d0BA, d1BA, d2BA⟩, g0BA, g1BA, g2BA⟩ := BA.out
  have ltBA := BA.out.lt
  go_wp2_with fail
  refine (szLetterSS_any _ a1 n1 k1 MM1 (HS1.out.on BL.out) ZL _ (by omega) (by omega)).mono ?_
  rintro e w2 ⟨r2, rfl, hr2, hr3, k2⟩
  clear d0BA d1BA d2BA g0BA g1BA g2BA ltBA
  have z2 := k2.size
  replace BL := Lib.hid (step BL.out k2)
  replace BA := Lib.hid (BA.out.on k2)
  clear k2
  by_cases hneg2 : r2 < 0
  · go_wp2
    go_ret
    exact ⟨rfl, BL.out⟩
  have HZ := Lib.hid (HS1.out.sz (by have := (hr2 (by omega)).1; omega) (by have := (hr2 (by omega)).2; omega))
  have hn1 : n1 ≤ 1048576 := HZ.out.1
  have HO := Lib.hid (fun i (hi : i < n1) => (HZ.out.one hi).1)
  have ht : tot MM1 n1 ≤ 1048576 := by rw [← tot_flat]; exact HZ.out.2.1
  clear hr2 hr3 hr1 ZL
  obtain ⟨mp, hmp⟩ : ∃ mp : Nat, 1 + n0 = mp := ⟨_, rfl⟩
  have MP : Hid (1 + (sst S0 n0).length = mp) := by rw [show (sst S0 n0).length = n0 by simp [sst]]; exact hmp
  have mp1 : 1 ≤ mp := by omega
  have mp2 : mp ≤ 2000000 := by omega
  have hls : (sst S0 n0).length ≤ 1048576 := by simp [sst]; exact hn
  obtain ⟨mq, hmq⟩ : ∃ mq : Nat, mp + 2 * tot MM1 n1 = mq := ⟨_, rfl⟩
  have MQ := Lib.hid hmq
  have mq1 : 1 ≤ mq := by omega
  have mq2 : mq ≤ 5000000 := by omega
  clear hmp hmq
  obtain ⟨q1, q3, q4, q2⟩ := rep_len a0 b0 n0 S0 n1 MM1 a2
  obtain ⟨ok, hok⟩ : ∃ ok, binsAll a0 b0 n0 S0 n1 MM1 a2 = ok := ⟨_, rfl⟩
  obtain ⟨N, hN⟩ : ∃ N, repN a0 b0 n0 S0 n1 MM1 a2 = N := ⟨_, rfl⟩
  obtain ⟨LL, hLL⟩ : ∃ LL, repR a0 b0 n0 S0 n1 MM1 a2 = LL := ⟨_, rfl⟩
  obtain ⟨MM, hMM⟩ : ∃ MM, repM a0 n0 S0 a2.toNat MM1 n1 = MM := ⟨_, rfl⟩
  have CS : Hid (∀ (W : World) (a : Option Addr) (c base : Nat) (v : Value) (V : Nat → Value), Strs W a n0 S0 → Mat W base v n1 V MM1 → Calls Tryd.prog 9 #[.agg #[.int .i64 a0, .int .i64 b0, .slice a n0 c], v, .int .i64 a2] W (PassRes W ok N MM LL)) := fun W a c base v V hs hm => by
    have := spec_RepairBins W a0 b0 a n0 c S0 hs HF.out hn base v n1 V MM1 hm hn1 HZ.out.2.1 HZ.out.2.2 a2
    rw [hN, hLL, hok, hMM] at this
    exact this
  have CI : Hid (∀ (W : World) (a : Option Addr) (c base : Nat) (v : Value) (V : Nat → Value), Jam W J → Strs W a n0 S0 → Mat W base v n1 V MM1 → Calls Tryd.prog 12 #[.agg #[.int .i64 a0, .int .i64 b0, .slice a n0 c], v, .int .i64 a2] W (PassRes W ok N MM LL)) := fun W a c base v V hj hs hm => by
    have := impl_RepairBins W J hj a0 b0 a n0 c S0 hs HF.out hn base v n1 V MM1 hm hn1 HZ.out.2.1 HZ.out.2.2 a2
    rw [hN, hLL, hok, hMM] at this
    exact this
  rw [hN] at q1 q3 q4
  rw [hMM] at q3 q4
  rw [hLL] at q2
  have hN10 : N ≤ 1048576 := by omega
  have hll : LL.length ≤ 1048576 := by omega
  have htot : tot MM N ≤ 1048576 := by omega
  have hlen : Hid (∀ i, i < N → (MM i).length ≤ 1048576) := fun i hi => by have := q4 i hi; omega
  obtain ⟨mt, hmt⟩ : ∃ mt : Nat, 1 + 2 * tot MM N = mt := ⟨_, rfl⟩
  have MT := Lib.hid hmt
  have mt1 : 1 ≤ mt := by omega
  have mt2 : mt ≤ 3000000 := by omega
  obtain ⟨ms, hms⟩ : ∃ ms : Nat, mt + 2 * LL.length = ms := ⟨_, rfl⟩
  have MS := Lib.hid hms
  have ms1 : 1 ≤ ms := by omega
  have ms2 : ms ≤ 6000000 := by omega
  clear hok hN hMM hLL hmt hms q1 q2 q3 q4
  obtain ⟨⟨d0BA, d1BA, d2BA⟩, g0BA, g1BA, g2BA⟩ := BA.out
  have ltBA := BA.out.lt
  go_wp2_with fail
  refine (toPlan_any _ a0 b0 A0 n0 k0 S0 (HS.out.on BL.out) hn).mono ?_
  rintro e w3 ⟨p_ps, rfl, _, q_ps, k3⟩
  clear d0BA d1BA d2BA g0BA g1BA g2BA ltBA
  have z3 := k3.size
  replace BL := Lib.hid (step BL.out k3)
  replace BA := Lib.hid (BA.out.on k3)
  have ps := Lib.hid q_ps
  have lo_ps : Hid (∀ k, ((Value.slice (some ⟨p_ps, 0, none⟩) n0 n0).ownBlock = some k) → w2.heap.size ≤ k ∧ k < w3.heap.size) := fun k hk => ps.out.lt k hk
  clear k3
  obtain ⟨⟨d0BA, d1BA, d2BA⟩, g0BA, g1BA, g2BA⟩ := BA.out
  have ltBA := BA.out.lt
  go_wp2_with fail
  refine (toLetterSS_any _ a1 n1 k1 MM1 (HS1.out.on BL.out) hn1 HO.out).mono ?_
  rintro e w4 ⟨b_xs, V_xs, rfl, q_xs, k4⟩
  clear d0BA d1BA d2BA g0BA g1BA g2BA ltBA
  have z4 := k4.size
  replace BL := Lib.hid (step BL.out k4)
  replace BA := Lib.hid (BA.out.on k4)
  replace ps := Lib.hid (ps.out.on k4)
  have xs := Lib.hid q_xs
  have lo_xs : Hid (∀ k, (inM (.slice (some ⟨b_xs, 0, none⟩) n1 n1) n1 V_xs k) → w3.heap.size ≤ k ∧ k < w4.heap.size) := fun k hk => xs.out.lt hk
  clear k4
  obtain ⟨⟨d0BA, d1BA, d2BA⟩, g0BA, g1BA, g2BA⟩ := BA.out
  have ltBA := BA.out.lt
  go_wp2_with fail
  refine (CS.out _ _ _ _ _ _ ps.out.strs xs.out).mono ?_
  rintro e w5 ⟨v_mw, V_mw, v_r1w, rfl, q_mw, q_r1w, ap_mw, k5⟩
  clear d0BA d1BA d2BA g0BA g1BA g2BA ltBA
  have z5 := k5.size
  replace BL := Lib.hid (step BL.out k5)
  replace BA := Lib.hid (BA.out.on k5)
  replace ps := Lib.hid (ps.out.on k5)
  replace xs := Lib.hid (xs.out.on k5)
  have mw := Lib.hid q_mw
  have lo_mw : Hid (∀ k, (inM v_mw N V_mw k) → w4.heap.size ≤ k ∧ k < w5.heap.size) := fun k hk => mw.out.lt hk
  have r1w := Lib.hid q_r1w
  have lo_r1w : Hid (∀ k, (v_r1w.ownBlock = some k) → w4.heap.size ≤ k ∧ k < w5.heap.size) := fun k hk => r1w.out.lt k hk
  clear k5
  have AP_mw := Lib.hid ap_mw
  clear ap_mw
  clear ps lo_ps
  clear xs lo_xs
  obtain ⟨⟨d0BA, d1BA, d2BA⟩, g0BA, g1BA, g2BA⟩ := BA.out
  have ltBA := BA.out.lt
  go_wp2_with fail
  refine (toPlan_any _ a0 b0 A0 n0 k0 S0 (HS.out.on BL.out) hn).mono ?_
  rintro e w6 ⟨p_p0, rfl, _, q_p0, k6⟩
  clear d0BA d1BA d2BA g0BA g1BA g2BA ltBA
  have z6 := k6.size
  replace BL := Lib.hid (step BL.out k6)
  replace BA := Lib.hid (BA.out.on k6)
  replace mw := Lib.hid (mw.out.on k6)
  replace r1w := Lib.hid (r1w.out.on k6)
  have p0 := Lib.hid q_p0
  have lo_p0 : Hid (∀ k, ((Value.slice (some ⟨p_p0, 0, none⟩) n0 n0).ownBlock = some k) → w5.heap.size ≤ k ∧ k < w6.heap.size) := fun k hk => p0.out.lt k hk
  clear k6
  obtain ⟨w7, hw7⟩ : ∃ w7, w6.alloc (.cells #[.int .i64 a0, .int .i64 b0, .slice (some ⟨p_p0, 0, none⟩) n0 n0] 32) = w7 := ⟨_, rfl⟩
  have k7 : Below w6.heap.size w6 w7 := hw7 ▸ below_alloc0 w6 (.cells #[.int .i64 a0, .int .i64 b0, .slice (some ⟨p_p0, 0, none⟩) n0 n0] 32)
  have z7 := k7.size
  replace BL := Lib.hid (step BL.out k7)
  replace BA := Lib.hid (BA.out.on k7)
  replace mw := Lib.hid (mw.out.on k7)
  replace r1w := Lib.hid (r1w.out.on k7)
  replace p0 := Lib.hid (p0.out.on k7)
  have BX : Hid (Tri w7 w6.heap.size (.int .i64 a0) (.int .i64 b0) (.slice (some ⟨p_p0, 0, none⟩) n0 n0)) := hw7 ▸ tri_made w6 (.int .i64 a0) (.int .i64 b0) (.slice (some ⟨p_p0, 0, none⟩) n0 n0) 32
  have lo_BX : Hid (∀ k, k = w6.heap.size → w6.heap.size ≤ k ∧ k < w7.heap.size) := fun k hk => ⟨by omega, by have := BX.out.lt; omega⟩
  have HW7 := Lib.hid hw7
  clear hw7 k7
  go_wp2_with fail
  rw [HW7.out]
  obtain ⟨⟨d0BA, d1BA, d2BA⟩, g0BA, g1BA, g2BA⟩ := BA.out
  have ltBA := BA.out.lt
  obtain ⟨⟨d0BX, d1BX, d2BX⟩, g0BX, g1BX, g2BX⟩ := BX.out
  have ltBX := BX.out.lt
  go_wp2_with fail
  refine (toLetterSS_any _ a1 n1 k1 MM1 (HS1.out.on BL.out) hn1 HO.out).mono ?_
  rintro e w8 ⟨b_x0, V_x0, rfl, q_x0, k8⟩
  clear d0BA d1BA d2BA g0BA g1BA g2BA ltBA
  clear d0BX d1BX d2BX g0BX g1BX g2BX ltBX
  have z8 := k8.size
  replace BL := Lib.hid (step BL.out k8)
  replace BA := Lib.hid (BA.out.on k8)
  replace mw := Lib.hid (mw.out.on k8)
  replace r1w := Lib.hid (r1w.out.on k8)
  replace p0 := Lib.hid (p0.out.on k8)
  replace BX := Lib.hid (BX.out.on k8)
  have x0 := Lib.hid q_x0
  have lo_x0 : Hid (∀ k, (inM (.slice (some ⟨b_x0, 0, none⟩) n1 n1) n1 V_x0 k) → w7.heap.size ≤ k ∧ k < w8.heap.size) := fun k hk => x0.out.lt hk
  clear k8
  obtain ⟨⟨d0BA, d1BA, d2BA⟩, g0BA, g1BA, g2BA⟩ := BA.out
  have ltBA := BA.out.lt
  obtain ⟨⟨d0BX, d1BX, d2BX⟩, g0BX, g1BX, g2BX⟩ := BX.out
  have ltBX := BX.out.lt
  go_wp2_with fail
  refine (CI.out _ _ _ _ _ _ (HJ.out.on BL.out) p0.out.strs x0.out).mono ?_
  rintro e w9 ⟨v_mg, V_mg, v_r1g, rfl, q_mg, q_r1g, ap_mg, k9⟩
  clear d0BA d1BA d2BA g0BA g1BA g2BA ltBA
  clear d0BX d1BX d2BX g0BX g1BX g2BX ltBX
  have z9 := k9.size
  replace BL := Lib.hid (step BL.out k9)
  replace BA := Lib.hid (BA.out.on k9)
  replace mw := Lib.hid (mw.out.on k9)
  replace r1w := Lib.hid (r1w.out.on k9)
  replace p0 := Lib.hid (p0.out.on k9)
  replace BX := Lib.hid (BX.out.on k9)
  replace x0 := Lib.hid (x0.out.on k9)
  have mg := Lib.hid q_mg
  have lo_mg : Hid (∀ k, (inM v_mg N V_mg k) → w8.heap.size ≤ k ∧ k < w9.heap.size) := fun k hk => mg.out.lt hk
  have r1g := Lib.hid q_r1g
  have lo_r1g : Hid (∀ k, (v_r1g.ownBlock = some k) → w8.heap.size ≤ k ∧ k < w9.heap.size) := fun k hk => r1g.out.lt k hk
  clear k9
  have AP_mg := Lib.hid ap_mg
  clear ap_mg
  obtain ⟨⟨d0BA, d1BA, d2BA⟩, g0BA, g1BA, g2BA⟩ := BA.out
  have ltBA := BA.out.lt
  obtain ⟨⟨d0BX, d1BX, d2BX⟩, g0BX, g1BX, g2BX⟩ := BX.out
  have ltBX := BX.out.lt
  go_wp2_with fail
  refine (eqLetterSS_mat _ _ _ N _ _ _ _ MM mg.out mw.out hN10 hlen.out).mono ?_
  rintro e w10 ⟨rfl, k10⟩
  clear d0BA d1BA d2BA g0BA g1BA g2BA ltBA
  clear d0BX d1BX d2BX g0BX g1BX g2BX ltBX
  have z10 := k10.size
  replace BL := Lib.hid (step BL.out k10)
  replace BA := Lib.hid (BA.out.on k10)
  replace mw := Lib.hid (mw.out.on k10)
  replace r1w := Lib.hid (r1w.out.on k10)
  replace p0 := Lib.hid (p0.out.on k10)
  replace BX := Lib.hid (BX.out.on k10)
  replace x0 := Lib.hid (x0.out.on k10)
  replace mg := Lib.hid (mg.out.on k10)
  replace r1g := Lib.hid (r1g.out.on k10)
  clear k10
  obtain ⟨⟨d0BA, d1BA, d2BA⟩, g0BA, g1BA, g2BA⟩ := BA.out
  have ltBA := BA.out.lt
  obtain ⟨⟨d0BX, d1BX, d2BX⟩, g0BX, g1BX, g2BX⟩ := BX.out
  have ltBX := BX.out.lt
  go_wp2_with fail
  refine (eqLetterS_row _ _ _ _ _ _ r1g.out r1w.out hll).mono ?_
  rintro e w11 ⟨rfl, k11⟩
  clear d0BA d1BA d2BA g0BA g1BA g2BA ltBA
  clear d0BX d1BX d2BX g0BX g1BX g2BX ltBX
  have z11 := k11.size
  replace BL := Lib.hid (step BL.out k11)
  replace BA := Lib.hid (BA.out.on k11)
  replace mw := Lib.hid (mw.out.on k11)
  replace r1w := Lib.hid (r1w.out.on k11)
  replace p0 := Lib.hid (p0.out.on k11)
  replace BX := Lib.hid (BX.out.on k11)
  replace x0 := Lib.hid (x0.out.on k11)
  replace mg := Lib.hid (mg.out.on k11)
  replace r1g := Lib.hid (r1g.out.on k11)
  clear k11
  obtain ⟨⟨d0BA, d1BA, d2BA⟩, g0BA, g1BA, g2BA⟩ := BA.out
  have ltBA := BA.out.lt
  obtain ⟨⟨d0BX, d1BX, d2BX⟩, g0BX, g1BX, g2BX⟩ := BX.out
  have ltBX := BX.out.lt
  have HSC := Lib.hid (HS.out.on BL.out)
  have HXP := Lib.hid p0.out.strs
  go_wp2
  go_region_with (first
    | (go_at_call 10; refine (toPlan_any _ a0 b0 A0 n0 k0 S0 (HSC.out.on (by go_grown)) hn).mono ?_; rintro e wt ⟨gt, rfl, _, ot, kt⟩; have kT : Below w11.heap.size w11 wt := (by first | exact kt | exact sstep (by go_grown) kt); obtain ⟨⟨e0, e1, e2⟩, _⟩ := BX.out.on kT; have ht2 := Lib.hid ot.strs; clear ot)
    | (go_at_call 15; refine (eqPlan_same _ a0 b0 _ _ n0 _ _ S0 (HXP.out.on (by go_grown)) (ht2.out.on (by go_grown)) hn).mono ?_; rintro e w12 ⟨rfl, kq⟩; have k12 : Below w11.heap.size w11 w12 := (by first | exact sstep kT kq | exact sstep kT.drew kq); clear ht2 kq kT kt e0 e1 e2))
  clear d0BA d1BA d2BA g0BA g1BA g2BA ltBA
  clear d0BX d1BX d2BX g0BX g1BX g2BX ltBX
  all_goals
    have z12 := k12.size
    replace BL := Lib.hid (step BL.out k12)
    replace BA := Lib.hid (BA.out.on k12)
    replace mw := Lib.hid (mw.out.on k12)
    replace r1w := Lib.hid (r1w.out.on k12)
    replace p0 := Lib.hid (p0.out.on k12)
    replace BX := Lib.hid (BX.out.on k12)
    replace x0 := Lib.hid (x0.out.on k12)
    replace mg := Lib.hid (mg.out.on k12)
    replace r1g := Lib.hid (r1g.out.on k12)
    clear k12 HSC HXP
    obtain ⟨⟨d0BA, d1BA, d2BA⟩, g0BA, g1BA, g2BA⟩ := BA.out
    have ltBA := BA.out.lt
    obtain ⟨⟨d0BX, d1BX, d2BX⟩, g0BX, g1BX, g2BX⟩ := BX.out
    have ltBX := BX.out.lt
    go_wp2_with fail
    refine (toLetterSS_any _ a1 n1 k1 MM1 (HS1.out.on BL.out) hn1 HO.out).mono ?_
    rintro e w13 ⟨b_xc, V_xc, rfl, q_xc, k13⟩
    clear d0BA d1BA d2BA g0BA g1BA g2BA ltBA
    clear d0BX d1BX d2BX g0BX g1BX g2BX ltBX
    have z13 := k13.size
    replace BL := Lib.hid (step BL.out k13)
    replace BA := Lib.hid (BA.out.on k13)
    replace mw := Lib.hid (mw.out.on k13)
    replace r1w := Lib.hid (r1w.out.on k13)
    replace p0 := Lib.hid (p0.out.on k13)
    replace BX := Lib.hid (BX.out.on k13)
    replace x0 := Lib.hid (x0.out.on k13)
    replace mg := Lib.hid (mg.out.on k13)
    replace r1g := Lib.hid (r1g.out.on k13)
    have xc := Lib.hid q_xc
    have lo_xc : Hid (∀ k, (inM (.slice (some ⟨b_xc, 0, none⟩) n1 n1) n1 V_xc k) → w12.heap.size ≤ k ∧ k < w13.heap.size) := fun k hk => xc.out.lt hk
    clear k13
    obtain ⟨⟨d0BA, d1BA, d2BA⟩, g0BA, g1BA, g2BA⟩ := BA.out
    have ltBA := BA.out.lt
    obtain ⟨⟨d0BX, d1BX, d2BX⟩, g0BX, g1BX, g2BX⟩ := BX.out
    have ltBX := BX.out.lt
    go_wp2_with fail
    refine (eqLetterSS_mat _ _ _ n1 _ _ _ _ MM1 x0.out xc.out hn1 HO.out).mono ?_
    rintro e w14 ⟨rfl, k14⟩
    clear d0BA d1BA d2BA g0BA g1BA g2BA ltBA
    clear d0BX d1BX d2BX g0BX g1BX g2BX ltBX
    have z14 := k14.size
    replace BL := Lib.hid (step BL.out k14)
    replace BA := Lib.hid (BA.out.on k14)
    replace mw := Lib.hid (mw.out.on k14)
    replace r1w := Lib.hid (r1w.out.on k14)
    replace p0 := Lib.hid (p0.out.on k14)
    replace BX := Lib.hid (BX.out.on k14)
    replace x0 := Lib.hid (x0.out.on k14)
    replace mg := Lib.hid (mg.out.on k14)
    replace r1g := Lib.hid (r1g.out.on k14)
    replace xc := Lib.hid (xc.out.on k14)
    clear k14
    clear xc lo_xc
    obtain ⟨⟨d0BA, d1BA, d2BA⟩, g0BA, g1BA, g2BA⟩ := BA.out
    have ltBA := BA.out.lt
    obtain ⟨⟨d0BX, d1BX, d2BX⟩, g0BX, g1BX, g2BX⟩ := BX.out
    have ltBX := BX.out.lt
    go_wp2_with fail
    refine (markPlan_row _ _ _ _ _ _ 1 p0.out hls (by omega) (by omega)).mono ?_
    rw [MP.out]
    rintro e w15 ⟨rfl, o15⟩
    clear d0BA d1BA d2BA g0BA g1BA g2BA ltBA
    clear d0BX d1BX d2BX g0BX g1BX g2BX ltBX
    have z15 := o15.size
    replace BL := Lib.hid (BL.out.trans (o15.below (B := w.heap.size) (fun k hk _ hs => by have := (lo_p0.out k hs).1; omega) (by omega)))
    replace BA := Lib.hid (triOnly BA.out o15 (fun hs => by have h1 := lo_BA.out _ rfl; have h2 := lo_p0.out _ hs; omega))
    replace mw := Lib.hid (mw.out.only o15 (fun k hk hs => by have h1 := lo_mw.out k hk; have h2 := lo_p0.out k hs; omega))
    replace r1w := Lib.hid (r1w.out.only o15 (fun k hk hs => by have h1 := lo_r1w.out k hk; have h2 := lo_p0.out k hs; omega))
    replace BX := Lib.hid (triOnly BX.out o15 (fun hs => by have h1 := lo_BX.out _ rfl; have h2 := lo_p0.out _ hs; omega))
    replace x0 := Lib.hid (x0.out.only o15 (fun k hk hs => by have h1 := lo_x0.out k hk; have h2 := lo_p0.out k hs; omega))
    replace mg := Lib.hid (mg.out.only o15 (fun k hk hs => by have h1 := lo_mg.out k hk; have h2 := lo_p0.out k hs; omega))
    replace r1g := Lib.hid (r1g.out.only o15 (fun k hk hs => by have h1 := lo_r1g.out k hk; have h2 := lo_p0.out k hs; omega))
    clear p0 lo_p0 o15
    obtain ⟨⟨d0BA, d1BA, d2BA⟩, g0BA, g1BA, g2BA⟩ := BA.out
    have ltBA := BA.out.lt
    obtain ⟨⟨d0BX, d1BX, d2BX⟩, g0BX, g1BX, g2BX⟩ := BX.out
    have ltBX := BX.out.lt
    go_wp2_with fail
    refine (markLetterSS_mat _ _ _ _ _ _ mp x0.out hn1 ht (by omega) (by omega)).mono ?_
    rw [MQ.out]
    rintro e w16 ⟨rfl, r16, o16⟩
    clear d0BA d1BA d2BA g0BA g1BA g2BA ltBA
    clear d0BX d1BX d2BX g0BX g1BX g2BX ltBX
    have z16 := o16.size
    replace BL := Lib.hid (BL.out.trans (o16.below (B := w.heap.size) (fun k hk _ hs => by have := (lo_x0.out k hs).1; omega) (by omega)))
    replace BA := Lib.hid (triOnly BA.out o16 (fun hs => by have h1 := lo_BA.out _ rfl; have h2 := lo_x0.out _ hs; omega))
    replace mw := Lib.hid (mw.out.only o16 (fun k hk hs => by have h1 := lo_mw.out k hk; have h2 := lo_x0.out k hs; omega))
    replace r1w := Lib.hid (r1w.out.only o16 (fun k hk hs => by have h1 := lo_r1w.out k hk; have h2 := lo_x0.out k hs; omega))
    replace BX := Lib.hid (triOnly BX.out o16 (fun hs => by have h1 := lo_BX.out _ rfl; have h2 := lo_x0.out _ hs; omega))
    replace mg := Lib.hid (mg.out.only o16 (fun k hk hs => by have h1 := lo_mg.out k hk; have h2 := lo_x0.out k hs; omega))
    replace r1g := Lib.hid (r1g.out.only o16 (fun k hk hs => by have h1 := lo_r1g.out k hk; have h2 := lo_x0.out k hs; omega))
    replace x0 := Lib.hid r16
    clear r16 o16
    obtain ⟨⟨d0BA, d1BA, d2BA⟩, g0BA, g1BA, g2BA⟩ := BA.out
    have ltBA := BA.out.lt
    obtain ⟨⟨d0BX, d1BX, d2BX⟩, g0BX, g1BX, g2BX⟩ := BX.out
    have ltBX := BX.out.lt
    go_wp2_with fail
    refine (eqLetterSS_mat _ _ _ N _ _ _ _ MM mg.out mw.out hN10 hlen.out).mono ?_
    rintro e w17 ⟨rfl, k17⟩
    clear d0BA d1BA d2BA g0BA g1BA g2BA ltBA
    clear d0BX d1BX d2BX g0BX g1BX g2BX ltBX
    have z17 := k17.size
    replace BL := Lib.hid (step BL.out k17)
    replace BA := Lib.hid (BA.out.on k17)
    replace mw := Lib.hid (mw.out.on k17)
    replace r1w := Lib.hid (r1w.out.on k17)
    replace BX := Lib.hid (BX.out.on k17)
    replace x0 := Lib.hid (x0.out.on k17)
    replace mg := Lib.hid (mg.out.on k17)
    replace r1g := Lib.hid (r1g.out.on k17)
    clear k17
    obtain ⟨⟨d0BA, d1BA, d2BA⟩, g0BA, g1BA, g2BA⟩ := BA.out
    have ltBA := BA.out.lt
    obtain ⟨⟨d0BX, d1BX, d2BX⟩, g0BX, g1BX, g2BX⟩ := BX.out
    have ltBX := BX.out.lt
    go_wp2_with fail
    refine (eqLetterS_row _ _ _ _ _ _ r1g.out r1w.out hll).mono ?_
    rintro e w18 ⟨rfl, k18⟩
    clear d0BA d1BA d2BA g0BA g1BA g2BA ltBA
    clear d0BX d1BX d2BX g0BX g1BX g2BX ltBX
    have z18 := k18.size
    replace BL := Lib.hid (step BL.out k18)
    replace BA := Lib.hid (BA.out.on k18)
    replace mw := Lib.hid (mw.out.on k18)
    replace r1w := Lib.hid (r1w.out.on k18)
    replace BX := Lib.hid (BX.out.on k18)
    replace x0 := Lib.hid (x0.out.on k18)
    replace mg := Lib.hid (mg.out.on k18)
    replace r1g := Lib.hid (r1g.out.on k18)
    clear k18
    obtain ⟨⟨d0BA, d1BA, d2BA⟩, g0BA, g1BA, g2BA⟩ := BA.out
    have ltBA := BA.out.lt
    obtain ⟨⟨d0BX, d1BX, d2BX⟩, g0BX, g1BX, g2BX⟩ := BX.out
    have ltBX := BX.out.lt
    go_wp2_with fail
    refine (markLetterSS_mat _ _ N _ _ MM 1 mg.out hN10 htot (by omega) (by omega)).mono ?_
    rw [MT.out]
    rintro e w19 ⟨rfl, r19, o19⟩
    clear d0BA d1BA d2BA g0BA g1BA g2BA ltBA
    clear d0BX d1BX d2BX g0BX g1BX g2BX ltBX
    have z19 := o19.size
    replace BL := Lib.hid (BL.out.trans (o19.below (B := w.heap.size) (fun k hk _ hs => by have := (lo_mg.out k hs).1; omega) (by omega)))
    replace BA := Lib.hid (triOnly BA.out o19 (fun hs => by have h1 := lo_BA.out _ rfl; have h2 := lo_mg.out _ hs; omega))
    replace mw := Lib.hid (mw.out.only o19 (fun k hk hs => by have h1 := lo_mw.out k hk; have h2 := lo_mg.out k hs; omega))
    replace r1w := Lib.hid (r1w.out.only o19 (fun k hk hs => by have h1 := lo_r1w.out k hk; have h2 := lo_mg.out k hs; omega))
    replace BX := Lib.hid (triOnly BX.out o19 (fun hs => by have h1 := lo_BX.out _ rfl; have h2 := lo_mg.out _ hs; omega))
    replace x0 := Lib.hid (x0.out.only o19 (fun k hk hs => by have h1 := lo_x0.out k hk; have h2 := lo_mg.out k hs; omega))
    replace r1g := Lib.hid (r1g.out.only o19 (fun k hk hs => AP_mg.out k hk hs))
    replace mg := Lib.hid r19
    clear r19 o19
    obtain ⟨⟨d0BA, d1BA, d2BA⟩, g0BA, g1BA, g2BA⟩ := BA.out
    have ltBA := BA.out.lt
    obtain ⟨⟨d0BX, d1BX, d2BX⟩, g0BX, g1BX, g2BX⟩ := BX.out
    have ltBX := BX.out.lt
    go_wp2_with fail
    refine (markLetterS_row _ _ _ _ mt r1g.out hll (by omega) (by omega)).mono ?_
    rw [MS.out]
    rintro e w20 ⟨rfl, r20, o20⟩
    clear d0BA d1BA d2BA g0BA g1BA g2BA ltBA
    clear d0BX d1BX d2BX g0BX g1BX g2BX ltBX
    replace o20 := (Only.of_grown o20).mono (T := fun k => v_r1g.ownBlock = some k) (fun k _ e => e.symm)
    have z20 := o20.size
    replace BL := Lib.hid (BL.out.trans (o20.below (B := w.heap.size) (fun k hk _ hs => by have := (lo_r1g.out k hs).1; omega) (by omega)))
    replace BA := Lib.hid (triOnly BA.out o20 (fun hs => by have h1 := lo_BA.out _ rfl; have h2 := lo_r1g.out _ hs; omega))
    replace mw := Lib.hid (mw.out.only o20 (fun k hk hs => by have h1 := lo_mw.out k hk; have h2 := lo_r1g.out k hs; omega))
    replace r1w := Lib.hid (r1w.out.only o20 (fun k hk hs => by have h1 := lo_r1w.out k hk; have h2 := lo_r1g.out k hs; omega))
    replace BX := Lib.hid (triOnly BX.out o20 (fun hs => by have h1 := lo_BX.out _ rfl; have h2 := lo_r1g.out _ hs; omega))
    replace x0 := Lib.hid (x0.out.only o20 (fun k hk hs => by have h1 := lo_x0.out k hk; have h2 := lo_r1g.out k hs; omega))
    replace mg := Lib.hid (mg.out.only o20 (fun k hk hs => AP_mg.out k hs hk))
    replace r1g := Lib.hid r20
    clear r20 o20
    obtain ⟨⟨d0BA, d1BA, d2BA⟩, g0BA, g1BA, g2BA⟩ := BA.out
    have ltBA := BA.out.lt
    obtain ⟨⟨d0BX, d1BX, d2BX⟩, g0BX, g1BX, g2BX⟩ := BX.out
    have ltBX := BX.out.lt
    go_wp2_with fail
    refine (heldLetterSS_mat _ _ N _ _ MM 1 mg.out hN10 htot (by omega) (by omega)).mono ?_
    rw [MT.out]
    rintro e w21 ⟨rfl, k21⟩
    clear d0BA d1BA d2BA g0BA g1BA g2BA ltBA
    clear d0BX d1BX d2BX g0BX g1BX g2BX ltBX
    have z21 := k21.size
    replace BL := Lib.hid (step BL.out k21)
    replace BA := Lib.hid (BA.out.on k21)
    replace mw := Lib.hid (mw.out.on k21)
    replace r1w := Lib.hid (r1w.out.on k21)
    replace BX := Lib.hid (BX.out.on k21)
    replace x0 := Lib.hid (x0.out.on k21)
    replace mg := Lib.hid (mg.out.on k21)
    replace r1g := Lib.hid (r1g.out.on k21)
    clear k21
    obtain ⟨⟨d0BA, d1BA, d2BA⟩, g0BA, g1BA, g2BA⟩ := BA.out
    have ltBA := BA.out.lt
    obtain ⟨⟨d0BX, d1BX, d2BX⟩, g0BX, g1BX, g2BX⟩ := BX.out
    have ltBX := BX.out.lt
    go_wp2_with fail
    refine (heldLetterS_row _ _ _ mt LL.length r1g.out hll (by omega) (by omega)).mono ?_
    rw [MS.out]
    rintro e w22 ⟨rfl, k22⟩
    clear d0BA d1BA d2BA g0BA g1BA g2BA ltBA
    clear d0BX d1BX d2BX g0BX g1BX g2BX ltBX
    have z22 := k22.size
    replace BL := Lib.hid (step BL.out k22)
    replace BA := Lib.hid (BA.out.on k22)
    replace mw := Lib.hid (mw.out.on k22)
    replace r1w := Lib.hid (r1w.out.on k22)
    replace BX := Lib.hid (BX.out.on k22)
    replace x0 := Lib.hid (x0.out.on k22)
    replace mg := Lib.hid (mg.out.on k22)
    replace r1g := Lib.hid (r1g.out.on k22)
    clear k22
    clear x0 lo_x0
    obtain ⟨⟨d0BA, d1BA, d2BA⟩, g0BA, g1BA, g2BA⟩ := BA.out
    have ltBA := BA.out.lt
    obtain ⟨⟨d0BX, d1BX, d2BX⟩, g0BX, g1BX, g2BX⟩ := BX.out
    have ltBX := BX.out.lt
    go_wp2_with fail
    refine (toPlan_any _ a0 b0 A0 n0 k0 S0 (HS.out.on BL.out) hn).mono ?_
    rintro e w23 ⟨p_ph, rfl, _, q_ph, k23⟩
    clear d0BA d1BA d2BA g0BA g1BA g2BA ltBA
    clear d0BX d1BX d2BX g0BX g1BX g2BX ltBX
    have z23 := k23.size
    replace BL := Lib.hid (step BL.out k23)
    replace BA := Lib.hid (BA.out.on k23)
    replace mw := Lib.hid (mw.out.on k23)
    replace r1w := Lib.hid (r1w.out.on k23)
    replace BX := Lib.hid (BX.out.on k23)
    replace mg := Lib.hid (mg.out.on k23)
    replace r1g := Lib.hid (r1g.out.on k23)
    have ph := Lib.hid q_ph
    have lo_ph : Hid (∀ k, ((Value.slice (some ⟨p_ph, 0, none⟩) n0 n0).ownBlock = some k) → w22.heap.size ≤ k ∧ k < w23.heap.size) := fun k hk => ph.out.lt k hk
    clear k23
    obtain ⟨⟨d0BA, d1BA, d2BA⟩, g0BA, g1BA, g2BA⟩ := BA.out
    have ltBA := BA.out.lt
    obtain ⟨⟨d0BX, d1BX, d2BX⟩, g0BX, g1BX, g2BX⟩ := BX.out
    have ltBX := BX.out.lt
    go_wp2_with fail
    refine (toLetterSS_any _ a1 n1 k1 MM1 (HS1.out.on BL.out) hn1 HO.out).mono ?_
    rintro e w24 ⟨b_xh, V_xh, rfl, q_xh, k24⟩
    clear d0BA d1BA d2BA g0BA g1BA g2BA ltBA
    clear d0BX d1BX d2BX g0BX g1BX g2BX ltBX
    have z24 := k24.size
    replace BL := Lib.hid (step BL.out k24)
    replace BA := Lib.hid (BA.out.on k24)
    replace mw := Lib.hid (mw.out.on k24)
    replace r1w := Lib.hid (r1w.out.on k24)
    replace BX := Lib.hid (BX.out.on k24)
    replace mg := Lib.hid (mg.out.on k24)
    replace r1g := Lib.hid (r1g.out.on k24)
    replace ph := Lib.hid (ph.out.on k24)
    have xh := Lib.hid q_xh
    have lo_xh : Hid (∀ k, (inM (.slice (some ⟨b_xh, 0, none⟩) n1 n1) n1 V_xh k) → w23.heap.size ≤ k ∧ k < w24.heap.size) := fun k hk => xh.out.lt hk
    clear k24
    obtain ⟨⟨d0BA, d1BA, d2BA⟩, g0BA, g1BA, g2BA⟩ := BA.out
    have ltBA := BA.out.lt
    obtain ⟨⟨d0BX, d1BX, d2BX⟩, g0BX, g1BX, g2BX⟩ := BX.out
    have ltBX := BX.out.lt
    go_wp2_with fail
    refine (CI.out _ _ _ _ _ _ (HJ.out.on BL.out) ph.out.strs xh.out).mono ?_
    rintro e w25 ⟨v_mh, V_mh, v_r1h, rfl, q_mh, q_r1h, ap_mh, k25⟩
    clear d0BA d1BA d2BA g0BA g1BA g2BA ltBA
    clear d0BX d1BX d2BX g0BX g1BX g2BX ltBX
    have z25 := k25.size
    replace BL := Lib.hid (step BL.out k25)
    replace BA := Lib.hid (BA.out.on k25)
    replace mw := Lib.hid (mw.out.on k25)
    replace r1w := Lib.hid (r1w.out.on k25)
    replace BX := Lib.hid (BX.out.on k25)
    replace mg := Lib.hid (mg.out.on k25)
    replace r1g := Lib.hid (r1g.out.on k25)
    replace ph := Lib.hid (ph.out.on k25)
    replace xh := Lib.hid (xh.out.on k25)
    have mh := Lib.hid q_mh
    have lo_mh : Hid (∀ k, (inM v_mh N V_mh k) → w24.heap.size ≤ k ∧ k < w25.heap.size) := fun k hk => mh.out.lt hk
    have r1h := Lib.hid q_r1h
    have lo_r1h : Hid (∀ k, (v_r1h.ownBlock = some k) → w24.heap.size ≤ k ∧ k < w25.heap.size) := fun k hk => r1h.out.lt k hk
    clear k25
    have AP_mh := Lib.hid ap_mh
    clear ap_mh
    clear ph lo_ph
    clear xh lo_xh
    obtain ⟨⟨d0BA, d1BA, d2BA⟩, g0BA, g1BA, g2BA⟩ := BA.out
    have ltBA := BA.out.lt
    obtain ⟨⟨d0BX, d1BX, d2BX⟩, g0BX, g1BX, g2BX⟩ := BX.out
    have ltBX := BX.out.lt
    go_wp2_with fail
    refine (eqLetterSS_mat _ _ _ N _ _ _ _ MM mh.out mw.out hN10 hlen.out).mono ?_
    rintro e w26 ⟨rfl, k26⟩
    clear d0BA d1BA d2BA g0BA g1BA g2BA ltBA
    clear d0BX d1BX d2BX g0BX g1BX g2BX ltBX
    have z26 := k26.size
    replace BL := Lib.hid (step BL.out k26)
    replace BA := Lib.hid (BA.out.on k26)
    replace mw := Lib.hid (mw.out.on k26)
    replace r1w := Lib.hid (r1w.out.on k26)
    replace BX := Lib.hid (BX.out.on k26)
    replace mg := Lib.hid (mg.out.on k26)
    replace r1g := Lib.hid (r1g.out.on k26)
    replace mh := Lib.hid (mh.out.on k26)
    replace r1h := Lib.hid (r1h.out.on k26)
    clear k26
    obtain ⟨⟨d0BA, d1BA, d2BA⟩, g0BA, g1BA, g2BA⟩ := BA.out
    have ltBA := BA.out.lt
    obtain ⟨⟨d0BX, d1BX, d2BX⟩, g0BX, g1BX, g2BX⟩ := BX.out
    have ltBX := BX.out.lt
    go_wp2_with fail
    refine (eqLetterS_row _ _ _ _ _ _ r1h.out r1w.out hll).mono ?_
    rintro e w27 ⟨rfl, k27⟩
    clear d0BA d1BA d2BA g0BA g1BA g2BA ltBA
    clear d0BX d1BX d2BX g0BX g1BX g2BX ltBX
    have z27 := k27.size
    replace BL := Lib.hid (step BL.out k27)
    replace BA := Lib.hid (BA.out.on k27)
    replace mw := Lib.hid (mw.out.on k27)
    replace r1w := Lib.hid (r1w.out.on k27)
    replace BX := Lib.hid (BX.out.on k27)
    replace mg := Lib.hid (mg.out.on k27)
    replace r1g := Lib.hid (r1g.out.on k27)
    replace mh := Lib.hid (mh.out.on k27)
    replace r1h := Lib.hid (r1h.out.on k27)
    clear k27
    obtain ⟨⟨d0BA, d1BA, d2BA⟩, g0BA, g1BA, g2BA⟩ := BA.out
    have ltBA := BA.out.lt
    obtain ⟨⟨d0BX, d1BX, d2BX⟩, g0BX, g1BX, g2BX⟩ := BX.out
    have ltBX := BX.out.lt
    go_wp2_with fail
    refine (heldLetterSS_mat _ _ N _ _ MM 1 mg.out hN10 htot (by omega) (by omega)).mono ?_
    rw [MT.out]
    rintro e w28 ⟨rfl, k28⟩
    clear d0BA d1BA d2BA g0BA g1BA g2BA ltBA
    clear d0BX d1BX d2BX g0BX g1BX g2BX ltBX
    have z28 := k28.size
    replace BL := Lib.hid (step BL.out k28)
    replace BA := Lib.hid (BA.out.on k28)
    replace mw := Lib.hid (mw.out.on k28)
    replace r1w := Lib.hid (r1w.out.on k28)
    replace BX := Lib.hid (BX.out.on k28)
    replace mg := Lib.hid (mg.out.on k28)
    replace r1g := Lib.hid (r1g.out.on k28)
    replace mh := Lib.hid (mh.out.on k28)
    replace r1h := Lib.hid (r1h.out.on k28)
    clear k28
    obtain ⟨⟨d0BA, d1BA, d2BA⟩, g0BA, g1BA, g2BA⟩ := BA.out
    have ltBA := BA.out.lt
    obtain ⟨⟨d0BX, d1BX, d2BX⟩, g0BX, g1BX, g2BX⟩ := BX.out
    have ltBX := BX.out.lt
    go_wp2_with fail
    refine (heldLetterS_row _ _ _ mt LL.length r1g.out hll (by omega) (by omega)).mono ?_
    rw [MS.out]
    rintro e w29 ⟨rfl, k29⟩
    clear d0BA d1BA d2BA g0BA g1BA g2BA ltBA
    clear d0BX d1BX d2BX g0BX g1BX g2BX ltBX
    have z29 := k29.size
    replace BL := Lib.hid (step BL.out k29)
    replace BA := Lib.hid (BA.out.on k29)
    replace mw := Lib.hid (mw.out.on k29)
    replace r1w := Lib.hid (r1w.out.on k29)
    replace BX := Lib.hid (BX.out.on k29)
    replace mg := Lib.hid (mg.out.on k29)
    replace r1g := Lib.hid (r1g.out.on k29)
    replace mh := Lib.hid (mh.out.on k29)
    replace r1h := Lib.hid (r1h.out.on k29)
    clear k29
    go_wp2
    go_ret
    exact ⟨rfl, BL.out⟩

set_option maxRecDepth 100000 in
theorem lifted (os : Os) (started : os.Started) (H : Type) (enc : TypeId × Value → H) :
    ReturnsInHanded {} Tryd.checked os 3 .any (fun w args => (Rows.fnExactRepairBinsSpec.pre enc Tryd.prog Tryd.f3 [] false w args ∧ laidMetH Tryd.prog Rows.fnExactRepairBinsRow.laid w) ∧ sizedMet enc Tryd.prog Tryd.f3 (OpenSpec.ofChange Rows.fnExactRepairBinsSpec) false w args)
      (Rows.fnExactRepairBinsSpec.post enc Tryd.prog Tryd.f3 false true false false) := by
  refine returnsInHanded_of_change_and (C := Tryd.checked) (X := fun w _ => laidMetH Tryd.prog Rows.fnExactRepairBinsRow.laid w) (fun _ _ _ hh h => h.of_heap hh) own started (by kernel_rfl) Tryd.func3
    (ChangeSpec.witness_shaped (enc := enc) (C := Tryd.checked) (os := os) (X := fun w _ => laidMetH Tryd.prog Rows.fnExactRepairBinsRow.laid w) false (World.laidAll Tryd.prog os Rows.fnExactRepairBinsRow.laid) #[.agg #[.int .i64 0, .int .i64 0, .slice none 0 0], .slice none 0 0, .int .i64 0] 8 (World.laidAll_os _ _ _) (World.shaped_of_ZipB (by kernel_rfl) (by kernel_rfl)) (by kernel_rfl) (by kernel_rfl) (by kernel_rfl) (Laid.door_jam os _)) ?_
  intro W base args ds gs before hval0 hW _ _ hL _
  have hval : ∀ (j : Nat) t v, Tryd.f3.params[j]? = some t → args[j]? = some v → Value.okWide Tryd.prog W .any base t v := hval0
  have hW' := hW
  obtain ⟨p, q, hA0, hV, rfl, hfz, hnd⟩ := hW
  have hA : DataW.TrodAll enc Tryd.prog W 0 (fun _ => true) true Tryd.f3.params.toList args.toList ds p := hA0
  rw [Tryd.params3] at hA hval
  obtain ⟨v0, vs0, d0, ds0, p0, q0, hargs, rfl, rfl, h0, r0⟩ := trodAll_cons hA
  obtain ⟨v1, vs1, d1, ds1, p1, q1, rfl, rfl, rfl, h1, r1⟩ := trodAll_cons r0
  obtain ⟨v2, vs2, d2, ds2, p2, q2, rfl, rfl, rfl, h2, r2⟩ := trodAll_cons r1
  obtain ⟨rfl, rfl, rfl⟩ := trodAll_nil r2
  obtain rfl : args = #[v0, v1, v2] := by cases args; simp_all
  have hV' : DataW.TrodVars enc Tryd.prog W (fun _ => true) ["loop.example/sortingoffice/impl.errJam"] gs q := hV
  obtain ⟨J, hvJ, hJ⟩ := Laid.of_jam hL
  obtain ⟨rfl, rfl⟩ := hV'.unique (Laid.jam_read enc hvJ _)
  have g0 := h0
  have lt0 : ∀ x ∈ p0, x.block < W.heap.size := by obtain ⟨m, hm⟩ := g0; exact DataW.trod_lt m _ _ _ hm
  have g1 := h1
  have lt1 : ∀ x ∈ p1, x.block < W.heap.size := by obtain ⟨m, hm⟩ := g1; exact DataW.trod_lt m _ _ _ hm
  have g2 := h2
  have lt2 : ∀ x ∈ p2, x.block < W.heap.size := by obtain ⟨m, hm⟩ := g2; exact DataW.trod_lt m _ _ _ hm
  obtain ⟨u0, t0, s0, m00, m10, m20, j0, rfl, _, _, q00, q10, q20⟩ := open_agg3 Tryd.underlying24 (by kernel_rfl) (by kernel_rfl) (hval 0 24 v0 rfl rfl) h0
  obtain ⟨a0, ea0, _, x0⟩ := DataW.trod_int Tryd.underlying3 q00
  obtain ⟨b0, eb0, _, y0⟩ := DataW.trod_int Tryd.underlying3 q10
  obtain rfl := List.singleton_inj.1 ea0
  obtain rfl := List.singleton_inj.1 eb0
  obtain ⟨A0, n0, k0, S0, rfl, w0, f0, z0⟩ := open_strs q20
  obtain ⟨a1, n1, k1, rfl⟩ := okWide_slice Tryd.underlying25 (hval 1 25 v1 rfl rfl)
  obtain ⟨MM1, w1, z1⟩ : ∃ MM, Lss W a1 n1 MM ∧ n1 ≤ maxLen := by
    obtain ⟨fuel, hf⟩ := h1
    exact open_trays hf
  obtain ⟨a2, rfl, _, _, w2⟩ := open_int Tryd.underlying3 (hval 2 3 v2 rfl rfl) h2
  clear hA0 hval0
  refine (walk W a0 b0 A0 n0 k0 S0 w0 f0 z0 x0 y0 a1 n1 k1 MM1 w1 z1 a2 w2 J hJ).mono fun e W' ⟨he, bel⟩ => ?_
  subst he
  exact ⟨_, rfl, _, _, _, [], _, _, hW', trodAll_mk1 (shut_bool Tryd.underlying4 _), (trodAll_cons_mk (Below.trod laidOut (by kernel_rfl) (of_decide_eq_true (by kernel_rfl)) g0 bel lt0) (trodAll_cons_mk (Below.trod laidOut (by kernel_rfl) (of_decide_eq_true (by kernel_rfl)) g1 bel lt1) (trodAll_cons_mk (Below.trod laidOut (by kernel_rfl) (of_decide_eq_true (by kernel_rfl)) g2 bel lt2) trodAll_mk0))), Laid.jam_read enc (Go.Joins.var_stays Laid.jam_named hvJ bel (Nat.le_refl _)) _, bel.frame _, fun h => by cases h⟩

theorem row_holds : Rows.FnExactRepairBinsSaid :=
  OpenClaim.holds_of_wide 3 Tryd.f3 rfl rfl rfl rfl rfl rfl rfl ⟨rfl, rfl, rfl, rfl, rfl⟩ rfl rfl rfl rfl rfl (by kernel_rfl) Tryd.func3 (by kernel_rfl)
    (of_decide_eq_true (by kernel_rfl)) (by unfold Func.isWrapper; first | (rw [if_pos (by decide +kernel)]; kernel_rfl) | (rw [if_neg (by decide +kernel)]; exact ⟨rfl, rfl⟩))
    (fun os started H enc _ => lifted os started H enc)

theorem proved : Rows.FnExactRepairBinsCardSaid :=
  Claim7.holds_tied_plain_at .later [] [.sentinel] true Rows.fnExactRepairBinsCard.stood.harness true
    row_holds (fun _ h => by cases h) (by kernel_rfl) (fun _ h => by cases h) fnExactRepairBins_row_tie rfl ⟨rfl, rfl⟩ (by kernel_rfl) rfl
    (fun f fn hf hfn => by
      obtain rfl : f = 3 := Option.some.inj ((show Tryd.prog.funcNamed Rows.fnExactRepairBinsRow.func = some 3 by kernel_rfl).symm.trans hf) |>.symm
      obtain rfl : fn = Tryd.f3 := (Option.some.inj (Tryd.func3.symm.trans hfn)).symm
      exact ⟨by kernel_rfl, fun j t ht => by
        rw [Tryd.params3] at ht
        have hm : t ∈ [24, 25, 3] := by simpa using Array.mem_of_getElem? ht
        have hall : ([24, 25, 3].all fun u => !Tryd.prog.wantsStandIn u) = true := by kernel_rfl
        exact (show Tryd.prog.wantsStandIn t = false by simpa using List.all_eq_true.1 hall t hm)⟩)
    (by kernel_rfl)
#print axioms proved
end Go.Proofs.YtmjgblhihpbbdaaDoor.fnExactRepairBins
