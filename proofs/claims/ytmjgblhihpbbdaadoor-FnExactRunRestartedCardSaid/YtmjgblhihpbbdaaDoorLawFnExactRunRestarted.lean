/-
  For every plan, slice of letters, number and slice of missorts, laws.FnExactRunRestarted returns true: the program's RunRestarted answers as the model of the document does, and its answer owns its memory. No condition but that the program's variable holds its error.
-/
import Derived.Test.YtmjgblhihpbbdaaDoorCards
import Derived.Test.YtmjgblhihpbbdaaDoorLateA
import Derived.Test.YtmjgblhihpbbdaaDoorOpenA
import Derived.Test.YtmjgblhihpbbdaaDoorTie
import Derived.LaidMore
import Derived.Stop.Joined
import Derived.SevenTiedAt
import Derived.Lay
import Derived.WalkKit
import Derived.ProofKit
import Derived.OpenShut
import Derived.ShutString
import Derived.ChangeOld
import Derived.Below
import Derived.Handy
import Derived.Lib.Hide
import Derived.Lib.SmallJoins
namespace Go.Proofs.YtmjgblhihpbbdaaDoor.fnExactRunRestarted
open Go.ChangeShapes Go.WideShapes Go.ChangeAt Go.RowKit
open Go.ChangeMaps (open_string shut_string)
open Go.PlainAid (bt get_bt bt_nonneg bt_le)
open Go.Joins
set_option linter.unusedVariables false

theorem own : ownKnob Tryd.prog.godebug = none := by kernel_rfl
theorem laidOut : laidOutB Tryd.prog = true := by kernel_rfl

set_option maxHeartbeats 4000000 in
set_option maxRecDepth 100000 in
theorem walk (w : World) (a0 b0 : Int) (A0 : Option Addr) (n0 k0 : Nat) (S0 : Nat → ByteArray) (w0 : Strs w A0 n0 S0) (f0 : SFits n0 S0) (z0 : n0 ≤ maxLen) (x0 : (Lit.int .i64 a0).wf = true) (y0 : (Lit.int .i64 b0).wf = true) (a1 : Option Addr) (n1 k1 : Nat) (I1 : Nat → Int) (C1 : Nat → ByteArray) (w1 : Lts w a1 n1 I1 C1) (f1 : Fits n1 I1 C1) (z1 : n1 ≤ maxLen) (a2 : Int) (w2 : (Lit.int .i64 a2).wf = true) (a3 : Option Addr) (n3 k3 : Nat) (I3 C3 : Nat → Int) (w3 : Mss w a3 n3 I3 C3) (f3 : MFits n3 I3 C3) (z3 : n3 ≤ maxLen) (J : Addr) (hJ : Jam w J) :
    Calls Tryd.prog 6 #[.agg #[.int .i64 a0, .int .i64 b0, .slice A0 n0 k0], .slice a1 n1 k1, .int .i64 a2, .slice a3 n3 k3] w fun e w' => e = .returned (.bool true) ∧ Below w.heap.size w w' := by
  have HS := Lib.hid w0
  have HF := Lib.hid f0
  have HS1 := Lib.hid w1
  have HF1 := Lib.hid f1
  have ZL : n1 ≤ maxLen := z1
  have HS3 := Lib.hid w3
  have HF3 := Lib.hid f3
  have ZM : n3 ≤ maxLen := z3
  have HJ := Lib.hid hJ
  clear w0 w1 z1 w3 z3 hJ
  go_enter Tryd.func6, Tryd.ntmps6
  go_wp2_with fail
  refine (szPlan_any _ a0 b0 A0 n0 k0 S0 (HS.out.on (below_alloc0 _ _)) HF.out z0 _ (by omega) (by omega)).mono ?_
  rintro e w1 ⟨r, rfl, hr, hr1, k1⟩
  have BA := Lib.hid ((tri_made w (.int .i64 a0) (.int .i64 b0) (.slice A0 n0 k0) 24).on k1)
  have hb1 : Below w.heap.size w w1 := sstep (below_alloc0 _ _) k1
  have lo_BA : Hid (∀ k, k = w.heap.size → w.heap.size ≤ k ∧ k < w1.heap.size) := fun k hk => ⟨by omega, by have := BA.out.lt; omega⟩
  clear k1
  by_cases hneg : r < 0
  · go_wp2
    go_ret
    exact ⟨rfl, hb1⟩
  have hn : n0 ≤ 1048576 := by omega
  clear hr z0
  have BL := Lib.hid hb1
  have z1 := BL.out.size
  obtain ⟨⟨d0BA, d1BA, d2BA⟩, g0BA, g1BA, g2BA⟩ := BA.out
  have ltBA := BA.out.lt
  go_wp2_with fail
  refine (szLetterS_any _ a1 n1 k1 I1 C1 (HS1.out.on BL.out) HF1.out ZL _ (by omega) (by omega)).mono ?_
  rintro e w2 ⟨r2, rfl, hr2, hr3, k2⟩
  clear d0BA d1BA d2BA g0BA g1BA g2BA ltBA
  have z2 := k2.size
  replace BL := Lib.hid (step BL.out k2)
  replace BA := Lib.hid (BA.out.on k2)
  clear k2
  by_cases hneg2 : r2 < 0
  · go_wp2
    go_ret
    exact ⟨rfl, BL.out⟩
  have hn1 : n1 ≤ 1048576 := by omega
  clear hr2 hr1 ZL
  obtain ⟨⟨d0BA, d1BA, d2BA⟩, g0BA, g1BA, g2BA⟩ := BA.out
  have ltBA := BA.out.lt
  go_wp2_with fail
  refine (szMissortS_any _ a3 n3 k3 ZM _ (by omega) (by omega)).mono ?_
  rintro e w3 ⟨r3, rfl, hr4, hr5, k3⟩
  clear d0BA d1BA d2BA g0BA g1BA g2BA ltBA
  have z3 := k3.size
  replace BL := Lib.hid (step BL.out k3)
  replace BA := Lib.hid (BA.out.on k3)
  clear k3
  by_cases hneg3 : r3 < 0
  · go_wp2
    go_ret
    exact ⟨rfl, BL.out⟩
  have hn3 : n3 ≤ 1048576 := by omega
  clear hr4 hr5 hr3 ZM
  obtain ⟨mp, hmp⟩ : ∃ mp : Nat, 1 + n0 = mp := ⟨_, rfl⟩
  have MP : Hid (1 + (sst S0 n0).length = mp) := by rw [show (sst S0 n0).length = n0 by simp [sst]]; exact hmp
  have mp1 : 1 ≤ mp := by omega
  have mp2 : mp ≤ 2000000 := by omega
  have hls : (sst S0 n0).length ≤ 1048576 := by simp [sst]; exact hn
  obtain ⟨mq, hmq⟩ : ∃ mq : Nat, mp + 2 * n1 = mq := ⟨_, rfl⟩
  have MQ : Hid (mp + 2 * (M.lst I1 C1 n1).length = mq) := by rw [M.lst_length]; exact hmq
  have mq1 : 1 ≤ mq := by omega
  have mq2 : mq ≤ 5000000 := by omega
  obtain ⟨mr, hmr⟩ : ∃ mr : Nat, mq + 2 * n3 = mr := ⟨_, rfl⟩
  have MR := Lib.hid hmr
  have mr1 : 1 ≤ mr := by omega
  have mr2 : mr ≤ 8000000 := by omega
  have hle : (M.lst I1 C1 n1).length ≤ 1048576 := by rw [M.lst_length]; exact hn1
  clear hmp hmq hmr
  have q2 : (okAns a0 b0 n0 S0 n1 I1 C1 a2 n3 I3 C3 (resAns a0 b0 n0 S0 n1 I1 C1 a2.toNat n3 I3 C3)).length ≤ 60 := ans_len.2
  obtain ⟨LL, hLL⟩ : ∃ LL, okAns a0 b0 n0 S0 n1 I1 C1 a2 n3 I3 C3 (resAns a0 b0 n0 S0 n1 I1 C1 a2.toNat n3 I3 C3) = LL := ⟨_, rfl⟩
  obtain ⟨ok, hok⟩ : ∃ ok, faultyOk a0 b0 n0 S0 n1 I1 C1 a2 n3 I3 C3 = ok := ⟨_, rfl⟩
  have CS : Hid (∀ (W : World) (a : Option Addr) (c : Nat) (a' : Option Addr) (c' : Nat) (a'' : Option Addr) (c'' : Nat), Strs W a n0 S0 → Lts W a' n1 I1 C1 → Mss W a'' n3 I3 C3 → Calls Tryd.prog 31 #[.agg #[.int .i64 a0, .int .i64 b0, .slice a n0 c], .slice a' n1 c', .int .i64 a2, .slice a'' n3 c''] W (RowRes W ok LL)) := fun W a c a' c' a'' c'' hs hl hm => by
    have := spec_RunRestarted W a0 b0 a n0 c S0 hs HF.out hn a' n1 c' I1 C1 hl HF1.out hn1 a2 a'' n3 c'' I3 C3 hm HF3.out hn3
    rw [hok, hLL] at this
    exact this
  have CI : Hid (∀ (W : World) (a : Option Addr) (c : Nat) (a' : Option Addr) (c' : Nat) (a'' : Option Addr) (c'' : Nat), Jam W J → Strs W a n0 S0 → Lts W a' n1 I1 C1 → Mss W a'' n3 I3 C3 → Calls Tryd.prog 32 #[.agg #[.int .i64 a0, .int .i64 b0, .slice a n0 c], .slice a' n1 c', .int .i64 a2, .slice a'' n3 c''] W (RowRes W ok LL)) := fun W a c a' c' a'' c'' hj hs hl hm => by
    have := impl_RunRestarted W J hj a0 b0 a n0 c S0 hs HF.out hn a' n1 c' I1 C1 hl HF1.out a2 a'' n3 c'' I3 C3 hm HF3.out
    rw [hok, hLL] at this
    exact this
  rw [hLL] at q2
  have hll : LL.length ≤ 1048576 := by omega
  obtain ⟨mt, hmt⟩ : ∃ mt : Nat, 1 + 2 * LL.length = mt := ⟨_, rfl⟩
  have MT := Lib.hid hmt
  have mt1 : 1 ≤ mt := by omega
  have mt2 : mt ≤ 3000000 := by omega
  clear hLL hok hmt q2
  obtain ⟨⟨d0BA, d1BA, d2BA⟩, g0BA, g1BA, g2BA⟩ := BA.out
  have ltBA := BA.out.lt
  go_wp2_with fail
  refine (toPlan_any _ a0 b0 A0 n0 k0 S0 (HS.out.on BL.out) hn).mono ?_
  rintro e w4 ⟨p_ps, rfl, _, q_ps, k4⟩
  clear d0BA d1BA d2BA g0BA g1BA g2BA ltBA
  have z4 := k4.size
  replace BL := Lib.hid (step BL.out k4)
  replace BA := Lib.hid (BA.out.on k4)
  have ps := Lib.hid q_ps
  have lo_ps : Hid (∀ k, ((Value.slice (some ⟨p_ps, 0, none⟩) n0 n0).ownBlock = some k) → w3.heap.size ≤ k ∧ k < w4.heap.size) := fun k hk => ps.out.lt k hk
  clear k4
  obtain ⟨⟨d0BA, d1BA, d2BA⟩, g0BA, g1BA, g2BA⟩ := BA.out
  have ltBA := BA.out.lt
  go_wp2_with fail
  refine (toLetterS_row _ _ _ _ _ _ (HS1.out.on BL.out) hn1).mono ?_
  rintro e w5 ⟨b_xs, rfl, q_xs, k5⟩
  clear d0BA d1BA d2BA g0BA g1BA g2BA ltBA
  have z5 := k5.size
  replace BL := Lib.hid (step BL.out k5)
  replace BA := Lib.hid (BA.out.on k5)
  replace ps := Lib.hid (ps.out.on k5)
  have xs := Lib.hid q_xs
  have lo_xs : Hid (∀ k, ((Value.slice (some ⟨b_xs, 0, none⟩) n1 n1).ownBlock = some k) → w4.heap.size ≤ k ∧ k < w5.heap.size) := fun k hk => xs.out.lt k hk
  clear k5
  obtain ⟨⟨d0BA, d1BA, d2BA⟩, g0BA, g1BA, g2BA⟩ := BA.out
  have ltBA := BA.out.lt
  go_wp2_with fail
  refine (toMissortS_row _ a3 n3 k3 I3 C3 (HS3.out.on BL.out) hn3).mono ?_
  rintro e w6 ⟨b_ys, rfl, q_ys, k6⟩
  clear d0BA d1BA d2BA g0BA g1BA g2BA ltBA
  have z6 := k6.size
  replace BL := Lib.hid (step BL.out k6)
  replace BA := Lib.hid (BA.out.on k6)
  replace ps := Lib.hid (ps.out.on k6)
  replace xs := Lib.hid (xs.out.on k6)
  have ys := Lib.hid q_ys
  have lo_ys : Hid (∀ k, (k = b_ys) → w5.heap.size ≤ k ∧ k < w6.heap.size) := fun k hk => ys.out.lt k hk
  clear k6
  obtain ⟨⟨d0BA, d1BA, d2BA⟩, g0BA, g1BA, g2BA⟩ := BA.out
  have ltBA := BA.out.lt
  go_wp2_with fail
  refine (CS.out _ _ _ _ _ _ _ ps.out.strs xs.out.lts_lst ys.out.mss).mono ?_
  rintro e w7 ⟨v_r1w, rfl, q_r1w, k7⟩
  clear d0BA d1BA d2BA g0BA g1BA g2BA ltBA
  have z7 := k7.size
  replace BL := Lib.hid (step BL.out k7)
  replace BA := Lib.hid (BA.out.on k7)
  replace ps := Lib.hid (ps.out.on k7)
  replace xs := Lib.hid (xs.out.on k7)
  replace ys := Lib.hid (ys.out.on k7)
  have r1w := Lib.hid q_r1w
  have lo_r1w : Hid (∀ k, (v_r1w.ownBlock = some k) → w6.heap.size ≤ k ∧ k < w7.heap.size) := fun k hk => r1w.out.lt k hk
  clear k7
  clear ps lo_ps
  clear xs lo_xs
  clear ys lo_ys
  obtain ⟨⟨d0BA, d1BA, d2BA⟩, g0BA, g1BA, g2BA⟩ := BA.out
  have ltBA := BA.out.lt
  go_wp2_with fail
  refine (toPlan_any _ a0 b0 A0 n0 k0 S0 (HS.out.on BL.out) hn).mono ?_
  rintro e w8 ⟨p_p0, rfl, _, q_p0, k8⟩
  clear d0BA d1BA d2BA g0BA g1BA g2BA ltBA
  have z8 := k8.size
  replace BL := Lib.hid (step BL.out k8)
  replace BA := Lib.hid (BA.out.on k8)
  replace r1w := Lib.hid (r1w.out.on k8)
  have p0 := Lib.hid q_p0
  have lo_p0 : Hid (∀ k, ((Value.slice (some ⟨p_p0, 0, none⟩) n0 n0).ownBlock = some k) → w7.heap.size ≤ k ∧ k < w8.heap.size) := fun k hk => p0.out.lt k hk
  clear k8
  obtain ⟨w9, hw9⟩ : ∃ w9, w8.alloc (.cells #[.int .i64 a0, .int .i64 b0, .slice (some ⟨p_p0, 0, none⟩) n0 n0] 32) = w9 := ⟨_, rfl⟩
  have k9 : Below w8.heap.size w8 w9 := hw9 ▸ below_alloc0 w8 (.cells #[.int .i64 a0, .int .i64 b0, .slice (some ⟨p_p0, 0, none⟩) n0 n0] 32)
  have z9 := k9.size
  replace BL := Lib.hid (step BL.out k9)
  replace BA := Lib.hid (BA.out.on k9)
  replace r1w := Lib.hid (r1w.out.on k9)
  replace p0 := Lib.hid (p0.out.on k9)
  have BX : Hid (Tri w9 w8.heap.size (.int .i64 a0) (.int .i64 b0) (.slice (some ⟨p_p0, 0, none⟩) n0 n0)) := hw9 ▸ tri_made w8 (.int .i64 a0) (.int .i64 b0) (.slice (some ⟨p_p0, 0, none⟩) n0 n0) 32
  have lo_BX : Hid (∀ k, k = w8.heap.size → w8.heap.size ≤ k ∧ k < w9.heap.size) := fun k hk => ⟨by omega, by have := BX.out.lt; omega⟩
  have HW9 := Lib.hid hw9
  clear hw9 k9
  go_wp2_with fail
  rw [HW9.out]
  obtain ⟨⟨d0BA, d1BA, d2BA⟩, g0BA, g1BA, g2BA⟩ := BA.out
  have ltBA := BA.out.lt
  obtain ⟨⟨d0BX, d1BX, d2BX⟩, g0BX, g1BX, g2BX⟩ := BX.out
  have ltBX := BX.out.lt
  go_wp2_with fail
  refine (toLetterS_row _ _ _ _ _ _ (HS1.out.on BL.out) hn1).mono ?_
  rintro e w10 ⟨b_x0, rfl, q_x0, k10⟩
  clear d0BA d1BA d2BA g0BA g1BA g2BA ltBA
  clear d0BX d1BX d2BX g0BX g1BX g2BX ltBX
  have z10 := k10.size
  replace BL := Lib.hid (step BL.out k10)
  replace BA := Lib.hid (BA.out.on k10)
  replace r1w := Lib.hid (r1w.out.on k10)
  replace p0 := Lib.hid (p0.out.on k10)
  replace BX := Lib.hid (BX.out.on k10)
  have x0 := Lib.hid q_x0
  have lo_x0 : Hid (∀ k, ((Value.slice (some ⟨b_x0, 0, none⟩) n1 n1).ownBlock = some k) → w9.heap.size ≤ k ∧ k < w10.heap.size) := fun k hk => x0.out.lt k hk
  clear k10
  obtain ⟨⟨d0BA, d1BA, d2BA⟩, g0BA, g1BA, g2BA⟩ := BA.out
  have ltBA := BA.out.lt
  obtain ⟨⟨d0BX, d1BX, d2BX⟩, g0BX, g1BX, g2BX⟩ := BX.out
  have ltBX := BX.out.lt
  go_wp2_with fail
  refine (toMissortS_row _ a3 n3 k3 I3 C3 (HS3.out.on BL.out) hn3).mono ?_
  rintro e w11 ⟨b_y0, rfl, q_y0, k11⟩
  clear d0BA d1BA d2BA g0BA g1BA g2BA ltBA
  clear d0BX d1BX d2BX g0BX g1BX g2BX ltBX
  have z11 := k11.size
  replace BL := Lib.hid (step BL.out k11)
  replace BA := Lib.hid (BA.out.on k11)
  replace r1w := Lib.hid (r1w.out.on k11)
  replace p0 := Lib.hid (p0.out.on k11)
  replace BX := Lib.hid (BX.out.on k11)
  replace x0 := Lib.hid (x0.out.on k11)
  have y0 := Lib.hid q_y0
  have lo_y0 : Hid (∀ k, (k = b_y0) → w10.heap.size ≤ k ∧ k < w11.heap.size) := fun k hk => y0.out.lt k hk
  clear k11
  obtain ⟨⟨d0BA, d1BA, d2BA⟩, g0BA, g1BA, g2BA⟩ := BA.out
  have ltBA := BA.out.lt
  obtain ⟨⟨d0BX, d1BX, d2BX⟩, g0BX, g1BX, g2BX⟩ := BX.out
  have ltBX := BX.out.lt
  go_wp2_with fail
  refine (CI.out _ _ _ _ _ _ _ (HJ.out.on BL.out) p0.out.strs x0.out.lts_lst y0.out.mss).mono ?_
  rintro e w12 ⟨v_rg, rfl, q_rg, k12⟩
  clear d0BA d1BA d2BA g0BA g1BA g2BA ltBA
  clear d0BX d1BX d2BX g0BX g1BX g2BX ltBX
  have z12 := k12.size
  replace BL := Lib.hid (step BL.out k12)
  replace BA := Lib.hid (BA.out.on k12)
  replace r1w := Lib.hid (r1w.out.on k12)
  replace p0 := Lib.hid (p0.out.on k12)
  replace BX := Lib.hid (BX.out.on k12)
  replace x0 := Lib.hid (x0.out.on k12)
  replace y0 := Lib.hid (y0.out.on k12)
  have rg := Lib.hid q_rg
  have lo_rg : Hid (∀ k, (v_rg.ownBlock = some k) → w11.heap.size ≤ k ∧ k < w12.heap.size) := fun k hk => rg.out.lt k hk
  clear k12
  obtain ⟨⟨d0BA, d1BA, d2BA⟩, g0BA, g1BA, g2BA⟩ := BA.out
  have ltBA := BA.out.lt
  obtain ⟨⟨d0BX, d1BX, d2BX⟩, g0BX, g1BX, g2BX⟩ := BX.out
  have ltBX := BX.out.lt
  go_wp2_with fail
  refine (eqLetterS_row _ _ _ _ _ _ rg.out r1w.out hll).mono ?_
  rintro e w13 ⟨rfl, k13⟩
  clear d0BA d1BA d2BA g0BA g1BA g2BA ltBA
  clear d0BX d1BX d2BX g0BX g1BX g2BX ltBX
  have z13 := k13.size
  replace BL := Lib.hid (step BL.out k13)
  replace BA := Lib.hid (BA.out.on k13)
  replace r1w := Lib.hid (r1w.out.on k13)
  replace p0 := Lib.hid (p0.out.on k13)
  replace BX := Lib.hid (BX.out.on k13)
  replace x0 := Lib.hid (x0.out.on k13)
  replace y0 := Lib.hid (y0.out.on k13)
  replace rg := Lib.hid (rg.out.on k13)
  clear k13
  obtain ⟨⟨d0BA, d1BA, d2BA⟩, g0BA, g1BA, g2BA⟩ := BA.out
  have ltBA := BA.out.lt
  obtain ⟨⟨d0BX, d1BX, d2BX⟩, g0BX, g1BX, g2BX⟩ := BX.out
  have ltBX := BX.out.lt
  have HSC := Lib.hid (HS.out.on BL.out)
  have HXP := Lib.hid p0.out.strs
  go_wp2
  go_region_with (first
    | (go_at_call 10; refine (toPlan_any _ a0 b0 A0 n0 k0 S0 (HSC.out.on (by go_grown)) hn).mono ?_; rintro e wt ⟨gt, rfl, _, ot, kt⟩; have kT : Below w13.heap.size w13 wt := (by first | exact kt | exact sstep (by go_grown) kt); obtain ⟨⟨e0, e1, e2⟩, _⟩ := BX.out.on kT; have ht2 := Lib.hid ot.strs; clear ot)
    | (go_at_call 15; refine (eqPlan_same _ a0 b0 _ _ n0 _ _ S0 (HXP.out.on (by go_grown)) (ht2.out.on (by go_grown)) hn).mono ?_; rintro e w14 ⟨rfl, kq⟩; have k14 : Below w13.heap.size w13 w14 := (by first | exact sstep kT kq | exact sstep kT.drew kq); clear ht2 kq kT kt e0 e1 e2))
  clear d0BA d1BA d2BA g0BA g1BA g2BA ltBA
  clear d0BX d1BX d2BX g0BX g1BX g2BX ltBX
  all_goals
    have z14 := k14.size
    replace BL := Lib.hid (step BL.out k14)
    replace BA := Lib.hid (BA.out.on k14)
    replace r1w := Lib.hid (r1w.out.on k14)
    replace p0 := Lib.hid (p0.out.on k14)
    replace BX := Lib.hid (BX.out.on k14)
    replace x0 := Lib.hid (x0.out.on k14)
    replace y0 := Lib.hid (y0.out.on k14)
    replace rg := Lib.hid (rg.out.on k14)
    clear k14 HSC HXP
    obtain ⟨⟨d0BA, d1BA, d2BA⟩, g0BA, g1BA, g2BA⟩ := BA.out
    have ltBA := BA.out.lt
    obtain ⟨⟨d0BX, d1BX, d2BX⟩, g0BX, g1BX, g2BX⟩ := BX.out
    have ltBX := BX.out.lt
    go_wp2_with fail
    refine (toLetterS_row _ _ _ _ _ _ (HS1.out.on BL.out) hn1).mono ?_
    rintro e w15 ⟨b_xc, rfl, q_xc, k15⟩
    clear d0BA d1BA d2BA g0BA g1BA g2BA ltBA
    clear d0BX d1BX d2BX g0BX g1BX g2BX ltBX
    have z15 := k15.size
    replace BL := Lib.hid (step BL.out k15)
    replace BA := Lib.hid (BA.out.on k15)
    replace r1w := Lib.hid (r1w.out.on k15)
    replace p0 := Lib.hid (p0.out.on k15)
    replace BX := Lib.hid (BX.out.on k15)
    replace x0 := Lib.hid (x0.out.on k15)
    replace y0 := Lib.hid (y0.out.on k15)
    replace rg := Lib.hid (rg.out.on k15)
    have xc := Lib.hid q_xc
    have lo_xc : Hid (∀ k, ((Value.slice (some ⟨b_xc, 0, none⟩) n1 n1).ownBlock = some k) → w14.heap.size ≤ k ∧ k < w15.heap.size) := fun k hk => xc.out.lt k hk
    clear k15
    obtain ⟨⟨d0BA, d1BA, d2BA⟩, g0BA, g1BA, g2BA⟩ := BA.out
    have ltBA := BA.out.lt
    obtain ⟨⟨d0BX, d1BX, d2BX⟩, g0BX, g1BX, g2BX⟩ := BX.out
    have ltBX := BX.out.lt
    go_wp2_with fail
    refine (eqLetterS_row _ _ _ _ _ _ x0.out xc.out hle).mono ?_
    rintro e w16 ⟨rfl, k16⟩
    clear d0BA d1BA d2BA g0BA g1BA g2BA ltBA
    clear d0BX d1BX d2BX g0BX g1BX g2BX ltBX
    have z16 := k16.size
    replace BL := Lib.hid (step BL.out k16)
    replace BA := Lib.hid (BA.out.on k16)
    replace r1w := Lib.hid (r1w.out.on k16)
    replace p0 := Lib.hid (p0.out.on k16)
    replace BX := Lib.hid (BX.out.on k16)
    replace x0 := Lib.hid (x0.out.on k16)
    replace y0 := Lib.hid (y0.out.on k16)
    replace rg := Lib.hid (rg.out.on k16)
    replace xc := Lib.hid (xc.out.on k16)
    clear k16
    clear xc lo_xc
    obtain ⟨⟨d0BA, d1BA, d2BA⟩, g0BA, g1BA, g2BA⟩ := BA.out
    have ltBA := BA.out.lt
    obtain ⟨⟨d0BX, d1BX, d2BX⟩, g0BX, g1BX, g2BX⟩ := BX.out
    have ltBX := BX.out.lt
    go_wp2_with fail
    refine (toMissortS_row _ a3 n3 k3 I3 C3 (HS3.out.on BL.out) hn3).mono ?_
    rintro e w17 ⟨b_yc, rfl, q_yc, k17⟩
    clear d0BA d1BA d2BA g0BA g1BA g2BA ltBA
    clear d0BX d1BX d2BX g0BX g1BX g2BX ltBX
    have z17 := k17.size
    replace BL := Lib.hid (step BL.out k17)
    replace BA := Lib.hid (BA.out.on k17)
    replace r1w := Lib.hid (r1w.out.on k17)
    replace p0 := Lib.hid (p0.out.on k17)
    replace BX := Lib.hid (BX.out.on k17)
    replace x0 := Lib.hid (x0.out.on k17)
    replace y0 := Lib.hid (y0.out.on k17)
    replace rg := Lib.hid (rg.out.on k17)
    have yc := Lib.hid q_yc
    have lo_yc : Hid (∀ k, (k = b_yc) → w16.heap.size ≤ k ∧ k < w17.heap.size) := fun k hk => yc.out.lt k hk
    clear k17
    obtain ⟨⟨d0BA, d1BA, d2BA⟩, g0BA, g1BA, g2BA⟩ := BA.out
    have ltBA := BA.out.lt
    obtain ⟨⟨d0BX, d1BX, d2BX⟩, g0BX, g1BX, g2BX⟩ := BX.out
    have ltBX := BX.out.lt
    go_wp2_with fail
    refine (eqMissortS_same _ _ _ n3 _ _ _ _ y0.out.mss yc.out.mss hn3).mono ?_
    rintro e w18 ⟨rfl, k18⟩
    clear d0BA d1BA d2BA g0BA g1BA g2BA ltBA
    clear d0BX d1BX d2BX g0BX g1BX g2BX ltBX
    have z18 := k18.size
    replace BL := Lib.hid (step BL.out k18)
    replace BA := Lib.hid (BA.out.on k18)
    replace r1w := Lib.hid (r1w.out.on k18)
    replace p0 := Lib.hid (p0.out.on k18)
    replace BX := Lib.hid (BX.out.on k18)
    replace x0 := Lib.hid (x0.out.on k18)
    replace y0 := Lib.hid (y0.out.on k18)
    replace rg := Lib.hid (rg.out.on k18)
    replace yc := Lib.hid (yc.out.on k18)
    clear k18
    clear yc lo_yc
    obtain ⟨⟨d0BA, d1BA, d2BA⟩, g0BA, g1BA, g2BA⟩ := BA.out
    have ltBA := BA.out.lt
    obtain ⟨⟨d0BX, d1BX, d2BX⟩, g0BX, g1BX, g2BX⟩ := BX.out
    have ltBX := BX.out.lt
    go_wp2_with fail
    refine (markPlan_row _ _ _ _ _ _ 1 p0.out hls (by omega) (by omega)).mono ?_
    rw [MP.out]
    rintro e w19 ⟨rfl, o19⟩
    clear d0BA d1BA d2BA g0BA g1BA g2BA ltBA
    clear d0BX d1BX d2BX g0BX g1BX g2BX ltBX
    have z19 := o19.size
    replace BL := Lib.hid (BL.out.trans (o19.below (B := w.heap.size) (fun k hk _ hs => by have := (lo_p0.out k hs).1; omega) (by omega)))
    replace BA := Lib.hid (triOnly BA.out o19 (fun hs => by have h1 := lo_BA.out _ rfl; have h2 := lo_p0.out _ hs; omega))
    replace r1w := Lib.hid (r1w.out.only o19 (fun k hk hs => by have h1 := lo_r1w.out k hk; have h2 := lo_p0.out k hs; omega))
    replace BX := Lib.hid (triOnly BX.out o19 (fun hs => by have h1 := lo_BX.out _ rfl; have h2 := lo_p0.out _ hs; omega))
    replace x0 := Lib.hid (x0.out.only o19 (fun k hk hs => by have h1 := lo_x0.out k hk; have h2 := lo_p0.out k hs; omega))
    replace y0 := Lib.hid (y0.out.only o19 (fun k hk hs => by have h1 := lo_y0.out k hk; have h2 := lo_p0.out k hs; omega))
    replace rg := Lib.hid (rg.out.only o19 (fun k hk hs => by have h1 := lo_rg.out k hk; have h2 := lo_p0.out k hs; omega))
    clear p0 lo_p0 o19
    obtain ⟨⟨d0BA, d1BA, d2BA⟩, g0BA, g1BA, g2BA⟩ := BA.out
    have ltBA := BA.out.lt
    obtain ⟨⟨d0BX, d1BX, d2BX⟩, g0BX, g1BX, g2BX⟩ := BX.out
    have ltBX := BX.out.lt
    go_wp2_with fail
    refine (markLetterS_row _ _ _ _ mp x0.out hle (by omega) (by omega)).mono ?_
    rw [MQ.out]
    rintro e w20 ⟨rfl, r20, o20⟩
    clear d0BA d1BA d2BA g0BA g1BA g2BA ltBA
    clear d0BX d1BX d2BX g0BX g1BX g2BX ltBX
    replace o20 := (Only.of_grown o20).mono (T := fun k => (Value.slice (some ⟨b_x0, 0, none⟩) n1 n1).ownBlock = some k) (fun k _ e => e.symm)
    have z20 := o20.size
    replace BL := Lib.hid (BL.out.trans (o20.below (B := w.heap.size) (fun k hk _ hs => by have := (lo_x0.out k hs).1; omega) (by omega)))
    replace BA := Lib.hid (triOnly BA.out o20 (fun hs => by have h1 := lo_BA.out _ rfl; have h2 := lo_x0.out _ hs; omega))
    replace r1w := Lib.hid (r1w.out.only o20 (fun k hk hs => by have h1 := lo_r1w.out k hk; have h2 := lo_x0.out k hs; omega))
    replace BX := Lib.hid (triOnly BX.out o20 (fun hs => by have h1 := lo_BX.out _ rfl; have h2 := lo_x0.out _ hs; omega))
    replace y0 := Lib.hid (y0.out.only o20 (fun k hk hs => by have h1 := lo_y0.out k hk; have h2 := lo_x0.out k hs; omega))
    replace rg := Lib.hid (rg.out.only o20 (fun k hk hs => by have h1 := lo_rg.out k hk; have h2 := lo_x0.out k hs; omega))
    replace x0 := Lib.hid r20
    clear r20 o20
    obtain ⟨⟨d0BA, d1BA, d2BA⟩, g0BA, g1BA, g2BA⟩ := BA.out
    have ltBA := BA.out.lt
    obtain ⟨⟨d0BX, d1BX, d2BX⟩, g0BX, g1BX, g2BX⟩ := BX.out
    have ltBX := BX.out.lt
    go_wp2_with fail
    refine (markMissortS_row _ _ _ _ _ _ mq y0.out hn3 (by omega) (by omega)).mono ?_
    rw [MR.out]
    rintro e w21 ⟨rfl, o21⟩
    clear d0BA d1BA d2BA g0BA g1BA g2BA ltBA
    clear d0BX d1BX d2BX g0BX g1BX g2BX ltBX
    have z21 := o21.size
    replace BL := Lib.hid (BL.out.trans (o21.below (B := w.heap.size) (fun k hk _ hs => by have := (lo_y0.out k hs).1; omega) (by omega)))
    replace BA := Lib.hid (triOnly BA.out o21 (fun hs => by have h1 := lo_BA.out _ rfl; have h2 := lo_y0.out _ hs; omega))
    replace r1w := Lib.hid (r1w.out.only o21 (fun k hk hs => by have h1 := lo_r1w.out k hk; have h2 := lo_y0.out k hs; omega))
    replace BX := Lib.hid (triOnly BX.out o21 (fun hs => by have h1 := lo_BX.out _ rfl; have h2 := lo_y0.out _ hs; omega))
    replace x0 := Lib.hid (x0.out.only o21 (fun k hk hs => by have h1 := lo_x0.out k hk; have h2 := lo_y0.out k hs; omega))
    replace rg := Lib.hid (rg.out.only o21 (fun k hk hs => by have h1 := lo_rg.out k hk; have h2 := lo_y0.out k hs; omega))
    clear y0 lo_y0 o21
    obtain ⟨⟨d0BA, d1BA, d2BA⟩, g0BA, g1BA, g2BA⟩ := BA.out
    have ltBA := BA.out.lt
    obtain ⟨⟨d0BX, d1BX, d2BX⟩, g0BX, g1BX, g2BX⟩ := BX.out
    have ltBX := BX.out.lt
    go_wp2_with fail
    refine (eqLetterS_row _ _ _ _ _ _ rg.out r1w.out hll).mono ?_
    rintro e w22 ⟨rfl, k22⟩
    clear d0BA d1BA d2BA g0BA g1BA g2BA ltBA
    clear d0BX d1BX d2BX g0BX g1BX g2BX ltBX
    have z22 := k22.size
    replace BL := Lib.hid (step BL.out k22)
    replace BA := Lib.hid (BA.out.on k22)
    replace r1w := Lib.hid (r1w.out.on k22)
    replace BX := Lib.hid (BX.out.on k22)
    replace x0 := Lib.hid (x0.out.on k22)
    replace rg := Lib.hid (rg.out.on k22)
    clear k22
    obtain ⟨⟨d0BA, d1BA, d2BA⟩, g0BA, g1BA, g2BA⟩ := BA.out
    have ltBA := BA.out.lt
    obtain ⟨⟨d0BX, d1BX, d2BX⟩, g0BX, g1BX, g2BX⟩ := BX.out
    have ltBX := BX.out.lt
    go_wp2_with fail
    refine (markLetterS_row _ _ _ _ 1 rg.out hll (by omega) (by omega)).mono ?_
    rw [MT.out]
    rintro e w23 ⟨rfl, r23, o23⟩
    clear d0BA d1BA d2BA g0BA g1BA g2BA ltBA
    clear d0BX d1BX d2BX g0BX g1BX g2BX ltBX
    replace o23 := (Only.of_grown o23).mono (T := fun k => v_rg.ownBlock = some k) (fun k _ e => e.symm)
    have z23 := o23.size
    replace BL := Lib.hid (BL.out.trans (o23.below (B := w.heap.size) (fun k hk _ hs => by have := (lo_rg.out k hs).1; omega) (by omega)))
    replace BA := Lib.hid (triOnly BA.out o23 (fun hs => by have h1 := lo_BA.out _ rfl; have h2 := lo_rg.out _ hs; omega))
    replace r1w := Lib.hid (r1w.out.only o23 (fun k hk hs => by have h1 := lo_r1w.out k hk; have h2 := lo_rg.out k hs; omega))
    replace BX := Lib.hid (triOnly BX.out o23 (fun hs => by have h1 := lo_BX.out _ rfl; have h2 := lo_rg.out _ hs; omega))
    replace x0 := Lib.hid (x0.out.only o23 (fun k hk hs => by have h1 := lo_x0.out k hk; have h2 := lo_rg.out k hs; omega))
    replace rg := Lib.hid r23
    clear r23 o23
    obtain ⟨⟨d0BA, d1BA, d2BA⟩, g0BA, g1BA, g2BA⟩ := BA.out
    have ltBA := BA.out.lt
    obtain ⟨⟨d0BX, d1BX, d2BX⟩, g0BX, g1BX, g2BX⟩ := BX.out
    have ltBX := BX.out.lt
    go_wp2_with fail
    refine (heldLetterS_row _ _ _ 1 LL.length rg.out hll (by omega) (by omega)).mono ?_
    rw [MT.out]
    rintro e w24 ⟨rfl, k24⟩
    clear d0BA d1BA d2BA g0BA g1BA g2BA ltBA
    clear d0BX d1BX d2BX g0BX g1BX g2BX ltBX
    have z24 := k24.size
    replace BL := Lib.hid (step BL.out k24)
    replace BA := Lib.hid (BA.out.on k24)
    replace r1w := Lib.hid (r1w.out.on k24)
    replace BX := Lib.hid (BX.out.on k24)
    replace x0 := Lib.hid (x0.out.on k24)
    replace rg := Lib.hid (rg.out.on k24)
    clear k24
    clear x0 lo_x0
    obtain ⟨⟨d0BA, d1BA, d2BA⟩, g0BA, g1BA, g2BA⟩ := BA.out
    have ltBA := BA.out.lt
    obtain ⟨⟨d0BX, d1BX, d2BX⟩, g0BX, g1BX, g2BX⟩ := BX.out
    have ltBX := BX.out.lt
    go_wp2_with fail
    refine (toPlan_any _ a0 b0 A0 n0 k0 S0 (HS.out.on BL.out) hn).mono ?_
    rintro e w25 ⟨p_ph, rfl, _, q_ph, k25⟩
    clear d0BA d1BA d2BA g0BA g1BA g2BA ltBA
    clear d0BX d1BX d2BX g0BX g1BX g2BX ltBX
    have z25 := k25.size
    replace BL := Lib.hid (step BL.out k25)
    replace BA := Lib.hid (BA.out.on k25)
    replace r1w := Lib.hid (r1w.out.on k25)
    replace BX := Lib.hid (BX.out.on k25)
    replace rg := Lib.hid (rg.out.on k25)
    have ph := Lib.hid q_ph
    have lo_ph : Hid (∀ k, ((Value.slice (some ⟨p_ph, 0, none⟩) n0 n0).ownBlock = some k) → w24.heap.size ≤ k ∧ k < w25.heap.size) := fun k hk => ph.out.lt k hk
    clear k25
    obtain ⟨⟨d0BA, d1BA, d2BA⟩, g0BA, g1BA, g2BA⟩ := BA.out
    have ltBA := BA.out.lt
    obtain ⟨⟨d0BX, d1BX, d2BX⟩, g0BX, g1BX, g2BX⟩ := BX.out
    have ltBX := BX.out.lt
    go_wp2_with fail
    refine (toLetterS_row _ _ _ _ _ _ (HS1.out.on BL.out) hn1).mono ?_
    rintro e w26 ⟨b_xh, rfl, q_xh, k26⟩
    clear d0BA d1BA d2BA g0BA g1BA g2BA ltBA
    clear d0BX d1BX d2BX g0BX g1BX g2BX ltBX
    have z26 := k26.size
    replace BL := Lib.hid (step BL.out k26)
    replace BA := Lib.hid (BA.out.on k26)
    replace r1w := Lib.hid (r1w.out.on k26)
    replace BX := Lib.hid (BX.out.on k26)
    replace rg := Lib.hid (rg.out.on k26)
    replace ph := Lib.hid (ph.out.on k26)
    have xh := Lib.hid q_xh
    have lo_xh : Hid (∀ k, ((Value.slice (some ⟨b_xh, 0, none⟩) n1 n1).ownBlock = some k) → w25.heap.size ≤ k ∧ k < w26.heap.size) := fun k hk => xh.out.lt k hk
    clear k26
    obtain ⟨⟨d0BA, d1BA, d2BA⟩, g0BA, g1BA, g2BA⟩ := BA.out
    have ltBA := BA.out.lt
    obtain ⟨⟨d0BX, d1BX, d2BX⟩, g0BX, g1BX, g2BX⟩ := BX.out
    have ltBX := BX.out.lt
    go_wp2_with fail
    refine (toMissortS_row _ a3 n3 k3 I3 C3 (HS3.out.on BL.out) hn3).mono ?_
    rintro e w27 ⟨b_yh, rfl, q_yh, k27⟩
    clear d0BA d1BA d2BA g0BA g1BA g2BA ltBA
    clear d0BX d1BX d2BX g0BX g1BX g2BX ltBX
    have z27 := k27.size
    replace BL := Lib.hid (step BL.out k27)
    replace BA := Lib.hid (BA.out.on k27)
    replace r1w := Lib.hid (r1w.out.on k27)
    replace BX := Lib.hid (BX.out.on k27)
    replace rg := Lib.hid (rg.out.on k27)
    replace ph := Lib.hid (ph.out.on k27)
    replace xh := Lib.hid (xh.out.on k27)
    have yh := Lib.hid q_yh
    have lo_yh : Hid (∀ k, (k = b_yh) → w26.heap.size ≤ k ∧ k < w27.heap.size) := fun k hk => yh.out.lt k hk
    clear k27
    obtain ⟨⟨d0BA, d1BA, d2BA⟩, g0BA, g1BA, g2BA⟩ := BA.out
    have ltBA := BA.out.lt
    obtain ⟨⟨d0BX, d1BX, d2BX⟩, g0BX, g1BX, g2BX⟩ := BX.out
    have ltBX := BX.out.lt
    go_wp2_with fail
    refine (CI.out _ _ _ _ _ _ _ (HJ.out.on BL.out) ph.out.strs xh.out.lts_lst yh.out.mss).mono ?_
    rintro e w28 ⟨v_rh, rfl, q_rh, k28⟩
    clear d0BA d1BA d2BA g0BA g1BA g2BA ltBA
    clear d0BX d1BX d2BX g0BX g1BX g2BX ltBX
    have z28 := k28.size
    replace BL := Lib.hid (step BL.out k28)
    replace BA := Lib.hid (BA.out.on k28)
    replace r1w := Lib.hid (r1w.out.on k28)
    replace BX := Lib.hid (BX.out.on k28)
    replace rg := Lib.hid (rg.out.on k28)
    replace ph := Lib.hid (ph.out.on k28)
    replace xh := Lib.hid (xh.out.on k28)
    replace yh := Lib.hid (yh.out.on k28)
    have rh := Lib.hid q_rh
    have lo_rh : Hid (∀ k, (v_rh.ownBlock = some k) → w27.heap.size ≤ k ∧ k < w28.heap.size) := fun k hk => rh.out.lt k hk
    clear k28
    clear ph lo_ph
    clear xh lo_xh
    clear yh lo_yh
    obtain ⟨⟨d0BA, d1BA, d2BA⟩, g0BA, g1BA, g2BA⟩ := BA.out
    have ltBA := BA.out.lt
    obtain ⟨⟨d0BX, d1BX, d2BX⟩, g0BX, g1BX, g2BX⟩ := BX.out
    have ltBX := BX.out.lt
    go_wp2_with fail
    refine (eqLetterS_row _ _ _ _ _ _ rh.out r1w.out hll).mono ?_
    rintro e w29 ⟨rfl, k29⟩
    clear d0BA d1BA d2BA g0BA g1BA g2BA ltBA
    clear d0BX d1BX d2BX g0BX g1BX g2BX ltBX
    have z29 := k29.size
    replace BL := Lib.hid (step BL.out k29)
    replace BA := Lib.hid (BA.out.on k29)
    replace r1w := Lib.hid (r1w.out.on k29)
    replace BX := Lib.hid (BX.out.on k29)
    replace rg := Lib.hid (rg.out.on k29)
    replace rh := Lib.hid (rh.out.on k29)
    clear k29
    obtain ⟨⟨d0BA, d1BA, d2BA⟩, g0BA, g1BA, g2BA⟩ := BA.out
    have ltBA := BA.out.lt
    obtain ⟨⟨d0BX, d1BX, d2BX⟩, g0BX, g1BX, g2BX⟩ := BX.out
    have ltBX := BX.out.lt
    go_wp2_with fail
    refine (heldLetterS_row _ _ _ 1 LL.length rg.out hll (by omega) (by omega)).mono ?_
    rw [MT.out]
    rintro e w30 ⟨rfl, k30⟩
    clear d0BA d1BA d2BA g0BA g1BA g2BA ltBA
    clear d0BX d1BX d2BX g0BX g1BX g2BX ltBX
    have z30 := k30.size
    replace BL := Lib.hid (step BL.out k30)
    replace BA := Lib.hid (BA.out.on k30)
    replace r1w := Lib.hid (r1w.out.on k30)
    replace BX := Lib.hid (BX.out.on k30)
    replace rg := Lib.hid (rg.out.on k30)
    replace rh := Lib.hid (rh.out.on k30)
    clear k30
    go_wp2
    go_ret
    exact ⟨rfl, BL.out⟩

set_option maxRecDepth 100000 in
theorem lifted (os : Os) (started : os.Started) (H : Type) (enc : TypeId × Value → H) :
    ReturnsInHanded {} Tryd.checked os 6 .any (fun w args => (Rows.fnExactRunRestartedSpec.pre enc Tryd.prog Tryd.f6 [] false w args ∧ laidMetH Tryd.prog Rows.fnExactRunRestartedRow.laid w) ∧ sizedMet enc Tryd.prog Tryd.f6 (OpenSpec.ofChange Rows.fnExactRunRestartedSpec) false w args)
      (Rows.fnExactRunRestartedSpec.post enc Tryd.prog Tryd.f6 false true false false) := by
  refine returnsInHanded_of_change_and (C := Tryd.checked) (X := fun w _ => laidMetH Tryd.prog Rows.fnExactRunRestartedRow.laid w) (fun _ _ _ hh h => h.of_heap hh) own started (by kernel_rfl) Tryd.func6
    (ChangeSpec.witness_shaped (enc := enc) (C := Tryd.checked) (os := os) (X := fun w _ => laidMetH Tryd.prog Rows.fnExactRunRestartedRow.laid w) false (World.laidAll Tryd.prog os Rows.fnExactRunRestartedRow.laid) #[.agg #[.int .i64 0, .int .i64 0, .slice none 0 0], .slice none 0 0, .int .i64 0, .slice none 0 0] 8 (World.laidAll_os _ _ _) (World.shaped_of_ZipB (by kernel_rfl) (by kernel_rfl)) (by kernel_rfl) (by kernel_rfl) (by kernel_rfl) (Laid.door_jam os _)) ?_
  intro W base args ds gs before hval0 hW _ _ hL _
  have hval : ∀ (j : Nat) t v, Tryd.f6.params[j]? = some t → args[j]? = some v → Value.okWide Tryd.prog W .any base t v := hval0
  have hW' := hW
  obtain ⟨p, q, hA0, hV, rfl, hfz, hnd⟩ := hW
  have hA : DataW.TrodAll enc Tryd.prog W 0 (fun _ => true) true Tryd.f6.params.toList args.toList ds p := hA0
  rw [Tryd.params6] at hA hval
  obtain ⟨v0, vs0, d0, ds0, p0, q0, hargs, rfl, rfl, h0, r0⟩ := trodAll_cons hA
  obtain ⟨v1, vs1, d1, ds1, p1, q1, rfl, rfl, rfl, h1, r1⟩ := trodAll_cons r0
  obtain ⟨v2, vs2, d2, ds2, p2, q2, rfl, rfl, rfl, h2, r2⟩ := trodAll_cons r1
  obtain ⟨v3, vs3, d3, ds3, p3, q3, rfl, rfl, rfl, h3, r3⟩ := trodAll_cons r2
  obtain ⟨rfl, rfl, rfl⟩ := trodAll_nil r3
  obtain rfl : args = #[v0, v1, v2, v3] := by cases args; simp_all
  have hV' : DataW.TrodVars enc Tryd.prog W (fun _ => true) ["loop.example/sortingoffice/impl.errJam"] gs q := hV
  obtain ⟨J, hvJ, hJ⟩ := Laid.of_jam hL
  obtain ⟨rfl, rfl⟩ := hV'.unique (Laid.jam_read enc hvJ _)
  have g0 := h0
  have lt0 : ∀ x ∈ p0, x.block < W.heap.size := by obtain ⟨m, hm⟩ := g0; exact DataW.trod_lt m _ _ _ hm
  have g1 := h1
  have lt1 : ∀ x ∈ p1, x.block < W.heap.size := by obtain ⟨m, hm⟩ := g1; exact DataW.trod_lt m _ _ _ hm
  have g2 := h2
  have lt2 : ∀ x ∈ p2, x.block < W.heap.size := by obtain ⟨m, hm⟩ := g2; exact DataW.trod_lt m _ _ _ hm
  have g3 := h3
  have lt3 : ∀ x ∈ p3, x.block < W.heap.size := by obtain ⟨m, hm⟩ := g3; exact DataW.trod_lt m _ _ _ hm
  obtain ⟨u0, t0, s0, m00, m10, m20, j0, rfl, _, _, q00, q10, q20⟩ := open_agg3 Tryd.underlying24 (by kernel_rfl) (by kernel_rfl) (hval 0 24 v0 rfl rfl) h0
  obtain ⟨a0, ea0, _, x0⟩ := DataW.trod_int Tryd.underlying3 q00
  obtain ⟨b0, eb0, _, y0⟩ := DataW.trod_int Tryd.underlying3 q10
  obtain rfl := List.singleton_inj.1 ea0
  obtain rfl := List.singleton_inj.1 eb0
  obtain ⟨A0, n0, k0, S0, rfl, w0, f0, z0⟩ := open_strs q20
  obtain ⟨a1, n1, k1, rfl⟩ := okWide_slice Tryd.underlying44 (hval 1 44 v1 rfl rfl)
  obtain ⟨I1, C1, w1, f1, z1⟩ : ∃ I C, Lts W a1 n1 I C ∧ Fits n1 I C ∧ n1 ≤ maxLen := by
    obtain ⟨fuel, hf⟩ := h1
    exact open_letters hf
  obtain ⟨a2, rfl, _, _, w2⟩ := open_int Tryd.underlying3 (hval 2 3 v2 rfl rfl) h2
  obtain ⟨a3, n3, k3, rfl⟩ := okWide_slice Tryd.underlying45 (hval 3 45 v3 rfl rfl)
  obtain ⟨I3, C3, w3, f3, z3⟩ : ∃ I C, Mss W a3 n3 I C ∧ MFits n3 I C ∧ n3 ≤ maxLen := by
    obtain ⟨fuel, hf⟩ := h3
    exact open_missorts hf
  clear hA0 hval0
  refine (walk W a0 b0 A0 n0 k0 S0 w0 f0 z0 x0 y0 a1 n1 k1 I1 C1 w1 f1 z1 a2 w2 a3 n3 k3 I3 C3 w3 f3 z3 J hJ).mono fun e W' ⟨he, bel⟩ => ?_
  subst he
  exact ⟨_, rfl, _, _, _, [], _, _, hW', trodAll_mk1 (shut_bool Tryd.underlying4 _), (trodAll_cons_mk (Below.trod laidOut (by kernel_rfl) (of_decide_eq_true (by kernel_rfl)) g0 bel lt0) (trodAll_cons_mk (Below.trod laidOut (by kernel_rfl) (of_decide_eq_true (by kernel_rfl)) g1 bel lt1) (trodAll_cons_mk (Below.trod laidOut (by kernel_rfl) (of_decide_eq_true (by kernel_rfl)) g2 bel lt2) (trodAll_cons_mk (Below.trod laidOut (by kernel_rfl) (of_decide_eq_true (by kernel_rfl)) g3 bel lt3) trodAll_mk0)))), Laid.jam_read enc (Go.Joins.var_stays Laid.jam_named hvJ bel (Nat.le_refl _)) _, bel.frame _, fun h => by cases h⟩

theorem row_holds : Rows.FnExactRunRestartedSaid :=
  OpenClaim.holds_of_wide 6 Tryd.f6 rfl rfl rfl rfl rfl rfl rfl ⟨rfl, rfl, rfl, rfl, rfl⟩ rfl rfl rfl rfl rfl (by kernel_rfl) Tryd.func6 (by kernel_rfl)
    (of_decide_eq_true (by kernel_rfl)) (by unfold Func.isWrapper; first | (rw [if_pos (by decide +kernel)]; kernel_rfl) | (rw [if_neg (by decide +kernel)]; exact ⟨rfl, rfl⟩))
    (fun os started H enc _ => lifted os started H enc)

theorem proved : Rows.FnExactRunRestartedCardSaid :=
  Claim7.holds_tied_plain_at .later [] [.sentinel] true Rows.fnExactRunRestartedCard.stood.harness true
    row_holds (fun _ h => by cases h) (by kernel_rfl) (fun _ h => by cases h) fnExactRunRestarted_row_tie rfl ⟨rfl, rfl⟩ (by kernel_rfl) rfl
    (fun f fn hf hfn => by
      obtain rfl : f = 6 := Option.some.inj ((show Tryd.prog.funcNamed Rows.fnExactRunRestartedRow.func = some 6 by kernel_rfl).symm.trans hf) |>.symm
      obtain rfl : fn = Tryd.f6 := (Option.some.inj (Tryd.func6.symm.trans hfn)).symm
      exact ⟨by kernel_rfl, fun j t ht => by
        rw [Tryd.params6] at ht
        have hm : t ∈ [24, 44, 3, 45] := by simpa using Array.mem_of_getElem? ht
        have hall : ([24, 44, 3, 45].all fun u => !Tryd.prog.wantsStandIn u) = true := by kernel_rfl
        exact (show Tryd.prog.wantsStandIn t = false by simpa using List.all_eq_true.1 hall t hm)⟩)
    (by kernel_rfl)
#print axioms proved
end Go.Proofs.YtmjgblhihpbbdaaDoor.fnExactRunRestarted
