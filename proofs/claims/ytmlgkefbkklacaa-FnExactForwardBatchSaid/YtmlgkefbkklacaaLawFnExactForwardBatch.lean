/-
  For every slice of orders and every slice of letters, laws.FnExactForwardBatch returns true: the program's ForwardBatch answers as the model of the document does, and its answer owns its memory. No condition.
-/
import Derived.Test.YtmlgkefbkklacaaRows
import Derived.Test.YtmlgkefbkklacaaFBatch
import Derived.Test.YtmlgkefbkklacaaFRow
import Derived.Test.YtmlgkefbkklacaaLetOpen
import Derived.Test.YtmlgkefbkklacaaFwdOpen
import Derived.Test.YtmlgkefbkklacaaMatL
import Derived.WalkKit
import Derived.ProofKit
import Derived.OpenShut
import Derived.ShutString
import Derived.ChangeOld
import Derived.Below
import Derived.Handy
import Derived.Lib.Hide
namespace Go.Proofs.Ytmlgkefbkklacaa.fnExactForwardBatch
open Go.ChangeShapes Go.WideShapes Go.ChangeAt Go.RowKit
open Go.ChangeMaps (open_string shut_string)
open Go.PlainAid (bt get_bt bt_nonneg bt_le)
set_option linter.unusedVariables false

theorem own : ownKnob Try.prog.godebug = none := by kernel_rfl
theorem laidOut : laidOutB Try.prog = true := by kernel_rfl

set_option maxHeartbeats 4000000 in
set_option maxRecDepth 100000 in
theorem walk (w : World) (a0 : Option Addr) (n0 k0 : Nat) (I0 C0 : Nat → ByteArray) (w0 : Fws w a0 n0 I0 C0) (f0 : FFits n0 I0 C0) (z0 : n0 ≤ maxLen) (a1 : Option Addr) (n1 k1 : Nat) (I1 : Nat → Int) (C1 : Nat → ByteArray) (w1 : Lts w a1 n1 I1 C1) (f1 : Fits n1 I1 C1) (z1 : n1 ≤ maxLen) :
    Calls Try.prog 11 #[.slice a0 n0 k0, .slice a1 n1 k1] w fun e w' => e = .returned (.bool true) ∧ Below w.heap.size w w' := by
  have HL := Lib.hid w0
  have HF := Lib.hid f0
  have HS1 := Lib.hid w1
  have HF1 := Lib.hid f1
  have ZS : n1 ≤ maxLen := z1
  clear w0 f0 w1 f1 z1
  go_enter Try.func11, Try.ntmps11
  go_wp2_with fail
  refine (szForwardS_any _ _ _ _ _ _ HL.out HF.out z0 _ (by omega) (by omega)).mono ?_
  rintro e w1 ⟨r, rfl, hr, hr1, hb1⟩
  by_cases hneg : r < 0
  · go_wp2
    go_ret
    exact ⟨rfl, hb1⟩
  have hn : n0 ≤ 1048576 := by omega
  clear hr z0
  go_wp2_with fail
  refine (szLetterS_any _ a1 n1 k1 I1 C1 (HS1.out.on hb1) HF1.out ZS _ (by omega) (by omega)).mono ?_
  rintro e w1 ⟨r2, rfl, hr2, hr3, hbz⟩
  replace hb1 := step hb1 hbz
  by_cases hneg2 : r2 < 0
  · go_wp2
    go_ret
    exact ⟨rfl, hb1⟩
  have hn1 : n1 ≤ 1048576 := by omega
  clear hr1 hr2 hr3 ZS hbz
  have BL := Lib.hid hb1
  have z1 := BL.out.size
  have hI := M.fbSent_le I0 C0 n0 I1 C1 n1
  have hO := M.fbStuck_le I0 C0 n0 I1 C1 n1
  obtain ⟨ok, hok⟩ : ∃ ok, M.fbOk I0 C0 n0 I1 C1 n1 = ok := ⟨_, rfl⟩
  obtain ⟨L1, hL1⟩ : ∃ L1, M.fbSent I0 C0 n0 I1 C1 n1 = L1 := ⟨_, rfl⟩
  obtain ⟨L2, hL2⟩ : ∃ L2, M.fbStuck I0 C0 n0 I1 C1 n1 = L2 := ⟨_, rfl⟩
  have CS : Hid (∀ (W : World) (a : Option Addr) (c : Nat) (a' : Option Addr) (c' : Nat), Fws W a n0 I0 C0 → Lts W a' n1 I1 C1 → Calls Try.prog 38 #[.slice a n0 c, .slice a' n1 c'] W (Split W ok L1 L2)) := fun W a c a' c' hl hs => by
    have := spec_ForwardBatch W a n0 c I0 C0 hl HF.out hn a' n1 c' I1 C1 hs HF1.out hn1
    rw [hok, hL1, hL2] at this
    exact this
  have CI : Hid (∀ (W : World) (a : Option Addr) (c : Nat) (a' : Option Addr) (c' : Nat), Fws W a n0 I0 C0 → Lts W a' n1 I1 C1 → Calls Try.prog 40 #[.slice a n0 c, .slice a' n1 c'] W (Split W ok L1 L2)) := fun W a c a' c' hl hs => by
    have := impl_ForwardBatch W a n0 c I0 C0 hl HF.out a' n1 c' I1 C1 hs HF1.out
    rw [hok, hL1, hL2] at this
    exact this
  rw [hL1] at hI
  rw [hL2] at hO
  have hl1 : L1.length ≤ 1048576 := by omega
  have hl2 : L2.length ≤ 1048576 := by omega
  obtain ⟨m1, hm1⟩ : ∃ m1 : Nat, 1 + 2 * L1.length = m1 := ⟨_, rfl⟩
  obtain ⟨m2, hm2⟩ : ∃ m2 : Nat, m1 + 2 * L2.length = m2 := ⟨_, rfl⟩
  obtain ⟨m0, hm0⟩ : ∃ m0 : Nat, 1 + 2 * n0 = m0 := ⟨_, rfl⟩
  obtain ⟨m3, hm3⟩ : ∃ m3 : Nat, m0 + 2 * n1 = m3 := ⟨_, rfl⟩
  have M0 : Hid (1 + 2 * (M.flst I0 C0 n0).length = m0) := by rw [M.flst_length]; exact hm0
  have M3 : Hid (m0 + 2 * (M.lst I1 C1 n1).length = m3) := by rw [M.lst_length]; exact hm3
  have M1 := Lib.hid hm1
  have M2 := Lib.hid hm2
  have b1 : 1 ≤ m1 := by omega
  have b2 : m1 ≤ 4000000 := by omega
  have b3 : m2 ≤ 8000000 := by omega
  have b4 : 1 ≤ m0 := by omega
  have b5 : m0 ≤ 4000000 := by omega
  have b6 : m3 ≤ 8000000 := by omega
  have b7 : 1 ≤ m3 := by omega
  have b8 : 1 ≤ m2 := by omega
  have hle : (M.flst I0 C0 n0).length ≤ 1048576 := by rw [M.flst_length]; exact hn
  have hls : (M.lst I1 C1 n1).length ≤ 1048576 := by rw [M.lst_length]; exact hn1
  clear hok hL1 hL2 hm0 hm1 hm2 hm3 hI hO
  go_wp2_with fail
  refine (toForwardS_row _ a0 n0 k0 I0 C0 (HL.out.on BL.out) hn).mono ?_
  rintro e w2 ⟨b_xs, rfl, q_xs, k2⟩
  have z2 := k2.size
  replace BL := Lib.hid (step BL.out k2)
  have xs := Lib.hid q_xs
  have lo_xs : Hid (∀ k, ((Value.slice (some ⟨b_xs, 0, none⟩) n0 n0).ownBlock = some k) → w1.heap.size ≤ k ∧ k < w2.heap.size) := fun k hk => xs.out.lt k hk
  clear k2
  go_wp2_with fail
  refine (toLetterS_row _ a1 n1 k1 I1 C1 (HS1.out.on BL.out) hn1).mono ?_
  rintro e w3 ⟨p_ts, rfl, q_ts, k3⟩
  have z3 := k3.size
  replace BL := Lib.hid (step BL.out k3)
  replace xs := Lib.hid (xs.out.on k3)
  have ts := Lib.hid q_ts
  have lo_ts : Hid (∀ k, ((Value.slice (some ⟨p_ts, 0, none⟩) n1 n1).ownBlock = some k) → w2.heap.size ≤ k ∧ k < w3.heap.size) := fun k hk => ts.out.lt k hk
  clear k3
  go_wp2_with fail
  refine (CS.out _ _ _ _ _ xs.out.fws_lst ts.out.lts_lst).mono ?_
  rintro e w4 ⟨v_wr1, v_wr2, rfl, q_wr1, q_wr2, ap_wr1, k4⟩
  have z4 := k4.size
  replace BL := Lib.hid (step BL.out k4)
  replace xs := Lib.hid (xs.out.on k4)
  replace ts := Lib.hid (ts.out.on k4)
  have wr1 := Lib.hid q_wr1
  have lo_wr1 : Hid (∀ k, (v_wr1.ownBlock = some k) → w3.heap.size ≤ k ∧ k < w4.heap.size) := fun k hk => wr1.out.lt k hk
  have wr2 := Lib.hid q_wr2
  have lo_wr2 : Hid (∀ k, (v_wr2.ownBlock = some k) → w3.heap.size ≤ k ∧ k < w4.heap.size) := fun k hk => wr2.out.lt k hk
  clear k4
  have AP_wr1 := Lib.hid ap_wr1
  clear ap_wr1
  clear xs lo_xs
  clear ts lo_ts
  go_wp2_with fail
  refine (toForwardS_row _ a0 n0 k0 I0 C0 (HL.out.on BL.out) hn).mono ?_
  rintro e w5 ⟨b_x0, rfl, q_x0, k5⟩
  have z5 := k5.size
  replace BL := Lib.hid (step BL.out k5)
  replace wr1 := Lib.hid (wr1.out.on k5)
  replace wr2 := Lib.hid (wr2.out.on k5)
  have x0 := Lib.hid q_x0
  have lo_x0 : Hid (∀ k, ((Value.slice (some ⟨b_x0, 0, none⟩) n0 n0).ownBlock = some k) → w4.heap.size ≤ k ∧ k < w5.heap.size) := fun k hk => x0.out.lt k hk
  clear k5
  go_wp2_with fail
  refine (toLetterS_row _ a1 n1 k1 I1 C1 (HS1.out.on BL.out) hn1).mono ?_
  rintro e w6 ⟨p_x1, rfl, q_x1, k6⟩
  have z6 := k6.size
  replace BL := Lib.hid (step BL.out k6)
  replace wr1 := Lib.hid (wr1.out.on k6)
  replace wr2 := Lib.hid (wr2.out.on k6)
  replace x0 := Lib.hid (x0.out.on k6)
  have x1 := Lib.hid q_x1
  have lo_x1 : Hid (∀ k, ((Value.slice (some ⟨p_x1, 0, none⟩) n1 n1).ownBlock = some k) → w5.heap.size ≤ k ∧ k < w6.heap.size) := fun k hk => x1.out.lt k hk
  clear k6
  go_wp2_with fail
  refine (CI.out _ _ _ _ _ x0.out.fws_lst x1.out.lts_lst).mono ?_
  rintro e w7 ⟨v_g1, v_g2, rfl, q_g1, q_g2, ap_g1, k7⟩
  have z7 := k7.size
  replace BL := Lib.hid (step BL.out k7)
  replace wr1 := Lib.hid (wr1.out.on k7)
  replace wr2 := Lib.hid (wr2.out.on k7)
  replace x0 := Lib.hid (x0.out.on k7)
  replace x1 := Lib.hid (x1.out.on k7)
  have g1 := Lib.hid q_g1
  have lo_g1 : Hid (∀ k, (v_g1.ownBlock = some k) → w6.heap.size ≤ k ∧ k < w7.heap.size) := fun k hk => g1.out.lt k hk
  have g2 := Lib.hid q_g2
  have lo_g2 : Hid (∀ k, (v_g2.ownBlock = some k) → w6.heap.size ≤ k ∧ k < w7.heap.size) := fun k hk => g2.out.lt k hk
  clear k7
  have AP_g1 := Lib.hid ap_g1
  clear ap_g1
  go_wp2_with fail
  refine (eqLetterS_row _ _ _ _ _ _ g1.out wr1.out hl1).mono ?_
  rintro e w8 ⟨rfl, k8⟩
  have z8 := k8.size
  replace BL := Lib.hid (step BL.out k8)
  replace wr1 := Lib.hid (wr1.out.on k8)
  replace wr2 := Lib.hid (wr2.out.on k8)
  replace x0 := Lib.hid (x0.out.on k8)
  replace x1 := Lib.hid (x1.out.on k8)
  replace g1 := Lib.hid (g1.out.on k8)
  replace g2 := Lib.hid (g2.out.on k8)
  clear k8
  go_wp2_with fail
  refine (eqLetterS_row _ _ _ _ _ _ g2.out wr2.out hl2).mono ?_
  rintro e w9 ⟨rfl, k9⟩
  have z9 := k9.size
  replace BL := Lib.hid (step BL.out k9)
  replace wr1 := Lib.hid (wr1.out.on k9)
  replace wr2 := Lib.hid (wr2.out.on k9)
  replace x0 := Lib.hid (x0.out.on k9)
  replace x1 := Lib.hid (x1.out.on k9)
  replace g1 := Lib.hid (g1.out.on k9)
  replace g2 := Lib.hid (g2.out.on k9)
  clear k9
  go_wp2_with fail
  refine (toForwardS_row _ a0 n0 k0 I0 C0 (HL.out.on BL.out) hn).mono ?_
  rintro e w10 ⟨b_xc, rfl, q_xc, k10⟩
  have z10 := k10.size
  replace BL := Lib.hid (step BL.out k10)
  replace wr1 := Lib.hid (wr1.out.on k10)
  replace wr2 := Lib.hid (wr2.out.on k10)
  replace x0 := Lib.hid (x0.out.on k10)
  replace x1 := Lib.hid (x1.out.on k10)
  replace g1 := Lib.hid (g1.out.on k10)
  replace g2 := Lib.hid (g2.out.on k10)
  have xc := Lib.hid q_xc
  have lo_xc : Hid (∀ k, ((Value.slice (some ⟨b_xc, 0, none⟩) n0 n0).ownBlock = some k) → w9.heap.size ≤ k ∧ k < w10.heap.size) := fun k hk => xc.out.lt k hk
  clear k10
  go_wp2_with fail
  refine (eqForwardS_row _ _ _ _ _ _ x0.out xc.out hle).mono ?_
  rintro e w11 ⟨rfl, k11⟩
  have z11 := k11.size
  replace BL := Lib.hid (step BL.out k11)
  replace wr1 := Lib.hid (wr1.out.on k11)
  replace wr2 := Lib.hid (wr2.out.on k11)
  replace x0 := Lib.hid (x0.out.on k11)
  replace x1 := Lib.hid (x1.out.on k11)
  replace g1 := Lib.hid (g1.out.on k11)
  replace g2 := Lib.hid (g2.out.on k11)
  replace xc := Lib.hid (xc.out.on k11)
  clear k11
  clear xc lo_xc
  go_wp2_with fail
  refine (toLetterS_row _ a1 n1 k1 I1 C1 (HS1.out.on BL.out) hn1).mono ?_
  rintro e w12 ⟨p_tc, rfl, q_tc, k12⟩
  have z12 := k12.size
  replace BL := Lib.hid (step BL.out k12)
  replace wr1 := Lib.hid (wr1.out.on k12)
  replace wr2 := Lib.hid (wr2.out.on k12)
  replace x0 := Lib.hid (x0.out.on k12)
  replace x1 := Lib.hid (x1.out.on k12)
  replace g1 := Lib.hid (g1.out.on k12)
  replace g2 := Lib.hid (g2.out.on k12)
  have tc := Lib.hid q_tc
  have lo_tc : Hid (∀ k, ((Value.slice (some ⟨p_tc, 0, none⟩) n1 n1).ownBlock = some k) → w11.heap.size ≤ k ∧ k < w12.heap.size) := fun k hk => tc.out.lt k hk
  clear k12
  go_wp2_with fail
  refine (eqLetterS_row _ _ _ _ _ _ x1.out tc.out hls).mono ?_
  rintro e w13 ⟨rfl, k13⟩
  have z13 := k13.size
  replace BL := Lib.hid (step BL.out k13)
  replace wr1 := Lib.hid (wr1.out.on k13)
  replace wr2 := Lib.hid (wr2.out.on k13)
  replace x0 := Lib.hid (x0.out.on k13)
  replace x1 := Lib.hid (x1.out.on k13)
  replace g1 := Lib.hid (g1.out.on k13)
  replace g2 := Lib.hid (g2.out.on k13)
  replace tc := Lib.hid (tc.out.on k13)
  clear k13
  clear tc lo_tc
  go_wp2_with fail
  refine (markForwardS_row _ _ _ _ 1 x0.out hle (by omega) (by omega)).mono ?_
  rw [M0.out]
  rintro e w14 ⟨rfl, r14, o14⟩
  replace o14 := (Only.of_grown o14).mono (T := fun k => (Value.slice (some ⟨b_x0, 0, none⟩) n0 n0).ownBlock = some k) (fun k _ e => e.symm)
  have z14 := o14.size
  replace BL := Lib.hid (BL.out.trans (o14.below (B := w.heap.size) (fun k hk _ hs => by have := (lo_x0.out k hs).1; omega) (by omega)))
  replace wr1 := Lib.hid (wr1.out.only o14 (fun k hk hs => by have h1 := lo_wr1.out k hk; have h2 := lo_x0.out k hs; omega))
  replace wr2 := Lib.hid (wr2.out.only o14 (fun k hk hs => by have h1 := lo_wr2.out k hk; have h2 := lo_x0.out k hs; omega))
  replace x1 := Lib.hid (x1.out.only o14 (fun k hk hs => by have h1 := lo_x1.out k hk; have h2 := lo_x0.out k hs; omega))
  replace g1 := Lib.hid (g1.out.only o14 (fun k hk hs => by have h1 := lo_g1.out k hk; have h2 := lo_x0.out k hs; omega))
  replace g2 := Lib.hid (g2.out.only o14 (fun k hk hs => by have h1 := lo_g2.out k hk; have h2 := lo_x0.out k hs; omega))
  replace x0 := Lib.hid r14
  clear r14 o14
  go_wp2_with fail
  refine (markLetterS_row _ _ _ _ m0 x1.out hls (by omega) (by omega)).mono ?_
  rw [M3.out]
  rintro e w15 ⟨rfl, r15, o15⟩
  replace o15 := (Only.of_grown o15).mono (T := fun k => (Value.slice (some ⟨p_x1, 0, none⟩) n1 n1).ownBlock = some k) (fun k _ e => e.symm)
  have z15 := o15.size
  replace BL := Lib.hid (BL.out.trans (o15.below (B := w.heap.size) (fun k hk _ hs => by have := (lo_x1.out k hs).1; omega) (by omega)))
  replace wr1 := Lib.hid (wr1.out.only o15 (fun k hk hs => by have h1 := lo_wr1.out k hk; have h2 := lo_x1.out k hs; omega))
  replace wr2 := Lib.hid (wr2.out.only o15 (fun k hk hs => by have h1 := lo_wr2.out k hk; have h2 := lo_x1.out k hs; omega))
  replace x0 := Lib.hid (x0.out.only o15 (fun k hk hs => by have h1 := lo_x0.out k hk; have h2 := lo_x1.out k hs; omega))
  replace g1 := Lib.hid (g1.out.only o15 (fun k hk hs => by have h1 := lo_g1.out k hk; have h2 := lo_x1.out k hs; omega))
  replace g2 := Lib.hid (g2.out.only o15 (fun k hk hs => by have h1 := lo_g2.out k hk; have h2 := lo_x1.out k hs; omega))
  replace x1 := Lib.hid r15
  clear r15 o15
  go_wp2_with fail
  refine (eqLetterS_row _ _ _ _ _ _ g1.out wr1.out hl1).mono ?_
  rintro e w16 ⟨rfl, k16⟩
  have z16 := k16.size
  replace BL := Lib.hid (step BL.out k16)
  replace wr1 := Lib.hid (wr1.out.on k16)
  replace wr2 := Lib.hid (wr2.out.on k16)
  replace x0 := Lib.hid (x0.out.on k16)
  replace x1 := Lib.hid (x1.out.on k16)
  replace g1 := Lib.hid (g1.out.on k16)
  replace g2 := Lib.hid (g2.out.on k16)
  clear k16
  go_wp2_with fail
  refine (eqLetterS_row _ _ _ _ _ _ g2.out wr2.out hl2).mono ?_
  rintro e w17 ⟨rfl, k17⟩
  have z17 := k17.size
  replace BL := Lib.hid (step BL.out k17)
  replace wr1 := Lib.hid (wr1.out.on k17)
  replace wr2 := Lib.hid (wr2.out.on k17)
  replace x0 := Lib.hid (x0.out.on k17)
  replace x1 := Lib.hid (x1.out.on k17)
  replace g1 := Lib.hid (g1.out.on k17)
  replace g2 := Lib.hid (g2.out.on k17)
  clear k17
  go_wp2_with fail
  refine (markLetterS_row _ _ _ _ 1 g1.out hl1 (by omega) (by omega)).mono ?_
  rw [M1.out]
  rintro e w18 ⟨rfl, r18, o18⟩
  replace o18 := (Only.of_grown o18).mono (T := fun k => v_g1.ownBlock = some k) (fun k _ e => e.symm)
  have z18 := o18.size
  replace BL := Lib.hid (BL.out.trans (o18.below (B := w.heap.size) (fun k hk _ hs => by have := (lo_g1.out k hs).1; omega) (by omega)))
  replace wr1 := Lib.hid (wr1.out.only o18 (fun k hk hs => by have h1 := lo_wr1.out k hk; have h2 := lo_g1.out k hs; omega))
  replace wr2 := Lib.hid (wr2.out.only o18 (fun k hk hs => by have h1 := lo_wr2.out k hk; have h2 := lo_g1.out k hs; omega))
  replace x0 := Lib.hid (x0.out.only o18 (fun k hk hs => by have h1 := lo_x0.out k hk; have h2 := lo_g1.out k hs; omega))
  replace x1 := Lib.hid (x1.out.only o18 (fun k hk hs => by have h1 := lo_x1.out k hk; have h2 := lo_g1.out k hs; omega))
  replace g2 := Lib.hid (g2.out.only o18 (fun k hk hs => AP_g1.out k hs hk))
  replace g1 := Lib.hid r18
  clear r18 o18
  go_wp2_with fail
  refine (markLetterS_row _ _ _ _ m1 g2.out hl2 (by omega) (by omega)).mono ?_
  rw [M2.out]
  rintro e w19 ⟨rfl, r19, o19⟩
  replace o19 := (Only.of_grown o19).mono (T := fun k => v_g2.ownBlock = some k) (fun k _ e => e.symm)
  have z19 := o19.size
  replace BL := Lib.hid (BL.out.trans (o19.below (B := w.heap.size) (fun k hk _ hs => by have := (lo_g2.out k hs).1; omega) (by omega)))
  replace wr1 := Lib.hid (wr1.out.only o19 (fun k hk hs => by have h1 := lo_wr1.out k hk; have h2 := lo_g2.out k hs; omega))
  replace wr2 := Lib.hid (wr2.out.only o19 (fun k hk hs => by have h1 := lo_wr2.out k hk; have h2 := lo_g2.out k hs; omega))
  replace x0 := Lib.hid (x0.out.only o19 (fun k hk hs => by have h1 := lo_x0.out k hk; have h2 := lo_g2.out k hs; omega))
  replace x1 := Lib.hid (x1.out.only o19 (fun k hk hs => by have h1 := lo_x1.out k hk; have h2 := lo_g2.out k hs; omega))
  replace g1 := Lib.hid (g1.out.only o19 (fun k hk hs => AP_g1.out k hk hs))
  replace g2 := Lib.hid r19
  clear r19 o19
  go_wp2_with fail
  refine (heldLetterS_row _ _ _ 1 L1.length g1.out hl1 (by omega) (by omega)).mono ?_
  rw [M1.out]
  rintro e w20 ⟨rfl, k20⟩
  have z20 := k20.size
  replace BL := Lib.hid (step BL.out k20)
  replace wr1 := Lib.hid (wr1.out.on k20)
  replace wr2 := Lib.hid (wr2.out.on k20)
  replace x0 := Lib.hid (x0.out.on k20)
  replace x1 := Lib.hid (x1.out.on k20)
  replace g1 := Lib.hid (g1.out.on k20)
  replace g2 := Lib.hid (g2.out.on k20)
  clear k20
  go_wp2_with fail
  refine (heldLetterS_row _ _ _ m1 L2.length g2.out hl2 (by omega) (by omega)).mono ?_
  rw [M2.out]
  rintro e w21 ⟨rfl, k21⟩
  have z21 := k21.size
  replace BL := Lib.hid (step BL.out k21)
  replace wr1 := Lib.hid (wr1.out.on k21)
  replace wr2 := Lib.hid (wr2.out.on k21)
  replace x0 := Lib.hid (x0.out.on k21)
  replace x1 := Lib.hid (x1.out.on k21)
  replace g1 := Lib.hid (g1.out.on k21)
  replace g2 := Lib.hid (g2.out.on k21)
  clear k21
  clear x0 lo_x0
  clear x1 lo_x1
  go_wp2_with fail
  refine (toForwardS_row _ a0 n0 k0 I0 C0 (HL.out.on BL.out) hn).mono ?_
  rintro e w22 ⟨b_xh, rfl, q_xh, k22⟩
  have z22 := k22.size
  replace BL := Lib.hid (step BL.out k22)
  replace wr1 := Lib.hid (wr1.out.on k22)
  replace wr2 := Lib.hid (wr2.out.on k22)
  replace g1 := Lib.hid (g1.out.on k22)
  replace g2 := Lib.hid (g2.out.on k22)
  have xh := Lib.hid q_xh
  have lo_xh : Hid (∀ k, ((Value.slice (some ⟨b_xh, 0, none⟩) n0 n0).ownBlock = some k) → w21.heap.size ≤ k ∧ k < w22.heap.size) := fun k hk => xh.out.lt k hk
  clear k22
  go_wp2_with fail
  refine (toLetterS_row _ a1 n1 k1 I1 C1 (HS1.out.on BL.out) hn1).mono ?_
  rintro e w23 ⟨p_th, rfl, q_th, k23⟩
  have z23 := k23.size
  replace BL := Lib.hid (step BL.out k23)
  replace wr1 := Lib.hid (wr1.out.on k23)
  replace wr2 := Lib.hid (wr2.out.on k23)
  replace g1 := Lib.hid (g1.out.on k23)
  replace g2 := Lib.hid (g2.out.on k23)
  replace xh := Lib.hid (xh.out.on k23)
  have th := Lib.hid q_th
  have lo_th : Hid (∀ k, ((Value.slice (some ⟨p_th, 0, none⟩) n1 n1).ownBlock = some k) → w22.heap.size ≤ k ∧ k < w23.heap.size) := fun k hk => th.out.lt k hk
  clear k23
  go_wp2_with fail
  refine (CI.out _ _ _ _ _ xh.out.fws_lst th.out.lts_lst).mono ?_
  rintro e w24 ⟨v_h1, v_h2, rfl, q_h1, q_h2, ap_h1, k24⟩
  have z24 := k24.size
  replace BL := Lib.hid (step BL.out k24)
  replace wr1 := Lib.hid (wr1.out.on k24)
  replace wr2 := Lib.hid (wr2.out.on k24)
  replace g1 := Lib.hid (g1.out.on k24)
  replace g2 := Lib.hid (g2.out.on k24)
  replace xh := Lib.hid (xh.out.on k24)
  replace th := Lib.hid (th.out.on k24)
  have h1 := Lib.hid q_h1
  have lo_h1 : Hid (∀ k, (v_h1.ownBlock = some k) → w23.heap.size ≤ k ∧ k < w24.heap.size) := fun k hk => h1.out.lt k hk
  have h2 := Lib.hid q_h2
  have lo_h2 : Hid (∀ k, (v_h2.ownBlock = some k) → w23.heap.size ≤ k ∧ k < w24.heap.size) := fun k hk => h2.out.lt k hk
  clear k24
  have AP_h1 := Lib.hid ap_h1
  clear ap_h1
  clear xh lo_xh
  clear th lo_th
  go_wp2_with fail
  refine (eqLetterS_row _ _ _ _ _ _ h1.out wr1.out hl1).mono ?_
  rintro e w25 ⟨rfl, k25⟩
  have z25 := k25.size
  replace BL := Lib.hid (step BL.out k25)
  replace wr1 := Lib.hid (wr1.out.on k25)
  replace wr2 := Lib.hid (wr2.out.on k25)
  replace g1 := Lib.hid (g1.out.on k25)
  replace g2 := Lib.hid (g2.out.on k25)
  replace h1 := Lib.hid (h1.out.on k25)
  replace h2 := Lib.hid (h2.out.on k25)
  clear k25
  go_wp2_with fail
  refine (eqLetterS_row _ _ _ _ _ _ h2.out wr2.out hl2).mono ?_
  rintro e w26 ⟨rfl, k26⟩
  have z26 := k26.size
  replace BL := Lib.hid (step BL.out k26)
  replace wr1 := Lib.hid (wr1.out.on k26)
  replace wr2 := Lib.hid (wr2.out.on k26)
  replace g1 := Lib.hid (g1.out.on k26)
  replace g2 := Lib.hid (g2.out.on k26)
  replace h1 := Lib.hid (h1.out.on k26)
  replace h2 := Lib.hid (h2.out.on k26)
  clear k26
  clear h1 lo_h1
  clear h2 lo_h2
  go_wp2_with fail
  refine (heldLetterS_row _ _ _ 1 L1.length g1.out hl1 (by omega) (by omega)).mono ?_
  rw [M1.out]
  rintro e w27 ⟨rfl, k27⟩
  have z27 := k27.size
  replace BL := Lib.hid (step BL.out k27)
  replace wr1 := Lib.hid (wr1.out.on k27)
  replace wr2 := Lib.hid (wr2.out.on k27)
  replace g1 := Lib.hid (g1.out.on k27)
  replace g2 := Lib.hid (g2.out.on k27)
  clear k27
  go_wp2_with fail
  refine (heldLetterS_row _ _ _ m1 L2.length g2.out hl2 (by omega) (by omega)).mono ?_
  rw [M2.out]
  rintro e w28 ⟨rfl, k28⟩
  have z28 := k28.size
  replace BL := Lib.hid (step BL.out k28)
  replace wr1 := Lib.hid (wr1.out.on k28)
  replace wr2 := Lib.hid (wr2.out.on k28)
  replace g1 := Lib.hid (g1.out.on k28)
  replace g2 := Lib.hid (g2.out.on k28)
  clear k28
  go_wp2
  go_ret
  exact ⟨rfl, BL.out⟩

set_option maxRecDepth 100000 in
theorem lifted (os : Os) (started : os.Started) (H : Type) (enc : TypeId × Value → H) :
    ReturnsInHanded {} Try.checked os 11 .any (Rows.fnExactForwardBatchSpec.pre6 enc Try.prog Try.f11 Rows.fnExactForwardBatchRow.domain false) (Rows.fnExactForwardBatchSpec.post enc Try.prog Try.f11 false true false false) := by
  refine returnsInHanded_of_change (C := Try.checked) own started (by kernel_rfl) Try.func11
    (ChangeSpec.witness6 (enc := enc) (C := Try.checked) false ⟨#[], #[.slice none 0 0, .slice none 0 0], []⟩ 8 (by kernel_rfl) (by kernel_rfl) (by kernel_rfl) (by kernel_rfl)) ?_
  intro W base args ds gs before hval0 hW hcnd _
  have hval : ∀ (j : Nat) t v, Try.f11.params[j]? = some t → args[j]? = some v → Value.okWide Try.prog W .any base t v := hval0
  have hW' := hW
  obtain ⟨p, q, hA0, hV, rfl, hfz, hnd⟩ := hW
  have hA : DataW.TrodAll enc Try.prog W 0 (fun _ => true) true Try.f11.params.toList args.toList ds p := hA0
  rw [Try.params11] at hA hval
  obtain ⟨v0, vs0, d0, ds0, p0, q0, hargs, rfl, rfl, h0, r0⟩ := trodAll_cons hA
  obtain ⟨v1, vs1, d1, ds1, p1, q1, rfl, rfl, rfl, h1, r1⟩ := trodAll_cons r0
  obtain ⟨rfl, rfl, rfl⟩ := trodAll_nil r1
  obtain rfl : args = #[v0, v1] := by cases args; simp_all
  obtain ⟨rfl, rfl⟩ := trodVars_none hV
  have g0 := h0
  have lt0 : ∀ x ∈ p0, x.block < W.heap.size := by obtain ⟨m, hm⟩ := g0; exact DataW.trod_lt m _ _ _ hm
  have g1 := h1
  have lt1 : ∀ x ∈ p1, x.block < W.heap.size := by obtain ⟨m, hm⟩ := g1; exact DataW.trod_lt m _ _ _ hm
  obtain ⟨a0, n0, k0, rfl⟩ := okWide_slice Try.underlying22 (hval 0 22 v0 rfl rfl)
  obtain ⟨I0, C0, w0, f0, z0⟩ : ∃ I C, Fws W a0 n0 I C ∧ FFits n0 I C ∧ n0 ≤ maxLen := by
    obtain ⟨fuel, hf⟩ := h0
    exact open_forwards hf
  obtain ⟨a1, n1, k1, rfl⟩ := okWide_slice Try.underlying45 (hval 1 45 v1 rfl rfl)
  obtain ⟨I1, C1, w1, f1, z1⟩ : ∃ I C, Lts W a1 n1 I C ∧ Fits n1 I C ∧ n1 ≤ maxLen := by
    obtain ⟨fuel, hf⟩ := h1
    exact open_letters hf
  clear hA0 hval0
  refine (walk W a0 n0 k0 I0 C0 w0 f0 z0 a1 n1 k1 I1 C1 w1 f1 z1).mono fun e W' ⟨he, bel⟩ => ?_
  subst he
  exact ⟨_, rfl, _, _, _, [], _, [], hW', trodAll_mk1 (shut_bool Try.underlying4 _), (trodAll_cons_mk (Below.trod laidOut (by kernel_rfl) (of_decide_eq_true (by kernel_rfl)) g0 bel lt0) (trodAll_cons_mk (Below.trod laidOut (by kernel_rfl) (of_decide_eq_true (by kernel_rfl)) g1 bel lt1) trodAll_mk0)), rfl, bel.frame _, fun h => by cases h⟩

theorem proved : Rows.FnExactForwardBatchSaid :=
  OpenClaim.holds_of_wide 11 Try.f11 rfl rfl rfl rfl rfl rfl rfl ⟨rfl, rfl, rfl, rfl, rfl⟩ rfl rfl rfl rfl rfl (by kernel_rfl) Try.func11 (by kernel_rfl)
    (of_decide_eq_true (by kernel_rfl)) (by unfold Func.isWrapper; first | (rw [if_pos (by decide +kernel)]; kernel_rfl) | (rw [if_neg (by decide +kernel)]; exact ⟨rfl, rfl⟩))
    (fun os started H enc _ => lifted os started H enc)
#print axioms proved
end Go.Proofs.Ytmlgkefbkklacaa.fnExactForwardBatch
