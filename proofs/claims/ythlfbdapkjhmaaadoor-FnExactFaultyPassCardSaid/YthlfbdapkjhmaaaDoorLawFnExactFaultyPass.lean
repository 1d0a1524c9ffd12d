/-
  For every plan, slice of letters, number and slice of missorts, laws.FnExactFaultyPass returns true: the program's FaultyPass answers as the model of the document does, and its answer owns its memory. No condition but that the program's variable holds its error.
-/
import Derived.Test.YthlfbdapkjhmaaaDoorCards
import Derived.Test.YthlfbdapkjhmaaaDoorMSpec2
import Derived.Test.YthlfbdapkjhmaaaDoorMatL
import Derived.Test.YthlfbdapkjhmaaaDoorMarkS
import Derived.Test.YthlfbdapkjhmaaaDoorLetOpen
import Derived.Test.YthlfbdapkjhmaaaDoorMisOpen
import Derived.Test.YthlfbdapkjhmaaaDoorMisL
import Derived.Test.YthlfbdapkjhmaaaDoorLaidJ
import Derived.Test.YthlfbdapkjhmaaaDoorTie
import Derived.LaidMore
import Derived.Stop.Joined
import Derived.SevenTiedAt
import Derived.Lay
import Derived.WalkKit
import Derived.ProofKit
import Derived.OpenShut
import Derived.ShutString
import Derived.ChangeOld
import Derived.Below
import Derived.Handy
import Derived.Lib.Hide
import Derived.Lib.SmallJoins
import Derived.Test.YthlfbdapkjhmaaaDoorStrOpen
namespace Go.Proofs.YthlfbdapkjhmaaaDoor.fnExactFaultyPass
open Go.ChangeShapes Go.WideShapes Go.ChangeAt Go.RowKit
open Go.ChangeMaps (open_string shut_string)
open Go.PlainAid (bt get_bt bt_nonneg bt_le)
open Go.Joins
set_option linter.unusedVariables false

theorem own : ownKnob Tryd.prog.godebug = none := by kernel_rfl
theorem laidOut : laidOutB Tryd.prog = true := by kernel_rfl

set_option maxHeartbeats 4000000 in
set_option maxRecDepth 100000 in
theorem walk (w : World) (a0 b0 : Int) (A0 : Option Addr) (n0 k0 : Nat) (S0 : Nat → ByteArray) (w0 : Strs w A0 n0 S0) (f0 : SFits n0 S0) (z0 : n0 ≤ maxLen) (x0 : (Lit.int .i64 a0).wf = true) (y0 : (Lit.int .i64 b0).wf = true) (a1 : Option Addr) (n1 k1 : Nat) (I1 : Nat → Int) (C1 : Nat → ByteArray) (w1 : Lts w a1 n1 I1 C1) (f1 : Fits n1 I1 C1) (z1 : n1 ≤ maxLen) (a2 : Int) (w2 : (Lit.int .i64 a2).wf = true) (a3 : Option Addr) (n3 k3 : Nat) (I3 C3 : Nat → Int) (w3 : Mss w a3 n3 I3 C3) (f3 : MFits n3 I3 C3) (z3 : n3 ≤ maxLen) (J : Addr) (hJ : Jam w J) :
    Calls Tryd.prog 3 #[.agg #[.int .i64 a0, .int .i64 b0, .slice A0 n0 k0], .slice a1 n1 k1, .int .i64 a2, .slice a3 n3 k3] w fun e w' => e = .returned (.bool true) ∧ Below w.heap.size w w' := by
  have HS := Lib.hid w0
  have HF := Lib.hid f0
  have HS1 := Lib.hid w1
  have HF1 := Lib.hid f1
  have ZL : n1 ≤ maxLen := z1
  have HS3 := Lib.hid w3
  have HF3 := Lib.hid f3
  have ZM : n3 ≤ maxLen := z3
  have HJ := Lib.hid hJ
  clear w0 w1 z1 w3 z3 hJ
  go_enter Tryd.func3, Tryd.ntmps3
  go_wp2_with fail
  refine (szPlan_any _ a0 b0 A0 n0 k0 S0 (HS.out.on (below_alloc0 _ _)) HF.out z0 _ (by omega) (by omega)).mono ?_
  rintro e w1 ⟨r, rfl, hr, hr1, k1⟩
  have BA := Lib.hid ((tri_made w (.int .i64 a0) (.int .i64 b0) (.slice A0 n0 k0) 24).on k1)
  have hb1 : Below w.heap.size w w1 := sstep (below_alloc0 _ _) k1
  have lo_BA : Hid (∀ k, k = w.heap.size → w.heap.size ≤ k ∧ k < w1.heap.size) := fun k hk => ⟨by omega, by have := BA.out.lt; omega⟩
  clear k1
  by_cases hneg : r < 0
  · go_wp2
    go_ret
    exact ⟨rfl, hb1⟩
  have hn : n0 ≤ 1048576 := by omega
  clear hr z0
  have BL := Lib.hid hb1
  have z1 := BL.out.size
  obtain ⟨⟨d0BA, d1BA, d2BA⟩, g0BA, g1BA, g2BA⟩ := BA.out
  have ltBA := BA.out.lt
  go_wp2_with fail
  refine (szLetterS_any _ a1 n1 k1 I1 C1 (HS1.out.on BL.out) HF1.out ZL _ (by omega) (by omega)).mono ?_
  rintro e w2 ⟨r2, rfl, hr2, hr3, k2⟩
  clear d0BA d1BA d2BA g0BA g1BA g2BA ltBA
  have z2 := k2.size
  replace BL := Lib.hid (step BL.out k2)
  replace BA := Lib.hid (BA.out.on k2)
  clear k2
  by_cases hneg2 : r2 < 0
  · go_wp2
    go_ret
    exact ⟨rfl, BL.out⟩
  have hn1 : n1 ≤ 1048576 := by omega
  clear hr2 hr1 ZL
  obtain ⟨⟨d0BA, d1BA, d2BA⟩, g0BA, g1BA, g2BA⟩ := BA.out
  have ltBA := BA.out.lt
  go_wp2_with fail
  refine (szMissortS_any _ a3 n3 k3 ZM _ (by omega) (by omega)).mono ?_
  rintro e w3 ⟨r3, rfl, hr4, hr5, k3⟩
  clear d0BA d1BA d2BA g0BA g1BA g2BA ltBA
  have z3 := k3.size
  replace BL := Lib.hid (step BL.out k3)
  replace BA := Lib.hid (BA.out.on k3)
  clear k3
  by_cases hneg3 : r3 < 0
  · go_wp2
    go_ret
    exact ⟨rfl, BL.out⟩
  have hn3 : n3 ≤ 1048576 := by omega
  clear hr4 hr5 hr3 ZM
  obtain ⟨q1, q2⟩ := faulty_len (b := a0) (p := b0) (n := n0) (S := S0) (m := n1) (I' := I1) (C := C1) (x := a2) (m3 := n3) (I := I3) (B := C3)
  obtain ⟨ok, hok⟩ : ∃ ok, faultyOk a0 b0 n0 S0 n1 I1 C1 a2 n3 I3 C3 = ok := ⟨_, rfl⟩
  obtain ⟨N, hN⟩ : ∃ N, faultyN a0 b0 n0 S0 n1 I1 C1 a2 n3 I3 C3 = N := ⟨_, rfl⟩
  obtain ⟨LL, hLL⟩ : ∃ LL, faultyL a0 b0 n0 S0 n1 I1 C1 a2 n3 I3 C3 = LL := ⟨_, rfl⟩
  obtain ⟨MM, hMM⟩ : ∃ MM, M.binTo (fkey a0 n0 S0 C1 a2.toNat I1 n3 I3 C3) I1 C1 n1 = MM := ⟨_, rfl⟩
  have CS : Hid (∀ (W : World) (a : Option Addr) (c : Nat) (a' : Option Addr) (c' : Nat) (a'' : Option Addr) (c'' : Nat), Strs W a n0 S0 → Lts W a' n1 I1 C1 → Mss W a'' n3 I3 C3 → Calls Tryd.prog 12 #[.agg #[.int .i64 a0, .int .i64 b0, .slice a n0 c], .slice a' n1 c', .int .i64 a2, .slice a'' n3 c''] W (PassRes W ok N MM LL)) := fun W a c a' c' a'' c'' hs hl hm => by
    have := spec_FaultyPass W a0 b0 a n0 c S0 hs HF.out hn a' n1 c' I1 C1 hl HF1.out hn1 a2 a'' n3 c'' I3 C3 hm HF3.out hn3
    rw [hN, hLL, hok, hMM] at this
    exact this
  have CI : Hid (∀ (W : World) (a : Option Addr) (c : Nat) (a' : Option Addr) (c' : Nat) (a'' : Option Addr) (c'' : Nat), Jam W J → Strs W a n0 S0 → Lts W a' n1 I1 C1 → Mss W a'' n3 I3 C3 → Calls Tryd.prog 16 #[.agg #[.int .i64 a0, .int .i64 b0, .slice a n0 c], .slice a' n1 c', .int .i64 a2, .slice a'' n3 c''] W (PassRes W ok N MM LL)) := fun W a c a' c' a'' c'' hj hs hl hm => by
    have := impl_FaultyPass W J hj a0 b0 a n0 c S0 hs HF.out hn a' n1 c' I1 C1 hl HF1.out a2 a'' n3 c'' I3 C3 hm HF3.out
    rw [hN, hLL, hok, hMM] at this
    exact this
  rw [hN] at q1
  rw [hLL] at q2
  have hN10 : N ≤ 1048576 := by omega
  have hll : LL.length ≤ 1048576 := by omega
  have htot : tot MM N ≤ 1048576 := by rw [← hMM]; have := tot_binTo (fkey a0 n0 S0 C1 a2.toNat I1 n3 I3 C3) I1 C1 N n1; omega
  have hlen : Hid (∀ i, i < N → (MM i).length ≤ 1048576) := fun i _ => by rw [← hMM]; have := M.binTo_len (fkey a0 n0 S0 C1 a2.toNat I1 n3 I3 C3) I1 C1 n1 i; omega
  obtain ⟨mt, hmt⟩ : ∃ mt : Nat, 1 + 2 * tot MM N = mt := ⟨_, rfl⟩
  have MT := Lib.hid hmt
  have mt1 : 1 ≤ mt := by omega
  have mt2 : mt ≤ 3000000 := by omega
  obtain ⟨ms, hms⟩ : ∃ ms : Nat, mt + 2 * LL.length = ms := ⟨_, rfl⟩
  have MS := Lib.hid hms
  obtain ⟨mp, hmp⟩ : ∃ mp : Nat, 1 + n0 = mp := ⟨_, rfl⟩
  have MP : Hid (1 + (sst S0 n0).length = mp) := by rw [show (sst S0 n0).length = n0 by simp [sst]]; exact hmp
  have mp1 : 1 ≤ mp := by omega
  have mp2 : mp ≤ 2000000 := by omega
  obtain ⟨mq, hmq⟩ : ∃ mq : Nat, mp + 2 * n1 = mq := ⟨_, rfl⟩
  have MQ : Hid (mp + 2 * (M.lst I1 C1 n1).length = mq) := by rw [M.lst_length]; exact hmq
  have mq1 : 1 ≤ mq := by omega
  have mq2 : mq ≤ 5000000 := by omega
  obtain ⟨mr, hmr⟩ : ∃ mr : Nat, mq + 2 * n3 = mr := ⟨_, rfl⟩
  have MR := Lib.hid hmr
  have mr1 : 1 ≤ mr := by omega
  have mr2 : mr ≤ 8000000 := by omega
  have ms1 : 1 ≤ ms := by omega
  have ms2 : ms ≤ 6000000 := by omega
  have hle : (M.lst I1 C1 n1).length ≤ 1048576 := by rw [M.lst_length]; exact hn1
  have hls : (sst S0 n0).length ≤ 1048576 := by simp [sst]; exact hn
  clear hok hN hMM hLL hmt hms hmp hmq hmr q1 q2
  obtain ⟨⟨d0BA, d1BA, d2BA⟩, g0BA, g1BA, g2BA⟩ := BA.out
  have ltBA := BA.out.lt
  go_wp2_with fail
  refine (toPlan_any _ a0 b0 A0 n0 k0 S0 (HS.out.on BL.out) hn).mono ?_
  rintro e w4 ⟨p_ps, rfl, _, q_ps, k4⟩
  clear d0BA d1BA d2BA g0BA g1BA g2BA ltBA
  have z4 := k4.size
  replace BL := Lib.hid (step BL.out k4)
  replace BA := Lib.hid (BA.out.on k4)
  have ps := Lib.hid q_ps
  have lo_ps : Hid (∀ k, ((Value.slice (some ⟨p_ps, 0, none⟩) n0 n0).ownBlock = some k) → w3.heap.size ≤ k ∧ k < w4.heap.size) := fun k hk => ps.out.lt k hk
  clear k4
  obtain ⟨⟨d0BA, d1BA, d2BA⟩, g0BA, g1BA, g2BA⟩ := BA.out
  have ltBA := BA.out.lt
  go_wp2_with fail
  refine (toLetterS_row _ _ _ _ _ _ (HS1.out.on BL.out) hn1).mono ?_
  rintro e w5 ⟨b_xs, rfl, q_xs, k5⟩
  clear d0BA d1BA d2BA g0BA g1BA g2BA ltBA
  have z5 := k5.size
  replace BL := Lib.hid (step BL.out k5)
  replace BA := Lib.hid (BA.out.on k5)
  replace ps := Lib.hid (ps.out.on k5)
  have xs := Lib.hid q_xs
  have lo_xs : Hid (∀ k, ((Value.slice (some ⟨b_xs, 0, none⟩) n1 n1).ownBlock = some k) → w4.heap.size ≤ k ∧ k < w5.heap.size) := fun k hk => xs.out.lt k hk
  clear k5
  obtain ⟨⟨d0BA, d1BA, d2BA⟩, g0BA, g1BA, g2BA⟩ := BA.out
  have ltBA := BA.out.lt
  go_wp2_with fail
  refine (toMissortS_row _ a3 n3 k3 I3 C3 (HS3.out.on BL.out) hn3).mono ?_
  rintro e w6 ⟨b_ys, rfl, q_ys, k6⟩
  clear d0BA d1BA d2BA g0BA g1BA g2BA ltBA
  have z6 := k6.size
  replace BL := Lib.hid (step BL.out k6)
  replace BA := Lib.hid (BA.out.on k6)
  replace ps := Lib.hid (ps.out.on k6)
  replace xs := Lib.hid (xs.out.on k6)
  have ys := Lib.hid q_ys
  have lo_ys : Hid (∀ k, (k = b_ys) → w5.heap.size ≤ k ∧ k < w6.heap.size) := fun k hk => ys.out.lt k hk
  clear k6
  obtain ⟨⟨d0BA, d1BA, d2BA⟩, g0BA, g1BA, g2BA⟩ := BA.out
  have ltBA := BA.out.lt
  go_wp2_with fail
  refine (CS.out _ _ _ _ _ _ _ ps.out.strs xs.out.lts_lst ys.out.mss).mono ?_
  rintro e w7 ⟨v_mw, V_mw, v_rw1, rfl, q_mw, q_rw1, ap_mw, k7⟩
  clear d0BA d1BA d2BA g0BA g1BA g2BA ltBA
  have z7 := k7.size
  replace BL := Lib.hid (step BL.out k7)
  replace BA := Lib.hid (BA.out.on k7)
  replace ps := Lib.hid (ps.out.on k7)
  replace xs := Lib.hid (xs.out.on k7)
  replace ys := Lib.hid (ys.out.on k7)
  have mw := Lib.hid q_mw
  have lo_mw : Hid (∀ k, (inM v_mw N V_mw k) → w6.heap.size ≤ k ∧ k < w7.heap.size) := fun k hk => mw.out.lt hk
  have rw1 := Lib.hid q_rw1
  have lo_rw1 : Hid (∀ k, (v_rw1.ownBlock = some k) → w6.heap.size ≤ k ∧ k < w7.heap.size) := fun k hk => rw1.out.lt k hk
  clear k7
  have AP_mw := Lib.hid ap_mw
  clear ap_mw
  clear ps lo_ps
  clear xs lo_xs
  clear ys lo_ys
  obtain ⟨⟨d0BA, d1BA, d2BA⟩, g0BA, g1BA, g2BA⟩ := BA.out
  have ltBA := BA.out.lt
  go_wp2_with fail
  refine (toPlan_any _ a0 b0 A0 n0 k0 S0 (HS.out.on BL.out) hn).mono ?_
  rintro e w8 ⟨p_p0, rfl, _, q_p0, k8⟩
  clear d0BA d1BA d2BA g0BA g1BA g2BA ltBA
  have z8 := k8.size
  replace BL := Lib.hid (step BL.out k8)
  replace BA := Lib.hid (BA.out.on k8)
  replace mw := Lib.hid (mw.out.on k8)
  replace rw1 := Lib.hid (rw1.out.on k8)
  have p0 := Lib.hid q_p0
  have lo_p0 : Hid (∀ k, ((Value.slice (some ⟨p_p0, 0, none⟩) n0 n0).ownBlock = some k) → w7.heap.size ≤ k ∧ k < w8.heap.size) := fun k hk => p0.out.lt k hk
  clear k8
  obtain ⟨w9, hw9⟩ : ∃ w9, w8.alloc (.cells #[.int .i64 a0, .int .i64 b0, .slice (some ⟨p_p0, 0, none⟩) n0 n0] 34) = w9 := ⟨_, rfl⟩
  have k9 : Below w8.heap.size w8 w9 := hw9 ▸ below_alloc0 w8 (.cells #[.int .i64 a0, .int .i64 b0, .slice (some ⟨p_p0, 0, none⟩) n0 n0] 34)
  have z9 := k9.size
  replace BL := Lib.hid (step BL.out k9)
  replace BA := Lib.hid (BA.out.on k9)
  replace mw := Lib.hid (mw.out.on k9)
  replace rw1 := Lib.hid (rw1.out.on k9)
  replace p0 := Lib.hid (p0.out.on k9)
  have BX : Hid (Tri w9 w8.heap.size (.int .i64 a0) (.int .i64 b0) (.slice (some ⟨p_p0, 0, none⟩) n0 n0)) := hw9 ▸ tri_made w8 (.int .i64 a0) (.int .i64 b0) (.slice (some ⟨p_p0, 0, none⟩) n0 n0) 34
  have lo_BX : Hid (∀ k, k = w8.heap.size → w8.heap.size ≤ k ∧ k < w9.heap.size) := fun k hk => ⟨by omega, by have := BX.out.lt; omega⟩
  have HW9 := Lib.hid hw9
  clear hw9 k9
  go_wp2_with fail
  rw [HW9.out]
  obtain ⟨⟨d0BA, d1BA, d2BA⟩, g0BA, g1BA, g2BA⟩ := BA.out
  have ltBA := BA.out.lt
  obtain ⟨⟨d0BX, d1BX, d2BX⟩, g0BX, g1BX, g2BX⟩ := BX.out
  have ltBX := BX.out.lt
  go_wp2_with fail
  refine (toLetterS_row _ _ _ _ _ _ (HS1.out.on BL.out) hn1).mono ?_
  rintro e w10 ⟨b_xx, rfl, q_xx, k10⟩
  clear d0BA d1BA d2BA g0BA g1BA g2BA ltBA
  clear d0BX d1BX d2BX g0BX g1BX g2BX ltBX
  have z10 := k10.size
  replace BL := Lib.hid (step BL.out k10)
  replace BA := Lib.hid (BA.out.on k10)
  replace mw := Lib.hid (mw.out.on k10)
  replace rw1 := Lib.hid (rw1.out.on k10)
  replace p0 := Lib.hid (p0.out.on k10)
  replace BX := Lib.hid (BX.out.on k10)
  have xx := Lib.hid q_xx
  have lo_xx : Hid (∀ k, ((Value.slice (some ⟨b_xx, 0, none⟩) n1 n1).ownBlock = some k) → w9.heap.size ≤ k ∧ k < w10.heap.size) := fun k hk => xx.out.lt k hk
  clear k10
  obtain ⟨⟨d0BA, d1BA, d2BA⟩, g0BA, g1BA, g2BA⟩ := BA.out
  have ltBA := BA.out.lt
  obtain ⟨⟨d0BX, d1BX, d2BX⟩, g0BX, g1BX, g2BX⟩ := BX.out
  have ltBX := BX.out.lt
  go_wp2_with fail
  refine (toMissortS_row _ a3 n3 k3 I3 C3 (HS3.out.on BL.out) hn3).mono ?_
  rintro e w11 ⟨b_yy, rfl, q_yy, k11⟩
  clear d0BA d1BA d2BA g0BA g1BA g2BA ltBA
  clear d0BX d1BX d2BX g0BX g1BX g2BX ltBX
  have z11 := k11.size
  replace BL := Lib.hid (step BL.out k11)
  replace BA := Lib.hid (BA.out.on k11)
  replace mw := Lib.hid (mw.out.on k11)
  replace rw1 := Lib.hid (rw1.out.on k11)
  replace p0 := Lib.hid (p0.out.on k11)
  replace BX := Lib.hid (BX.out.on k11)
  replace xx := Lib.hid (xx.out.on k11)
  have yy := Lib.hid q_yy
  have lo_yy : Hid (∀ k, (k = b_yy) → w10.heap.size ≤ k ∧ k < w11.heap.size) := fun k hk => yy.out.lt k hk
  clear k11
  obtain ⟨⟨d0BA, d1BA, d2BA⟩, g0BA, g1BA, g2BA⟩ := BA.out
  have ltBA := BA.out.lt
  obtain ⟨⟨d0BX, d1BX, d2BX⟩, g0BX, g1BX, g2BX⟩ := BX.out
  have ltBX := BX.out.lt
  go_wp2_with fail
  refine (CI.out _ _ _ _ _ _ _ (HJ.out.on BL.out) p0.out.strs xx.out.lts_lst yy.out.mss).mono ?_
  rintro e w12 ⟨v_mg, V_mg, v_rg, rfl, q_mg, q_rg, ap_mg, k12⟩
  clear d0BA d1BA d2BA g0BA g1BA g2BA ltBA
  clear d0BX d1BX d2BX g0BX g1BX g2BX ltBX
  have z12 := k12.size
  replace BL := Lib.hid (step BL.out k12)
  replace BA := Lib.hid (BA.out.on k12)
  replace mw := Lib.hid (mw.out.on k12)
  replace rw1 := Lib.hid (rw1.out.on k12)
  replace p0 := Lib.hid (p0.out.on k12)
  replace BX := Lib.hid (BX.out.on k12)
  replace xx := Lib.hid (xx.out.on k12)
  replace yy := Lib.hid (yy.out.on k12)
  have mg := Lib.hid q_mg
  have lo_mg : Hid (∀ k, (inM v_mg N V_mg k) → w11.heap.size ≤ k ∧ k < w12.heap.size) := fun k hk => mg.out.lt hk
  have rg := Lib.hid q_rg
  have lo_rg : Hid (∀ k, (v_rg.ownBlock = some k) → w11.heap.size ≤ k ∧ k < w12.heap.size) := fun k hk => rg.out.lt k hk
  clear k12
  have AP_mg := Lib.hid ap_mg
  clear ap_mg
  obtain ⟨⟨d0BA, d1BA, d2BA⟩, g0BA, g1BA, g2BA⟩ := BA.out
  have ltBA := BA.out.lt
  obtain ⟨⟨d0BX, d1BX, d2BX⟩, g0BX, g1BX, g2BX⟩ := BX.out
  have ltBX := BX.out.lt
  go_wp2_with fail
  refine (eqLetterSS_mat _ _ _ N _ _ _ _ MM mg.out mw.out hN10 hlen.out).mono ?_
  rintro e w13 ⟨rfl, k13⟩
  clear d0BA d1BA d2BA g0BA g1BA g2BA ltBA
  clear d0BX d1BX d2BX g0BX g1BX g2BX ltBX
  have z13 := k13.size
  replace BL := Lib.hid (step BL.out k13)
  replace BA := Lib.hid (BA.out.on k13)
  replace mw := Lib.hid (mw.out.on k13)
  replace rw1 := Lib.hid (rw1.out.on k13)
  replace p0 := Lib.hid (p0.out.on k13)
  replace BX := Lib.hid (BX.out.on k13)
  replace xx := Lib.hid (xx.out.on k13)
  replace yy := Lib.hid (yy.out.on k13)
  replace mg := Lib.hid (mg.out.on k13)
  replace rg := Lib.hid (rg.out.on k13)
  clear k13
  obtain ⟨⟨d0BA, d1BA, d2BA⟩, g0BA, g1BA, g2BA⟩ := BA.out
  have ltBA := BA.out.lt
  obtain ⟨⟨d0BX, d1BX, d2BX⟩, g0BX, g1BX, g2BX⟩ := BX.out
  have ltBX := BX.out.lt
  go_wp2_with fail
  refine (eqLetterS_row _ _ _ _ _ _ rg.out rw1.out hll).mono ?_
  rintro e w14 ⟨rfl, k14⟩
  clear d0BA d1BA d2BA g0BA g1BA g2BA ltBA
  clear d0BX d1BX d2BX g0BX g1BX g2BX ltBX
  have z14 := k14.size
  replace BL := Lib.hid (step BL.out k14)
  replace BA := Lib.hid (BA.out.on k14)
  replace mw := Lib.hid (mw.out.on k14)
  replace rw1 := Lib.hid (rw1.out.on k14)
  replace p0 := Lib.hid (p0.out.on k14)
  replace BX := Lib.hid (BX.out.on k14)
  replace xx := Lib.hid (xx.out.on k14)
  replace yy := Lib.hid (yy.out.on k14)
  replace mg := Lib.hid (mg.out.on k14)
  replace rg := Lib.hid (rg.out.on k14)
  clear k14
  obtain ⟨⟨d0BA, d1BA, d2BA⟩, g0BA, g1BA, g2BA⟩ := BA.out
  have ltBA := BA.out.lt
  obtain ⟨⟨d0BX, d1BX, d2BX⟩, g0BX, g1BX, g2BX⟩ := BX.out
  have ltBX := BX.out.lt
  have HSC := Lib.hid (HS.out.on BL.out)
  have HXP := Lib.hid p0.out.strs
  go_wp2
  go_region_with (first
    | (go_at_call 13; refine (toPlan_any _ a0 b0 A0 n0 k0 S0 (HSC.out.on (by go_grown)) hn).mono ?_; rintro e wt ⟨gt, rfl, _, ot, kt⟩; have kT : Below w14.heap.size w14 wt := (by first | exact kt | exact sstep (by go_grown) kt); obtain ⟨⟨e0, e1, e2⟩, _⟩ := BX.out.on kT; have ht := Lib.hid ot.strs; clear ot)
    | (go_at_call 19; refine (eqPlan_same _ a0 b0 _ _ n0 _ _ S0 (HXP.out.on (by go_grown)) (ht.out.on (by go_grown)) hn).mono ?_; rintro e w15 ⟨rfl, kq⟩; have k15 : Below w14.heap.size w14 w15 := (by first | exact sstep kT kq | exact sstep kT.drew kq); clear ht kq kT kt e0 e1 e2))
  clear d0BA d1BA d2BA g0BA g1BA g2BA ltBA
  clear d0BX d1BX d2BX g0BX g1BX g2BX ltBX
  all_goals
    have z15 := k15.size
    replace BL := Lib.hid (step BL.out k15)
    replace BA := Lib.hid (BA.out.on k15)
    replace mw := Lib.hid (mw.out.on k15)
    replace rw1 := Lib.hid (rw1.out.on k15)
    replace p0 := Lib.hid (p0.out.on k15)
    replace BX := Lib.hid (BX.out.on k15)
    replace xx := Lib.hid (xx.out.on k15)
    replace yy := Lib.hid (yy.out.on k15)
    replace mg := Lib.hid (mg.out.on k15)
    replace rg := Lib.hid (rg.out.on k15)
    clear k15 HSC HXP
    obtain ⟨⟨d0BA, d1BA, d2BA⟩, g0BA, g1BA, g2BA⟩ := BA.out
    have ltBA := BA.out.lt
    obtain ⟨⟨d0BX, d1BX, d2BX⟩, g0BX, g1BX, g2BX⟩ := BX.out
    have ltBX := BX.out.lt
    go_wp2_with fail
    refine (toLetterS_row _ _ _ _ _ _ (HS1.out.on BL.out) hn1).mono ?_
    rintro e w16 ⟨b_xc, rfl, q_xc, k16⟩
    clear d0BA d1BA d2BA g0BA g1BA g2BA ltBA
    clear d0BX d1BX d2BX g0BX g1BX g2BX ltBX
    have z16 := k16.size
    replace BL := Lib.hid (step BL.out k16)
    replace BA := Lib.hid (BA.out.on k16)
    replace mw := Lib.hid (mw.out.on k16)
    replace rw1 := Lib.hid (rw1.out.on k16)
    replace p0 := Lib.hid (p0.out.on k16)
    replace BX := Lib.hid (BX.out.on k16)
    replace xx := Lib.hid (xx.out.on k16)
    replace yy := Lib.hid (yy.out.on k16)
    replace mg := Lib.hid (mg.out.on k16)
    replace rg := Lib.hid (rg.out.on k16)
    have xc := Lib.hid q_xc
    have lo_xc : Hid (∀ k, ((Value.slice (some ⟨b_xc, 0, none⟩) n1 n1).ownBlock = some k) → w15.heap.size ≤ k ∧ k < w16.heap.size) := fun k hk => xc.out.lt k hk
    clear k16
    obtain ⟨⟨d0BA, d1BA, d2BA⟩, g0BA, g1BA, g2BA⟩ := BA.out
    have ltBA := BA.out.lt
    obtain ⟨⟨d0BX, d1BX, d2BX⟩, g0BX, g1BX, g2BX⟩ := BX.out
    have ltBX := BX.out.lt
    go_wp2_with fail
    refine (eqLetterS_row _ _ _ _ _ _ xx.out xc.out hle).mono ?_
    rintro e w17 ⟨rfl, k17⟩
    clear d0BA d1BA d2BA g0BA g1BA g2BA ltBA
    clear d0BX d1BX d2BX g0BX g1BX g2BX ltBX
    have z17 := k17.size
    replace BL := Lib.hid (step BL.out k17)
    replace BA := Lib.hid (BA.out.on k17)
    replace mw := Lib.hid (mw.out.on k17)
    replace rw1 := Lib.hid (rw1.out.on k17)
    replace p0 := Lib.hid (p0.out.on k17)
    replace BX := Lib.hid (BX.out.on k17)
    replace xx := Lib.hid (xx.out.on k17)
    replace yy := Lib.hid (yy.out.on k17)
    replace mg := Lib.hid (mg.out.on k17)
    replace rg := Lib.hid (rg.out.on k17)
    replace xc := Lib.hid (xc.out.on k17)
    clear k17
    clear xc lo_xc
    obtain ⟨⟨d0BA, d1BA, d2BA⟩, g0BA, g1BA, g2BA⟩ := BA.out
    have ltBA := BA.out.lt
    obtain ⟨⟨d0BX, d1BX, d2BX⟩, g0BX, g1BX, g2BX⟩ := BX.out
    have ltBX := BX.out.lt
    go_wp2_with fail
    refine (toMissortS_row _ a3 n3 k3 I3 C3 (HS3.out.on BL.out) hn3).mono ?_
    rintro e w18 ⟨b_yc, rfl, q_yc, k18⟩
    clear d0BA d1BA d2BA g0BA g1BA g2BA ltBA
    clear d0BX d1BX d2BX g0BX g1BX g2BX ltBX
    have z18 := k18.size
    replace BL := Lib.hid (step BL.out k18)
    replace BA := Lib.hid (BA.out.on k18)
    replace mw := Lib.hid (mw.out.on k18)
    replace rw1 := Lib.hid (rw1.out.on k18)
    replace p0 := Lib.hid (p0.out.on k18)
    replace BX := Lib.hid (BX.out.on k18)
    replace xx := Lib.hid (xx.out.on k18)
    replace yy := Lib.hid (yy.out.on k18)
    replace mg := Lib.hid (mg.out.on k18)
    replace rg := Lib.hid (rg.out.on k18)
    have yc := Lib.hid q_yc
    have lo_yc : Hid (∀ k, (k = b_yc) → w17.heap.size ≤ k ∧ k < w18.heap.size) := fun k hk => yc.out.lt k hk
    clear k18
    obtain ⟨⟨d0BA, d1BA, d2BA⟩, g0BA, g1BA, g2BA⟩ := BA.out
    have ltBA := BA.out.lt
    obtain ⟨⟨d0BX, d1BX, d2BX⟩, g0BX, g1BX, g2BX⟩ := BX.out
    have ltBX := BX.out.lt
    go_wp2_with fail
    refine (eqMissortS_same _ _ _ n3 _ _ _ _ yy.out.mss yc.out.mss hn3).mono ?_
    rintro e w19 ⟨rfl, k19⟩
    clear d0BA d1BA d2BA g0BA g1BA g2BA ltBA
    clear d0BX d1BX d2BX g0BX g1BX g2BX ltBX
    have z19 := k19.size
    replace BL := Lib.hid (step BL.out k19)
    replace BA := Lib.hid (BA.out.on k19)
    replace mw := Lib.hid (mw.out.on k19)
    replace rw1 := Lib.hid (rw1.out.on k19)
    replace p0 := Lib.hid (p0.out.on k19)
    replace BX := Lib.hid (BX.out.on k19)
    replace xx := Lib.hid (xx.out.on k19)
    replace yy := Lib.hid (yy.out.on k19)
    replace mg := Lib.hid (mg.out.on k19)
    replace rg := Lib.hid (rg.out.on k19)
    replace yc := Lib.hid (yc.out.on k19)
    clear k19
    clear yc lo_yc
    obtain ⟨⟨d0BA, d1BA, d2BA⟩, g0BA, g1BA, g2BA⟩ := BA.out
    have ltBA := BA.out.lt
    obtain ⟨⟨d0BX, d1BX, d2BX⟩, g0BX, g1BX, g2BX⟩ := BX.out
    have ltBX := BX.out.lt
    go_wp2_with fail
    refine (markPlan_row _ _ _ _ _ _ 1 p0.out hls (by omega) (by omega)).mono ?_
    rw [MP.out]
    rintro e w20 ⟨rfl, o20⟩
    clear d0BA d1BA d2BA g0BA g1BA g2BA ltBA
    clear d0BX d1BX d2BX g0BX g1BX g2BX ltBX
    have z20 := o20.size
    replace BL := Lib.hid (BL.out.trans (o20.below (B := w.heap.size) (fun k hk _ hs => by have := (lo_p0.out k hs).1; omega) (by omega)))
    replace BA := Lib.hid (triOnly BA.out o20 (fun hs => by have h1 := lo_BA.out _ rfl; have h2 := lo_p0.out _ hs; omega))
    replace mw := Lib.hid (mw.out.only o20 (fun k hk hs => by have h1 := lo_mw.out k hk; have h2 := lo_p0.out k hs; omega))
    replace rw1 := Lib.hid (rw1.out.only o20 (fun k hk hs => by have h1 := lo_rw1.out k hk; have h2 := lo_p0.out k hs; omega))
    replace BX := Lib.hid (triOnly BX.out o20 (fun hs => by have h1 := lo_BX.out _ rfl; have h2 := lo_p0.out _ hs; omega))
    replace xx := Lib.hid (xx.out.only o20 (fun k hk hs => by have h1 := lo_xx.out k hk; have h2 := lo_p0.out k hs; omega))
    replace yy := Lib.hid (yy.out.only o20 (fun k hk hs => by have h1 := lo_yy.out k hk; have h2 := lo_p0.out k hs; omega))
    replace mg := Lib.hid (mg.out.only o20 (fun k hk hs => by have h1 := lo_mg.out k hk; have h2 := lo_p0.out k hs; omega))
    replace rg := Lib.hid (rg.out.only o20 (fun k hk hs => by have h1 := lo_rg.out k hk; have h2 := lo_p0.out k hs; omega))
    clear p0 lo_p0 o20
    obtain ⟨⟨d0BA, d1BA, d2BA⟩, g0BA, g1BA, g2BA⟩ := BA.out
    have ltBA := BA.out.lt
    obtain ⟨⟨d0BX, d1BX, d2BX⟩, g0BX, g1BX, g2BX⟩ := BX.out
    have ltBX := BX.out.lt
    go_wp2_with fail
    refine (markLetterS_row _ _ _ _ mp xx.out hle (by omega) (by omega)).mono ?_
    rw [MQ.out]
    rintro e w21 ⟨rfl, r21, o21⟩
    clear d0BA d1BA d2BA g0BA g1BA g2BA ltBA
    clear d0BX d1BX d2BX g0BX g1BX g2BX ltBX
    replace o21 := (Only.of_grown o21).mono (T := fun k => (Value.slice (some ⟨b_xx, 0, none⟩) n1 n1).ownBlock = some k) (fun k _ e => e.symm)
    have z21 := o21.size
    replace BL := Lib.hid (BL.out.trans (o21.below (B := w.heap.size) (fun k hk _ hs => by have := (lo_xx.out k hs).1; omega) (by omega)))
    replace BA := Lib.hid (triOnly BA.out o21 (fun hs => by have h1 := lo_BA.out _ rfl; have h2 := lo_xx.out _ hs; omega))
    replace mw := Lib.hid (mw.out.only o21 (fun k hk hs => by have h1 := lo_mw.out k hk; have h2 := lo_xx.out k hs; omega))
    replace rw1 := Lib.hid (rw1.out.only o21 (fun k hk hs => by have h1 := lo_rw1.out k hk; have h2 := lo_xx.out k hs; omega))
    replace BX := Lib.hid (triOnly BX.out o21 (fun hs => by have h1 := lo_BX.out _ rfl; have h2 := lo_xx.out _ hs; omega))
    replace yy := Lib.hid (yy.out.only o21 (fun k hk hs => by have h1 := lo_yy.out k hk; have h2 := lo_xx.out k hs; omega))
    replace mg := Lib.hid (mg.out.only o21 (fun k hk hs => by have h1 := lo_mg.out k hk; have h2 := lo_xx.out k hs; omega))
    replace rg := Lib.hid (rg.out.only o21 (fun k hk hs => by have h1 := lo_rg.out k hk; have h2 := lo_xx.out k hs; omega))
    replace xx := Lib.hid r21
    clear r21 o21
    obtain ⟨⟨d0BA, d1BA, d2BA⟩, g0BA, g1BA, g2BA⟩ := BA.out
    have ltBA := BA.out.lt
    obtain ⟨⟨d0BX, d1BX, d2BX⟩, g0BX, g1BX, g2BX⟩ := BX.out
    have ltBX := BX.out.lt
    go_wp2_with fail
    refine (markMissortS_row _ _ _ _ _ _ mq yy.out hn3 (by omega) (by omega)).mono ?_
    rw [MR.out]
    rintro e w22 ⟨rfl, o22⟩
    clear d0BA d1BA d2BA g0BA g1BA g2BA ltBA
    clear d0BX d1BX d2BX g0BX g1BX g2BX ltBX
    have z22 := o22.size
    replace BL := Lib.hid (BL.out.trans (o22.below (B := w.heap.size) (fun k hk _ hs => by have := (lo_yy.out k hs).1; omega) (by omega)))
    replace BA := Lib.hid (triOnly BA.out o22 (fun hs => by have h1 := lo_BA.out _ rfl; have h2 := lo_yy.out _ hs; omega))
    replace mw := Lib.hid (mw.out.only o22 (fun k hk hs => by have h1 := lo_mw.out k hk; have h2 := lo_yy.out k hs; omega))
    replace rw1 := Lib.hid (rw1.out.only o22 (fun k hk hs => by have h1 := lo_rw1.out k hk; have h2 := lo_yy.out k hs; omega))
    replace BX := Lib.hid (triOnly BX.out o22 (fun hs => by have h1 := lo_BX.out _ rfl; have h2 := lo_yy.out _ hs; omega))
    replace xx := Lib.hid (xx.out.only o22 (fun k hk hs => by have h1 := lo_xx.out k hk; have h2 := lo_yy.out k hs; omega))
    replace mg := Lib.hid (mg.out.only o22 (fun k hk hs => by have h1 := lo_mg.out k hk; have h2 := lo_yy.out k hs; omega))
    replace rg := Lib.hid (rg.out.only o22 (fun k hk hs => by have h1 := lo_rg.out k hk; have h2 := lo_yy.out k hs; omega))
    clear yy lo_yy o22
    obtain ⟨⟨d0BA, d1BA, d2BA⟩, g0BA, g1BA, g2BA⟩ := BA.out
    have ltBA := BA.out.lt
    obtain ⟨⟨d0BX, d1BX, d2BX⟩, g0BX, g1BX, g2BX⟩ := BX.out
    have ltBX := BX.out.lt
    go_wp2_with fail
    refine (eqLetterSS_mat _ _ _ N _ _ _ _ MM mg.out mw.out hN10 hlen.out).mono ?_
    rintro e w23 ⟨rfl, k23⟩
    clear d0BA d1BA d2BA g0BA g1BA g2BA ltBA
    clear d0BX d1BX d2BX g0BX g1BX g2BX ltBX
    have z23 := k23.size
    replace BL := Lib.hid (step BL.out k23)
    replace BA := Lib.hid (BA.out.on k23)
    replace mw := Lib.hid (mw.out.on k23)
    replace rw1 := Lib.hid (rw1.out.on k23)
    replace BX := Lib.hid (BX.out.on k23)
    replace xx := Lib.hid (xx.out.on k23)
    replace mg := Lib.hid (mg.out.on k23)
    replace rg := Lib.hid (rg.out.on k23)
    clear k23
    obtain ⟨⟨d0BA, d1BA, d2BA⟩, g0BA, g1BA, g2BA⟩ := BA.out
    have ltBA := BA.out.lt
    obtain ⟨⟨d0BX, d1BX, d2BX⟩, g0BX, g1BX, g2BX⟩ := BX.out
    have ltBX := BX.out.lt
    go_wp2_with fail
    refine (eqLetterS_row _ _ _ _ _ _ rg.out rw1.out hll).mono ?_
    rintro e w24 ⟨rfl, k24⟩
    clear d0BA d1BA d2BA g0BA g1BA g2BA ltBA
    clear d0BX d1BX d2BX g0BX g1BX g2BX ltBX
    have z24 := k24.size
    replace BL := Lib.hid (step BL.out k24)
    replace BA := Lib.hid (BA.out.on k24)
    replace mw := Lib.hid (mw.out.on k24)
    replace rw1 := Lib.hid (rw1.out.on k24)
    replace BX := Lib.hid (BX.out.on k24)
    replace xx := Lib.hid (xx.out.on k24)
    replace mg := Lib.hid (mg.out.on k24)
    replace rg := Lib.hid (rg.out.on k24)
    clear k24
    obtain ⟨⟨d0BA, d1BA, d2BA⟩, g0BA, g1BA, g2BA⟩ := BA.out
    have ltBA := BA.out.lt
    obtain ⟨⟨d0BX, d1BX, d2BX⟩, g0BX, g1BX, g2BX⟩ := BX.out
    have ltBX := BX.out.lt
    go_wp2_with fail
    refine (markLetterSS_mat _ _ N _ _ MM 1 mg.out hN10 htot (by omega) (by omega)).mono ?_
    rw [MT.out]
    rintro e w25 ⟨rfl, r25, o25⟩
    clear d0BA d1BA d2BA g0BA g1BA g2BA ltBA
    clear d0BX d1BX d2BX g0BX g1BX g2BX ltBX
    have z25 := o25.size
    replace BL := Lib.hid (BL.out.trans (o25.below (B := w.heap.size) (fun k hk _ hs => by have := (lo_mg.out k hs).1; omega) (by omega)))
    replace BA := Lib.hid (triOnly BA.out o25 (fun hs => by have h1 := lo_BA.out _ rfl; have h2 := lo_mg.out _ hs; omega))
    replace mw := Lib.hid (mw.out.only o25 (fun k hk hs => by have h1 := lo_mw.out k hk; have h2 := lo_mg.out k hs; omega))
    replace rw1 := Lib.hid (rw1.out.only o25 (fun k hk hs => by have h1 := lo_rw1.out k hk; have h2 := lo_mg.out k hs; omega))
    replace BX := Lib.hid (triOnly BX.out o25 (fun hs => by have h1 := lo_BX.out _ rfl; have h2 := lo_mg.out _ hs; omega))
    replace xx := Lib.hid (xx.out.only o25 (fun k hk hs => by have h1 := lo_xx.out k hk; have h2 := lo_mg.out k hs; omega))
    replace rg := Lib.hid (rg.out.only o25 (fun k hk hs => AP_mg.out k hk hs))
    replace mg := Lib.hid r25
    clear r25 o25
    obtain ⟨⟨d0BA, d1BA, d2BA⟩, g0BA, g1BA, g2BA⟩ := BA.out
    have ltBA := BA.out.lt
    obtain ⟨⟨d0BX, d1BX, d2BX⟩, g0BX, g1BX, g2BX⟩ := BX.out
    have ltBX := BX.out.lt
    go_wp2_with fail
    refine (markLetterS_row _ _ _ _ mt rg.out hll (by omega) (by omega)).mono ?_
    rw [MS.out]
    rintro e w26 ⟨rfl, r26, o26⟩
    clear d0BA d1BA d2BA g0BA g1BA g2BA ltBA
    clear d0BX d1BX d2BX g0BX g1BX g2BX ltBX
    replace o26 := (Only.of_grown o26).mono (T := fun k => v_rg.ownBlock = some k) (fun k _ e => e.symm)
    have z26 := o26.size
    replace BL := Lib.hid (BL.out.trans (o26.below (B := w.heap.size) (fun k hk _ hs => by have := (lo_rg.out k hs).1; omega) (by omega)))
    replace BA := Lib.hid (triOnly BA.out o26 (fun hs => by have h1 := lo_BA.out _ rfl; have h2 := lo_rg.out _ hs; omega))
    replace mw := Lib.hid (mw.out.only o26 (fun k hk hs => by have h1 := lo_mw.out k hk; have h2 := lo_rg.out k hs; omega))
    replace rw1 := Lib.hid (rw1.out.only o26 (fun k hk hs => by have h1 := lo_rw1.out k hk; have h2 := lo_rg.out k hs; omega))
    replace BX := Lib.hid (triOnly BX.out o26 (fun hs => by have h1 := lo_BX.out _ rfl; have h2 := lo_rg.out _ hs; omega))
    replace xx := Lib.hid (xx.out.only o26 (fun k hk hs => by have h1 := lo_xx.out k hk; have h2 := lo_rg.out k hs; omega))
    replace mg := Lib.hid (mg.out.only o26 (fun k hk hs => AP_mg.out k hs hk))
    replace rg := Lib.hid r26
    clear r26 o26
    obtain ⟨⟨d0BA, d1BA, d2BA⟩, g0BA, g1BA, g2BA⟩ := BA.out
    have ltBA := BA.out.lt
    obtain ⟨⟨d0BX, d1BX, d2BX⟩, g0BX, g1BX, g2BX⟩ := BX.out
    have ltBX := BX.out.lt
    go_wp2_with fail
    refine (heldLetterSS_mat _ _ N _ _ MM 1 mg.out hN10 htot (by omega) (by omega)).mono ?_
    rw [MT.out]
    rintro e w27 ⟨rfl, k27⟩
    clear d0BA d1BA d2BA g0BA g1BA g2BA ltBA
    clear d0BX d1BX d2BX g0BX g1BX g2BX ltBX
    have z27 := k27.size
    replace BL := Lib.hid (step BL.out k27)
    replace BA := Lib.hid (BA.out.on k27)
    replace mw := Lib.hid (mw.out.on k27)
    replace rw1 := Lib.hid (rw1.out.on k27)
    replace BX := Lib.hid (BX.out.on k27)
    replace xx := Lib.hid (xx.out.on k27)
    replace mg := Lib.hid (mg.out.on k27)
    replace rg := Lib.hid (rg.out.on k27)
    clear k27
    obtain ⟨⟨d0BA, d1BA, d2BA⟩, g0BA, g1BA, g2BA⟩ := BA.out
    have ltBA := BA.out.lt
    obtain ⟨⟨d0BX, d1BX, d2BX⟩, g0BX, g1BX, g2BX⟩ := BX.out
    have ltBX := BX.out.lt
    go_wp2_with fail
    refine (heldLetterS_row _ _ _ mt LL.length rg.out hll (by omega) (by omega)).mono ?_
    rw [MS.out]
    rintro e w28 ⟨rfl, k28⟩
    clear d0BA d1BA d2BA g0BA g1BA g2BA ltBA
    clear d0BX d1BX d2BX g0BX g1BX g2BX ltBX
    have z28 := k28.size
    replace BL := Lib.hid (step BL.out k28)
    replace BA := Lib.hid (BA.out.on k28)
    replace mw := Lib.hid (mw.out.on k28)
    replace rw1 := Lib.hid (rw1.out.on k28)
    replace BX := Lib.hid (BX.out.on k28)
    replace xx := Lib.hid (xx.out.on k28)
    replace mg := Lib.hid (mg.out.on k28)
    replace rg := Lib.hid (rg.out.on k28)
    clear k28
    clear xx lo_xx
    obtain ⟨⟨d0BA, d1BA, d2BA⟩, g0BA, g1BA, g2BA⟩ := BA.out
    have ltBA := BA.out.lt
    obtain ⟨⟨d0BX, d1BX, d2BX⟩, g0BX, g1BX, g2BX⟩ := BX.out
    have ltBX := BX.out.lt
    go_wp2_with fail
    refine (toPlan_any _ a0 b0 A0 n0 k0 S0 (HS.out.on BL.out) hn).mono ?_
    rintro e w29 ⟨p_ph, rfl, _, q_ph, k29⟩
    clear d0BA d1BA d2BA g0BA g1BA g2BA ltBA
    clear d0BX d1BX d2BX g0BX g1BX g2BX ltBX
    have z29 := k29.size
    replace BL := Lib.hid (step BL.out k29)
    replace BA := Lib.hid (BA.out.on k29)
    replace mw := Lib.hid (mw.out.on k29)
    replace rw1 := Lib.hid (rw1.out.on k29)
    replace BX := Lib.hid (BX.out.on k29)
    replace mg := Lib.hid (mg.out.on k29)
    replace rg := Lib.hid (rg.out.on k29)
    have ph := Lib.hid q_ph
    have lo_ph : Hid (∀ k, ((Value.slice (some ⟨p_ph, 0, none⟩) n0 n0).ownBlock = some k) → w28.heap.size ≤ k ∧ k < w29.heap.size) := fun k hk => ph.out.lt k hk
    clear k29
    obtain ⟨⟨d0BA, d1BA, d2BA⟩, g0BA, g1BA, g2BA⟩ := BA.out
    have ltBA := BA.out.lt
    obtain ⟨⟨d0BX, d1BX, d2BX⟩, g0BX, g1BX, g2BX⟩ := BX.out
    have ltBX := BX.out.lt
    go_wp2_with fail
    refine (toLetterS_row _ _ _ _ _ _ (HS1.out.on BL.out) hn1).mono ?_
    rintro e w30 ⟨b_xh, rfl, q_xh, k30⟩
    clear d0BA d1BA d2BA g0BA g1BA g2BA ltBA
    clear d0BX d1BX d2BX g0BX g1BX g2BX ltBX
    have z30 := k30.size
    replace BL := Lib.hid (step BL.out k30)
    replace BA := Lib.hid (BA.out.on k30)
    replace mw := Lib.hid (mw.out.on k30)
    replace rw1 := Lib.hid (rw1.out.on k30)
    replace BX := Lib.hid (BX.out.on k30)
    replace mg := Lib.hid (mg.out.on k30)
    replace rg := Lib.hid (rg.out.on k30)
    replace ph := Lib.hid (ph.out.on k30)
    have xh := Lib.hid q_xh
    have lo_xh : Hid (∀ k, ((Value.slice (some ⟨b_xh, 0, none⟩) n1 n1).ownBlock = some k) → w29.heap.size ≤ k ∧ k < w30.heap.size) := fun k hk => xh.out.lt k hk
    clear k30
    obtain ⟨⟨d0BA, d1BA, d2BA⟩, g0BA, g1BA, g2BA⟩ := BA.out
    have ltBA := BA.out.lt
    obtain ⟨⟨d0BX, d1BX, d2BX⟩, g0BX, g1BX, g2BX⟩ := BX.out
    have ltBX := BX.out.lt
    go_wp2_with fail
    refine (toMissortS_row _ a3 n3 k3 I3 C3 (HS3.out.on BL.out) hn3).mono ?_
    rintro e w31 ⟨b_yh, rfl, q_yh, k31⟩
    clear d0BA d1BA d2BA g0BA g1BA g2BA ltBA
    clear d0BX d1BX d2BX g0BX g1BX g2BX ltBX
    have z31 := k31.size
    replace BL := Lib.hid (step BL.out k31)
    replace BA := Lib.hid (BA.out.on k31)
    replace mw := Lib.hid (mw.out.on k31)
    replace rw1 := Lib.hid (rw1.out.on k31)
    replace BX := Lib.hid (BX.out.on k31)
    replace mg := Lib.hid (mg.out.on k31)
    replace rg := Lib.hid (rg.out.on k31)
    replace ph := Lib.hid (ph.out.on k31)
    replace xh := Lib.hid (xh.out.on k31)
    have yh := Lib.hid q_yh
    have lo_yh : Hid (∀ k, (k = b_yh) → w30.heap.size ≤ k ∧ k < w31.heap.size) := fun k hk => yh.out.lt k hk
    clear k31
    obtain ⟨⟨d0BA, d1BA, d2BA⟩, g0BA, g1BA, g2BA⟩ := BA.out
    have ltBA := BA.out.lt
    obtain ⟨⟨d0BX, d1BX, d2BX⟩, g0BX, g1BX, g2BX⟩ := BX.out
    have ltBX := BX.out.lt
    go_wp2_with fail
    refine (CI.out _ _ _ _ _ _ _ (HJ.out.on BL.out) ph.out.strs xh.out.lts_lst yh.out.mss).mono ?_
    rintro e w32 ⟨v_mh, V_mh, v_rh, rfl, q_mh, q_rh, ap_mh, k32⟩
    clear d0BA d1BA d2BA g0BA g1BA g2BA ltBA
    clear d0BX d1BX d2BX g0BX g1BX g2BX ltBX
    have z32 := k32.size
    replace BL := Lib.hid (step BL.out k32)
    replace BA := Lib.hid (BA.out.on k32)
    replace mw := Lib.hid (mw.out.on k32)
    replace rw1 := Lib.hid (rw1.out.on k32)
    replace BX := Lib.hid (BX.out.on k32)
    replace mg := Lib.hid (mg.out.on k32)
    replace rg := Lib.hid (rg.out.on k32)
    replace ph := Lib.hid (ph.out.on k32)
    replace xh := Lib.hid (xh.out.on k32)
    replace yh := Lib.hid (yh.out.on k32)
    have mh := Lib.hid q_mh
    have lo_mh : Hid (∀ k, (inM v_mh N V_mh k) → w31.heap.size ≤ k ∧ k < w32.heap.size) := fun k hk => mh.out.lt hk
    have rh := Lib.hid q_rh
    have lo_rh : Hid (∀ k, (v_rh.ownBlock = some k) → w31.heap.size ≤ k ∧ k < w32.heap.size) := fun k hk => rh.out.lt k hk
    clear k32
    have AP_mh := Lib.hid ap_mh
    clear ap_mh
    clear ph lo_ph
    clear xh lo_xh
    clear yh lo_yh
    obtain ⟨⟨d0BA, d1BA, d2BA⟩, g0BA, g1BA, g2BA⟩ := BA.out
    have ltBA := BA.out.lt
    obtain ⟨⟨d0BX, d1BX, d2BX⟩, g0BX, g1BX, g2BX⟩ := BX.out
    have ltBX := BX.out.lt
    go_wp2_with fail
    refine (eqLetterSS_mat _ _ _ N _ _ _ _ MM mh.out mw.out hN10 hlen.out).mono ?_
    rintro e w33 ⟨rfl, k33⟩
    clear d0BA d1BA d2BA g0BA g1BA g2BA ltBA
    clear d0BX d1BX d2BX g0BX g1BX g2BX ltBX
    have z33 := k33.size
    replace BL := Lib.hid (step BL.out k33)
    replace BA := Lib.hid (BA.out.on k33)
    replace mw := Lib.hid (mw.out.on k33)
    replace rw1 := Lib.hid (rw1.out.on k33)
    replace BX := Lib.hid (BX.out.on k33)
    replace mg := Lib.hid (mg.out.on k33)
    replace rg := Lib.hid (rg.out.on k33)
    replace mh := Lib.hid (mh.out.on k33)
    replace rh := Lib.hid (rh.out.on k33)
    clear k33
    obtain ⟨⟨d0BA, d1BA, d2BA⟩, g0BA, g1BA, g2BA⟩ := BA.out
    have ltBA := BA.out.lt
    obtain ⟨⟨d0BX, d1BX, d2BX⟩, g0BX, g1BX, g2BX⟩ := BX.out
    have ltBX := BX.out.lt
    go_wp2_with fail
    refine (eqLetterS_row _ _ _ _ _ _ rh.out rw1.out hll).mono ?_
    rintro e w34 ⟨rfl, k34⟩
    clear d0BA d1BA d2BA g0BA g1BA g2BA ltBA
    clear d0BX d1BX d2BX g0BX g1BX g2BX ltBX
    have z34 := k34.size
    replace BL := Lib.hid (step BL.out k34)
    replace BA := Lib.hid (BA.out.on k34)
    replace mw := Lib.hid (mw.out.on k34)
    replace rw1 := Lib.hid (rw1.out.on k34)
    replace BX := Lib.hid (BX.out.on k34)
    replace mg := Lib.hid (mg.out.on k34)
    replace rg := Lib.hid (rg.out.on k34)
    replace mh := Lib.hid (mh.out.on k34)
    replace rh := Lib.hid (rh.out.on k34)
    clear k34
    clear mh lo_mh
    clear rh lo_rh
    obtain ⟨⟨d0BA, d1BA, d2BA⟩, g0BA, g1BA, g2BA⟩ := BA.out
    have ltBA := BA.out.lt
    obtain ⟨⟨d0BX, d1BX, d2BX⟩, g0BX, g1BX, g2BX⟩ := BX.out
    have ltBX := BX.out.lt
    go_wp2_with fail
    refine (heldLetterSS_mat _ _ N _ _ MM 1 mg.out hN10 htot (by omega) (by omega)).mono ?_
    rw [MT.out]
    rintro e w35 ⟨rfl, k35⟩
    clear d0BA d1BA d2BA g0BA g1BA g2BA ltBA
    clear d0BX d1BX d2BX g0BX g1BX g2BX ltBX
    have z35 := k35.size
    replace BL := Lib.hid (step BL.out k35)
    replace BA := Lib.hid (BA.out.on k35)
    replace mw := Lib.hid (mw.out.on k35)
    replace rw1 := Lib.hid (rw1.out.on k35)
    replace BX := Lib.hid (BX.out.on k35)
    replace mg := Lib.hid (mg.out.on k35)
    replace rg := Lib.hid (rg.out.on k35)
    clear k35
    obtain ⟨⟨d0BA, d1BA, d2BA⟩, g0BA, g1BA, g2BA⟩ := BA.out
    have ltBA := BA.out.lt
    obtain ⟨⟨d0BX, d1BX, d2BX⟩, g0BX, g1BX, g2BX⟩ := BX.out
    have ltBX := BX.out.lt
    go_wp2_with fail
    refine (heldLetterS_row _ _ _ mt LL.length rg.out hll (by omega) (by omega)).mono ?_
    rw [MS.out]
    rintro e w36 ⟨rfl, k36⟩
    clear d0BA d1BA d2BA g0BA g1BA g2BA ltBA
    clear d0BX d1BX d2BX g0BX g1BX g2BX ltBX
    have z36 := k36.size
    replace BL := Lib.hid (step BL.out k36)
    replace BA := Lib.hid (BA.out.on k36)
    replace mw := Lib.hid (mw.out.on k36)
    replace rw1 := Lib.hid (rw1.out.on k36)
    replace BX := Lib.hid (BX.out.on k36)
    replace mg := Lib.hid (mg.out.on k36)
    replace rg := Lib.hid (rg.out.on k36)
    clear k36
    go_wp2
    go_ret
    exact ⟨rfl, BL.out⟩

set_option maxRecDepth 100000 in
theorem lifted (os : Os) (started : os.Started) (H : Type) (enc : TypeId × Value → H) :
    ReturnsInHanded {} Tryd.checked os 3 .any (fun w args => (Rows.fnExactFaultyPassSpec.pre enc Tryd.prog Tryd.f3 [] false w args ∧ laidMetH Tryd.prog Rows.fnExactFaultyPassRow.laid w) ∧ sizedMet enc Tryd.prog Tryd.f3 (OpenSpec.ofChange Rows.fnExactFaultyPassSpec) false w args)
      (Rows.fnExactFaultyPassSpec.post enc Tryd.prog Tryd.f3 false true false false) := by
  refine returnsInHanded_of_change_and (C := Tryd.checked) (X := fun w _ => laidMetH Tryd.prog Rows.fnExactFaultyPassRow.laid w) (fun _ _ _ hh h => h.of_heap hh) own started (by kernel_rfl) Tryd.func3
    (ChangeSpec.witness_shaped (enc := enc) (C := Tryd.checked) (os := os) (X := fun w _ => laidMetH Tryd.prog Rows.fnExactFaultyPassRow.laid w) false (World.laidAll Tryd.prog os Rows.fnExactFaultyPassRow.laid) #[.agg #[.int .i64 0, .int .i64 0, .slice none 0 0], .slice none 0 0, .int .i64 0, .slice none 0 0] 8 (World.laidAll_os _ _ _) (World.shaped_of_ZipB (by kernel_rfl) (by kernel_rfl)) (by kernel_rfl) (by kernel_rfl) (by kernel_rfl) (Laid.door_jam os _)) ?_
  intro W base args ds gs before hval0 hW _ _ hL _
  have hval : ∀ (j : Nat) t v, Tryd.f3.params[j]? = some t → args[j]? = some v → Value.okWide Tryd.prog W .any base t v := hval0
  have hW' := hW
  obtain ⟨p, q, hA0, hV, rfl, hfz, hnd⟩ := hW
  have hA : DataW.TrodAll enc Tryd.prog W 0 (fun _ => true) true Tryd.f3.params.toList args.toList ds p := hA0
  rw [Tryd.params3] at hA hval
  obtain ⟨v0, vs0, d0, ds0, p0, q0, hargs, rfl, rfl, h0, r0⟩ := trodAll_cons hA
  obtain ⟨v1, vs1, d1, ds1, p1, q1, rfl, rfl, rfl, h1, r1⟩ := trodAll_cons r0
  obtain ⟨v2, vs2, d2, ds2, p2, q2, rfl, rfl, rfl, h2, r2⟩ := trodAll_cons r1
  obtain ⟨v3, vs3, d3, ds3, p3, q3, rfl, rfl, rfl, h3, r3⟩ := trodAll_cons r2
  obtain ⟨rfl, rfl, rfl⟩ := trodAll_nil r3
  obtain rfl : args = #[v0, v1, v2, v3] := by cases args; simp_all
  have hV' : DataW.TrodVars enc Tryd.prog W (fun _ => true) ["loop.example/sortingoffice/impl.errJam"] gs q := hV
  obtain ⟨J, hvJ, hJ⟩ := Laid.of_jam hL
  obtain ⟨rfl, rfl⟩ := hV'.unique (Laid.jam_read enc hvJ _)
  have g0 := h0
  have lt0 : ∀ x ∈ p0, x.block < W.heap.size := by obtain ⟨m, hm⟩ := g0; exact DataW.trod_lt m _ _ _ hm
  have g1 := h1
  have lt1 : ∀ x ∈ p1, x.block < W.heap.size := by obtain ⟨m, hm⟩ := g1; exact DataW.trod_lt m _ _ _ hm
  have g2 := h2
  have lt2 : ∀ x ∈ p2, x.block < W.heap.size := by obtain ⟨m, hm⟩ := g2; exact DataW.trod_lt m _ _ _ hm
  have g3 := h3
  have lt3 : ∀ x ∈ p3, x.block < W.heap.size := by obtain ⟨m, hm⟩ := g3; exact DataW.trod_lt m _ _ _ hm
  obtain ⟨u0, t0, s0, m00, m10, m20, j0, rfl, _, _, q00, q10, q20⟩ := open_agg3 Tryd.underlying24 (by kernel_rfl) (by kernel_rfl) (hval 0 24 v0 rfl rfl) h0
  obtain ⟨a0, ea0, _, x0⟩ := DataW.trod_int Tryd.underlying3 q00
  obtain ⟨b0, eb0, _, y0⟩ := DataW.trod_int Tryd.underlying3 q10
  obtain rfl := List.singleton_inj.1 ea0
  obtain rfl := List.singleton_inj.1 eb0
  obtain ⟨A0, n0, k0, S0, rfl, w0, f0, z0⟩ := open_strs q20
  obtain ⟨a1, n1, k1, rfl⟩ := okWide_slice Tryd.underlying25 (hval 1 25 v1 rfl rfl)
  obtain ⟨I1, C1, w1, f1, z1⟩ : ∃ I C, Lts W a1 n1 I C ∧ Fits n1 I C ∧ n1 ≤ maxLen := by
    obtain ⟨fuel, hf⟩ := h1
    exact open_letters hf
  obtain ⟨a2, rfl, _, _, w2⟩ := open_int Tryd.underlying3 (hval 2 3 v2 rfl rfl) h2
  obtain ⟨a3, n3, k3, rfl⟩ := okWide_slice Tryd.underlying26 (hval 3 26 v3 rfl rfl)
  obtain ⟨I3, C3, w3, f3, z3⟩ : ∃ I C, Mss W a3 n3 I C ∧ MFits n3 I C ∧ n3 ≤ maxLen := by
    obtain ⟨fuel, hf⟩ := h3
    exact open_missorts hf
  clear hA0 hval0
  refine (walk W a0 b0 A0 n0 k0 S0 w0 f0 z0 x0 y0 a1 n1 k1 I1 C1 w1 f1 z1 a2 w2 a3 n3 k3 I3 C3 w3 f3 z3 J hJ).mono fun e W' ⟨he, bel⟩ => ?_
  subst he
  exact ⟨_, rfl, _, _, _, [], _, _, hW', trodAll_mk1 (shut_bool Tryd.underlying4 _), (trodAll_cons_mk (Below.trod laidOut (by kernel_rfl) (of_decide_eq_true (by kernel_rfl)) g0 bel lt0) (trodAll_cons_mk (Below.trod laidOut (by kernel_rfl) (of_decide_eq_true (by kernel_rfl)) g1 bel lt1) (trodAll_cons_mk (Below.trod laidOut (by kernel_rfl) (of_decide_eq_true (by kernel_rfl)) g2 bel lt2) (trodAll_cons_mk (Below.trod laidOut (by kernel_rfl) (of_decide_eq_true (by kernel_rfl)) g3 bel lt3) trodAll_mk0)))), Laid.jam_read enc (Go.Joins.var_stays Laid.jam_named hvJ bel (Nat.le_refl _)) _, bel.frame _, fun h => by cases h⟩

theorem row_holds : Rows.FnExactFaultyPassSaid :=
  OpenClaim.holds_of_wide 3 Tryd.f3 rfl rfl rfl rfl rfl rfl rfl ⟨rfl, rfl, rfl, rfl, rfl⟩ rfl rfl rfl rfl rfl (by kernel_rfl) Tryd.func3 (by kernel_rfl)
    (of_decide_eq_true (by kernel_rfl)) (by unfold Func.isWrapper; first | (rw [if_pos (by decide +kernel)]; kernel_rfl) | (rw [if_neg (by decide +kernel)]; exact ⟨rfl, rfl⟩))
    (fun os started H enc _ => lifted os started H enc)

theorem proved : Rows.FnExactFaultyPassCardSaid :=
  Claim7.holds_tied_plain_at .later [] [.sentinel] true Rows.fnExactFaultyPassCard.stood.harness true
    row_holds (fun _ h => by cases h) (by kernel_rfl) (fun _ h => by cases h) fnExactFaultyPass_row_tie rfl ⟨rfl, rfl⟩ (by kernel_rfl) rfl
    (fun f fn hf hfn => by
      obtain rfl : f = 3 := Option.some.inj ((show Tryd.prog.funcNamed Rows.fnExactFaultyPassRow.func = some 3 by kernel_rfl).symm.trans hf) |>.symm
      obtain rfl : fn = Tryd.f3 := (Option.some.inj (Tryd.func3.symm.trans hfn)).symm
      exact ⟨by kernel_rfl, fun j t ht => by
        rw [Tryd.params3] at ht
        have hm : t ∈ [24, 25, 3, 26] := by simpa using Array.mem_of_getElem? ht
        have hall : ([24, 25, 3, 26].all fun u => !Tryd.prog.wantsStandIn u) = true := by kernel_rfl
        exact (show Tryd.prog.wantsStandIn t = false by simpa using List.all_eq_true.1 hall t hm)⟩)
    (by kernel_rfl)
#print axioms proved
end Go.Proofs.YthlfbdapkjhmaaaDoor.fnExactFaultyPass
