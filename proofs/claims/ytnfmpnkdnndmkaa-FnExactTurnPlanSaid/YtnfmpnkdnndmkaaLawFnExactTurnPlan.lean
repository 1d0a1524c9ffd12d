/-
  For every plan, laws.FnExactTurnPlan returns true: the program's TurnPlan answers as the model of the document does, and its answer owns its memory. No condition.
-/
import Derived.Test.YtnfmpnkdnndmkaaRows
import Derived.Test.YtnfmpnkdnndmkaaTurnS
import Derived.Test.YtnfmpnkdnndmkaaHeldP
import Derived.Deep.RegionHeld3
import Derived.WalkKit
import Derived.ProofKit
import Derived.OpenShut
import Derived.ShutString
import Derived.ChangeOld
import Derived.Below
import Derived.Handy
import Derived.Lib.Hide
import Derived.Lib.SmallJoins
import Derived.Test.YtnfmpnkdnndmkaaStrOpen
namespace Go.Proofs.Ytnfmpnkdnndmkaa.fnExactTurnPlan
open Go.ChangeShapes Go.WideShapes Go.ChangeAt Go.RowKit
open Go.ChangeMaps (open_string shut_string)
open Go.PlainAid (bt get_bt bt_nonneg bt_le)
open Go.Joins
set_option linter.unusedVariables false

theorem triOnly {w w' : World} {b : Nat} {x y z : Value} {S : Nat → Prop} (h : Tri w b x y z) (ho : Only w w' S) (hn : ¬ S b) : Tri w' b x y z := by
  have hlt := h.lt
  obtain ⟨⟨h0, h1, h2⟩, f0, f1, f2⟩ := h
  have hb := ho.block b hlt hn
  have k : ∀ i, w'.cell? ⟨b, i, none⟩ = w.cell? ⟨b, i, none⟩ := fun i => World.cell?_of_block hb
  have q : ∀ i, w'.frozen? ⟨b, i, none⟩ = w.frozen? ⟨b, i, none⟩ := fun i => World.frozen?_of_block hb
  exact ⟨⟨by rw [k]; exact h0, by rw [k]; exact h1, by rw [k]; exact h2⟩, by rw [q]; exact f0, by rw [q]; exact f1, by rw [q]; exact f2⟩
theorem strsOnly {w w' : World} {a : Option Addr} {n : Nat} {S : Nat → ByteArray} {T : Nat → Prop} (h : Strs w a n S) (ho : Only w w' T) (hn : ∀ b o, a = some ⟨b, o, none⟩ → 0 < n → ¬ T b) : Strs w' a n S := by
  intro i hi
  obtain ⟨b, o, e, h1⟩ := h i hi
  have hl := h.lt e (by omega)
  exact ⟨b, o, e, (World.cell?_of_block (ho.block b hl (hn b o e (by omega)))).trans h1⟩
theorem own : ownKnob Try.prog.godebug = none := by kernel_rfl
theorem laidOut : laidOutB Try.prog = true := by kernel_rfl

set_option maxHeartbeats 4000000 in
set_option maxRecDepth 100000 in
theorem walk (w : World) (a0 b0 : Int) (A0 : Option Addr) (n0 k0 : Nat) (S0 : Nat → ByteArray) (w0 : Strs w A0 n0 S0) (f0 : SFits n0 S0) (z0 : n0 ≤ maxLen) (x0 : (Lit.int .i64 a0).wf = true) (y0 : (Lit.int .i64 b0).wf = true) :
    Calls Try.prog 3 #[.agg #[.int .i64 a0, .int .i64 b0, .slice A0 n0 k0]] w fun e w' => e = .returned (.bool true) ∧ Below w.heap.size w w' := by
  have HS := Lib.hid w0
  have HF := Lib.hid f0
  clear w0
  go_enter Try.func3, Try.ntmps3
  go_wp2_with fail
  refine (szPlan_any _ a0 b0 A0 n0 k0 S0 (HS.out.on (below_alloc0 _ _)) HF.out z0 _ (by omega) (by omega)).mono ?_
  rintro e w1 ⟨r, rfl, hr, hr1, k1⟩
  have BA := Lib.hid ((tri_made w (.int .i64 a0) (.int .i64 b0) (.slice A0 n0 k0) 24).on k1)
  have hb1 : Below w.heap.size w w1 := sstep (below_alloc0 w _) k1
  have lo_BA : Hid (∀ k, k = w.heap.size → w.heap.size ≤ k ∧ k < w1.heap.size) := fun k hk => ⟨by omega, by have := BA.out.lt; omega⟩
  clear k1
  by_cases hneg : r < 0
  · go_wp2
    go_ret
    exact ⟨rfl, hb1⟩
  have hn : n0 ≤ 1048576 := by omega
  have q1 := tL_len (M.plan a0 b0 n0 S0) n0 S0
  clear hr z0 hr1
  obtain ⟨ok, hok⟩ : ∃ ok, M.plan a0 b0 n0 S0 = ok := ⟨_, rfl⟩
  rw [hok] at q1
  obtain ⟨bb, hbb⟩ : ∃ bb, tB ok a0 = bb := ⟨_, rfl⟩
  obtain ⟨pp, hpp⟩ : ∃ pp, tB ok b0 = pp := ⟨_, rfl⟩
  obtain ⟨LL, hLL⟩ : ∃ LL, tL ok n0 S0 = LL := ⟨_, rfl⟩
  have CS : Hid (∀ (W : World) (a : Option Addr) (c : Nat), Strs W a n0 S0 → Calls Try.prog 6 #[.agg #[.int .i64 a0, .int .i64 b0, .slice a n0 c]] W (PlanSl W ok bb pp LL)) := fun W a c hs => by
    have := spec_TurnPlan W a0 b0 a n0 c S0 hs HF.out hn
    rw [hok, hbb, hpp, hLL] at this
    exact planSl this
  have CI : Hid (∀ (W : World) (a : Option Addr) (c : Nat), Strs W a n0 S0 → Calls Try.prog 8 #[.agg #[.int .i64 a0, .int .i64 b0, .slice a n0 c]] W (PlanSl W ok bb pp LL)) := fun W a c hs => by
    have := impl_TurnPlan W a0 b0 a n0 c S0 hs HF.out hn
    rw [hok, hbb, hpp, hLL] at this
    exact planSl this
  rw [hLL] at q1
  have hll : LL.length ≤ 1048576 := by omega
  have hls : (sst S0 n0).length ≤ 1048576 := by simp [sst]; exact hn
  obtain ⟨mt, hmt⟩ : ∃ mt : Nat, 1 + LL.length = mt := ⟨_, rfl⟩
  have MT := Lib.hid hmt
  obtain ⟨mp, hmp⟩ : ∃ mp : Nat, 1 + n0 = mp := ⟨_, rfl⟩
  have MP : Hid (1 + (sst S0 n0).length = mp) := by rw [show (sst S0 n0).length = n0 by simp [sst]]; exact hmp
  have mt1 : ¬ ((mt : Int) < 0) := by omega
  clear hok hbb hpp hLL hmt hmp q1
  have BL := Lib.hid hb1
  have z1 := BL.out.size
  obtain ⟨⟨d0BA, d1BA, d2BA⟩, g0BA, g1BA, g2BA⟩ := BA.out
  have ltBA := BA.out.lt
  go_wp2_with fail
  refine (toPlan_any _ a0 b0 A0 n0 k0 S0 (HS.out.on BL.out) hn).mono ?_
  rintro e w2 ⟨p_ps, rfl, _, q_ps, k2⟩
  clear d0BA d1BA d2BA g0BA g1BA g2BA ltBA
  have z2 := k2.size
  replace BL := Lib.hid (step BL.out k2)
  replace BA := Lib.hid (BA.out.on k2)
  have ps := Lib.hid q_ps
  have lo_ps : Hid (∀ k, ((Value.slice (some ⟨p_ps, 0, none⟩) n0 n0).ownBlock = some k) → w1.heap.size ≤ k ∧ k < w2.heap.size) := fun k hk => ps.out.lt k hk
  clear k2
  obtain ⟨⟨d0BA, d1BA, d2BA⟩, g0BA, g1BA, g2BA⟩ := BA.out
  have ltBA := BA.out.lt
  go_wp2_with fail
  refine (CS.out _ _ _ ps.out.strs).mono ?_
  rintro e w3 ⟨a_w, c_w, rfl, q_w, k3⟩
  clear d0BA d1BA d2BA g0BA g1BA g2BA ltBA
  have z3 := k3.size
  replace BL := Lib.hid (step BL.out k3)
  replace BA := Lib.hid (BA.out.on k3)
  replace ps := Lib.hid (ps.out.on k3)
  have rw := Lib.hid q_w
  have lo_rw : Hid (∀ k, ((Value.slice a_w LL.length c_w).ownBlock = some k) → w2.heap.size ≤ k ∧ k < w3.heap.size) := fun k hk => rw.out.lt k hk
  clear k3
  obtain ⟨⟨d0BA, d1BA, d2BA⟩, g0BA, g1BA, g2BA⟩ := BA.out
  have ltBA := BA.out.lt
  obtain ⟨w4, hw4⟩ : ∃ w4, w3.alloc (.cells #[.int .i64 bb, .int .i64 pp, .slice a_w LL.length c_w] 26) = w4 := ⟨_, rfl⟩
  have k4 : Below w3.heap.size w3 w4 := hw4 ▸ below_alloc0 w3 (.cells #[.int .i64 bb, .int .i64 pp, .slice a_w LL.length c_w] 26)
  have z4 := k4.size
  replace BL := Lib.hid (step BL.out k4)
  replace BA := Lib.hid (BA.out.on k4)
  replace ps := Lib.hid (ps.out.on k4)
  replace rw := Lib.hid (rw.out.on k4)
  have Bw : Hid (Tri w4 w3.heap.size (.int .i64 bb) (.int .i64 pp) (.slice a_w LL.length c_w)) := hw4 ▸ tri_made w3 (.int .i64 bb) (.int .i64 pp) (.slice a_w LL.length c_w) 26
  have lo_Bw : Hid (∀ k, k = w3.heap.size → w3.heap.size ≤ k ∧ k < w4.heap.size) := fun k hk => ⟨by omega, by have := Bw.out.lt; omega⟩
  have HW4 := Lib.hid hw4
  clear hw4 k4
  go_wp2_with fail
  rw [HW4.out]
  clear d0BA d1BA d2BA g0BA g1BA g2BA ltBA
  clear ps lo_ps
  obtain ⟨⟨d0BA, d1BA, d2BA⟩, g0BA, g1BA, g2BA⟩ := BA.out
  have ltBA := BA.out.lt
  obtain ⟨⟨d0Bw, d1Bw, d2Bw⟩, g0Bw, g1Bw, g2Bw⟩ := Bw.out
  have ltBw := Bw.out.lt
  go_wp2_with fail
  refine (toPlan_any _ a0 b0 A0 n0 k0 S0 (HS.out.on BL.out) hn).mono ?_
  rintro e w5 ⟨p_p0, rfl, _, q_p0, k5⟩
  clear d0BA d1BA d2BA g0BA g1BA g2BA ltBA
  clear d0Bw d1Bw d2Bw g0Bw g1Bw g2Bw ltBw
  have z5 := k5.size
  replace BL := Lib.hid (step BL.out k5)
  replace BA := Lib.hid (BA.out.on k5)
  replace rw := Lib.hid (rw.out.on k5)
  replace Bw := Lib.hid (Bw.out.on k5)
  have p0 := Lib.hid q_p0
  have lo_p0 : Hid (∀ k, ((Value.slice (some ⟨p_p0, 0, none⟩) n0 n0).ownBlock = some k) → w4.heap.size ≤ k ∧ k < w5.heap.size) := fun k hk => p0.out.lt k hk
  clear k5
  obtain ⟨⟨d0BA, d1BA, d2BA⟩, g0BA, g1BA, g2BA⟩ := BA.out
  have ltBA := BA.out.lt
  obtain ⟨⟨d0Bw, d1Bw, d2Bw⟩, g0Bw, g1Bw, g2Bw⟩ := Bw.out
  have ltBw := Bw.out.lt
  obtain ⟨w6, hw6⟩ : ∃ w6, w5.alloc (.cells #[.int .i64 a0, .int .i64 b0, .slice (some ⟨p_p0, 0, none⟩) n0 n0] 26) = w6 := ⟨_, rfl⟩
  have k6 : Below w5.heap.size w5 w6 := hw6 ▸ below_alloc0 w5 (.cells #[.int .i64 a0, .int .i64 b0, .slice (some ⟨p_p0, 0, none⟩) n0 n0] 26)
  have z6 := k6.size
  replace BL := Lib.hid (step BL.out k6)
  replace BA := Lib.hid (BA.out.on k6)
  replace rw := Lib.hid (rw.out.on k6)
  replace Bw := Lib.hid (Bw.out.on k6)
  replace p0 := Lib.hid (p0.out.on k6)
  have BX : Hid (Tri w6 w5.heap.size (.int .i64 a0) (.int .i64 b0) (.slice (some ⟨p_p0, 0, none⟩) n0 n0)) := hw6 ▸ tri_made w5 (.int .i64 a0) (.int .i64 b0) (.slice (some ⟨p_p0, 0, none⟩) n0 n0) 26
  have lo_BX : Hid (∀ k, k = w5.heap.size → w5.heap.size ≤ k ∧ k < w6.heap.size) := fun k hk => ⟨by omega, by have := BX.out.lt; omega⟩
  have HW6 := Lib.hid hw6
  clear hw6 k6
  go_wp2_with fail
  rw [HW6.out]
  clear d0BA d1BA d2BA g0BA g1BA g2BA ltBA
  clear d0Bw d1Bw d2Bw g0Bw g1Bw g2Bw ltBw
  obtain ⟨⟨d0BA, d1BA, d2BA⟩, g0BA, g1BA, g2BA⟩ := BA.out
  have ltBA := BA.out.lt
  obtain ⟨⟨d0Bw, d1Bw, d2Bw⟩, g0Bw, g1Bw, g2Bw⟩ := Bw.out
  have ltBw := Bw.out.lt
  obtain ⟨⟨d0BX, d1BX, d2BX⟩, g0BX, g1BX, g2BX⟩ := BX.out
  have ltBX := BX.out.lt
  go_wp2_with fail
  refine (CI.out _ _ _ p0.out.strs).mono ?_
  rintro e w7 ⟨a_g, c_g, rfl, q_g, k7⟩
  clear d0BA d1BA d2BA g0BA g1BA g2BA ltBA
  clear d0Bw d1Bw d2Bw g0Bw g1Bw g2Bw ltBw
  clear d0BX d1BX d2BX g0BX g1BX g2BX ltBX
  have z7 := k7.size
  replace BL := Lib.hid (step BL.out k7)
  replace BA := Lib.hid (BA.out.on k7)
  replace rw := Lib.hid (rw.out.on k7)
  replace Bw := Lib.hid (Bw.out.on k7)
  replace p0 := Lib.hid (p0.out.on k7)
  replace BX := Lib.hid (BX.out.on k7)
  have rg := Lib.hid q_g
  have lo_rg : Hid (∀ k, ((Value.slice a_g LL.length c_g).ownBlock = some k) → w6.heap.size ≤ k ∧ k < w7.heap.size) := fun k hk => rg.out.lt k hk
  clear k7
  obtain ⟨⟨d0BA, d1BA, d2BA⟩, g0BA, g1BA, g2BA⟩ := BA.out
  have ltBA := BA.out.lt
  obtain ⟨⟨d0Bw, d1Bw, d2Bw⟩, g0Bw, g1Bw, g2Bw⟩ := Bw.out
  have ltBw := Bw.out.lt
  obtain ⟨⟨d0BX, d1BX, d2BX⟩, g0BX, g1BX, g2BX⟩ := BX.out
  have ltBX := BX.out.lt
  obtain ⟨w8, hw8⟩ : ∃ w8, w7.alloc (.cells #[.int .i64 bb, .int .i64 pp, .slice a_g LL.length c_g] 26) = w8 := ⟨_, rfl⟩
  have k8 : Below w7.heap.size w7 w8 := hw8 ▸ below_alloc0 w7 (.cells #[.int .i64 bb, .int .i64 pp, .slice a_g LL.length c_g] 26)
  have z8 := k8.size
  replace BL := Lib.hid (step BL.out k8)
  replace BA := Lib.hid (BA.out.on k8)
  replace rw := Lib.hid (rw.out.on k8)
  replace Bw := Lib.hid (Bw.out.on k8)
  replace p0 := Lib.hid (p0.out.on k8)
  replace BX := Lib.hid (BX.out.on k8)
  replace rg := Lib.hid (rg.out.on k8)
  have Bg : Hid (Tri w8 w7.heap.size (.int .i64 bb) (.int .i64 pp) (.slice a_g LL.length c_g)) := hw8 ▸ tri_made w7 (.int .i64 bb) (.int .i64 pp) (.slice a_g LL.length c_g) 26
  have lo_Bg : Hid (∀ k, k = w7.heap.size → w7.heap.size ≤ k ∧ k < w8.heap.size) := fun k hk => ⟨by omega, by have := Bg.out.lt; omega⟩
  have HW8 := Lib.hid hw8
  clear hw8 k8
  go_wp2_with fail
  rw [HW8.out]
  clear d0BA d1BA d2BA g0BA g1BA g2BA ltBA
  clear d0Bw d1Bw d2Bw g0Bw g1Bw g2Bw ltBw
  clear d0BX d1BX d2BX g0BX g1BX g2BX ltBX
  obtain ⟨⟨d0BA, d1BA, d2BA⟩, g0BA, g1BA, g2BA⟩ := BA.out
  have ltBA := BA.out.lt
  obtain ⟨⟨d0Bw, d1Bw, d2Bw⟩, g0Bw, g1Bw, g2Bw⟩ := Bw.out
  have ltBw := Bw.out.lt
  obtain ⟨⟨d0BX, d1BX, d2BX⟩, g0BX, g1BX, g2BX⟩ := BX.out
  have ltBX := BX.out.lt
  obtain ⟨⟨d0Bg, d1Bg, d2Bg⟩, g0Bg, g1Bg, g2Bg⟩ := Bg.out
  have ltBg := Bg.out.lt
  go_wp2_with fail
  refine (eqPlan_row _ _ _ bb pp _ _ _ rg.out rw.out hll).mono ?_
  rintro e w9 ⟨rfl, k9⟩
  clear d0BA d1BA d2BA g0BA g1BA g2BA ltBA
  clear d0Bw d1Bw d2Bw g0Bw g1Bw g2Bw ltBw
  clear d0BX d1BX d2BX g0BX g1BX g2BX ltBX
  clear d0Bg d1Bg d2Bg g0Bg g1Bg g2Bg ltBg
  have z9 := k9.size
  replace BL := Lib.hid (step BL.out k9)
  replace BA := Lib.hid (BA.out.on k9)
  replace rw := Lib.hid (rw.out.on k9)
  replace Bw := Lib.hid (Bw.out.on k9)
  replace p0 := Lib.hid (p0.out.on k9)
  replace BX := Lib.hid (BX.out.on k9)
  replace rg := Lib.hid (rg.out.on k9)
  replace Bg := Lib.hid (Bg.out.on k9)
  clear k9
  obtain ⟨⟨d0BA, d1BA, d2BA⟩, g0BA, g1BA, g2BA⟩ := BA.out
  have ltBA := BA.out.lt
  obtain ⟨⟨d0Bw, d1Bw, d2Bw⟩, g0Bw, g1Bw, g2Bw⟩ := Bw.out
  have ltBw := Bw.out.lt
  obtain ⟨⟨d0BX, d1BX, d2BX⟩, g0BX, g1BX, g2BX⟩ := BX.out
  have ltBX := BX.out.lt
  obtain ⟨⟨d0Bg, d1Bg, d2Bg⟩, g0Bg, g1Bg, g2Bg⟩ := Bg.out
  have ltBg := Bg.out.lt
  have HSC := Lib.hid (HS.out.on BL.out)
  have HXP := Lib.hid p0.out.strs
  have s0 : (w9.cell? ⟨w5.heap.size, 0, none⟩ = some (.int .i64 a0) ∧ w9.cell? ⟨w5.heap.size, 1, none⟩ = some (.int .i64 b0) ∧ w9.cell? ⟨w5.heap.size, 2, none⟩ = some (.slice (some ⟨p_p0, 0, none⟩) n0 n0)) ∧ (w9.cell? ⟨w.heap.size, 0, none⟩ = some (.int .i64 a0) ∧ w9.cell? ⟨w.heap.size, 1, none⟩ = some (.int .i64 b0) ∧ w9.cell? ⟨w.heap.size, 2, none⟩ = some (.slice A0 n0 k0)) := ⟨BX.out.1, BA.out.1⟩
  go_wp2_with fail
  go_region_held3 (fun w' => (w'.cell? ⟨w5.heap.size, 0, none⟩ = some (.int .i64 a0) ∧ w'.cell? ⟨w5.heap.size, 1, none⟩ = some (.int .i64 b0) ∧ w'.cell? ⟨w5.heap.size, 2, none⟩ = some (.slice (some ⟨p_p0, 0, none⟩) n0 n0)) ∧ (w'.cell? ⟨w.heap.size, 0, none⟩ = some (.int .i64 a0) ∧ w'.cell? ⟨w.heap.size, 1, none⟩ = some (.int .i64 b0) ∧ w'.cell? ⟨w.heap.size, 2, none⟩ = some (.slice A0 n0 k0))) (first | exact s0 | exact s1 | exact s2) (first
    | (go_at_call 7; refine (toPlan_any _ a0 b0 A0 n0 k0 S0 (HSC.out.on (by go_grown)) hn).mono ?_; rintro e wt ⟨gt, rfl, _, ot, kt⟩; have kT : Below w9.heap.size w9 wt := (by exact sstep (by go_grown) kt); have s1 : (wt.cell? ⟨w5.heap.size, 0, none⟩ = some (.int .i64 a0) ∧ wt.cell? ⟨w5.heap.size, 1, none⟩ = some (.int .i64 b0) ∧ wt.cell? ⟨w5.heap.size, 2, none⟩ = some (.slice (some ⟨p_p0, 0, none⟩) n0 n0)) ∧ (wt.cell? ⟨w.heap.size, 0, none⟩ = some (.int .i64 a0) ∧ wt.cell? ⟨w.heap.size, 1, none⟩ = some (.int .i64 b0) ∧ wt.cell? ⟨w.heap.size, 2, none⟩ = some (.slice A0 n0 k0)) := ⟨(BX.out.on kT).1, (BA.out.on kT).1⟩; have ht := Lib.hid ot.strs; clear ot)
    | (go_at_call 9; refine (eqPlan_same _ a0 b0 _ _ n0 _ _ S0 (HXP.out.on (by exact sstep kT (by go_grown))) (ht.out.on (by go_grown)) hn).mono ?_; rintro e w10 ⟨rfl, kq⟩; have k10 : Below w9.heap.size w9 w10 := (by exact sstep (sstep kT (by go_grown)) kq); have s2 : (w10.cell? ⟨w5.heap.size, 0, none⟩ = some (.int .i64 a0) ∧ w10.cell? ⟨w5.heap.size, 1, none⟩ = some (.int .i64 b0) ∧ w10.cell? ⟨w5.heap.size, 2, none⟩ = some (.slice (some ⟨p_p0, 0, none⟩) n0 n0)) ∧ (w10.cell? ⟨w.heap.size, 0, none⟩ = some (.int .i64 a0) ∧ w10.cell? ⟨w.heap.size, 1, none⟩ = some (.int .i64 b0) ∧ w10.cell? ⟨w.heap.size, 2, none⟩ = some (.slice A0 n0 k0)) := ⟨(BX.out.on k10).1, (BA.out.on k10).1⟩))
  clear kt kq kT ht s0 s1 s2
  clear d0BA d1BA d2BA g0BA g1BA g2BA ltBA
  clear d0Bw d1Bw d2Bw g0Bw g1Bw g2Bw ltBw
  clear d0BX d1BX d2BX g0BX g1BX g2BX ltBX
  clear d0Bg d1Bg d2Bg g0Bg g1Bg g2Bg ltBg
  all_goals
    have z10 := k10.size
    replace BL := Lib.hid (step BL.out k10)
    replace BA := Lib.hid (BA.out.on k10)
    replace rw := Lib.hid (rw.out.on k10)
    replace Bw := Lib.hid (Bw.out.on k10)
    replace p0 := Lib.hid (p0.out.on k10)
    replace BX := Lib.hid (BX.out.on k10)
    replace rg := Lib.hid (rg.out.on k10)
    replace Bg := Lib.hid (Bg.out.on k10)
    clear k10 HSC HXP
    obtain ⟨⟨d0BA, d1BA, d2BA⟩, g0BA, g1BA, g2BA⟩ := BA.out
    have ltBA := BA.out.lt
    obtain ⟨⟨d0Bw, d1Bw, d2Bw⟩, g0Bw, g1Bw, g2Bw⟩ := Bw.out
    have ltBw := Bw.out.lt
    obtain ⟨⟨d0BX, d1BX, d2BX⟩, g0BX, g1BX, g2BX⟩ := BX.out
    have ltBX := BX.out.lt
    obtain ⟨⟨d0Bg, d1Bg, d2Bg⟩, g0Bg, g1Bg, g2Bg⟩ := Bg.out
    have ltBg := Bg.out.lt
    go_wp2_with fail
    refine (markPlan_row _ _ _ _ _ _ 1 p0.out hls (by omega) (by omega)).mono ?_
    rw [MP.out]
    rintro e w11 ⟨rfl, o11⟩
    clear d0BA d1BA d2BA g0BA g1BA g2BA ltBA
    clear d0Bw d1Bw d2Bw g0Bw g1Bw g2Bw ltBw
    clear d0BX d1BX d2BX g0BX g1BX g2BX ltBX
    clear d0Bg d1Bg d2Bg g0Bg g1Bg g2Bg ltBg
    have z11 := o11.size
    replace BL := Lib.hid (BL.out.trans (o11.below (B := w.heap.size) (fun k hk _ hs => by have := (lo_p0.out k hs).1; omega) (by omega)))
    replace BA := Lib.hid (triOnly BA.out o11 (fun hs => by have h1 := lo_BA.out _ rfl; have h2 := lo_p0.out _ hs; omega))
    replace rw := Lib.hid (rw.out.only o11 (fun k hk hs => by have h1 := lo_rw.out k hk; have h2 := lo_p0.out k hs; omega))
    replace Bw := Lib.hid (triOnly Bw.out o11 (fun hs => by have h1 := lo_Bw.out _ rfl; have h2 := lo_p0.out _ hs; omega))
    replace BX := Lib.hid (triOnly BX.out o11 (fun hs => by have h1 := lo_BX.out _ rfl; have h2 := lo_p0.out _ hs; omega))
    replace rg := Lib.hid (rg.out.only o11 (fun k hk hs => by have h1 := lo_rg.out k hk; have h2 := lo_p0.out k hs; omega))
    replace Bg := Lib.hid (triOnly Bg.out o11 (fun hs => by have h1 := lo_Bg.out _ rfl; have h2 := lo_p0.out _ hs; omega))
    clear p0 lo_p0 o11
    obtain ⟨⟨d0BA, d1BA, d2BA⟩, g0BA, g1BA, g2BA⟩ := BA.out
    have ltBA := BA.out.lt
    obtain ⟨⟨d0Bw, d1Bw, d2Bw⟩, g0Bw, g1Bw, g2Bw⟩ := Bw.out
    have ltBw := Bw.out.lt
    obtain ⟨⟨d0BX, d1BX, d2BX⟩, g0BX, g1BX, g2BX⟩ := BX.out
    have ltBX := BX.out.lt
    obtain ⟨⟨d0Bg, d1Bg, d2Bg⟩, g0Bg, g1Bg, g2Bg⟩ := Bg.out
    have ltBg := Bg.out.lt
    go_wp2_with fail
    refine (eqPlan_row _ _ _ bb pp _ _ _ rg.out rw.out hll).mono ?_
    rintro e w12 ⟨rfl, k12⟩
    clear d0BA d1BA d2BA g0BA g1BA g2BA ltBA
    clear d0Bw d1Bw d2Bw g0Bw g1Bw g2Bw ltBw
    clear d0BX d1BX d2BX g0BX g1BX g2BX ltBX
    clear d0Bg d1Bg d2Bg g0Bg g1Bg g2Bg ltBg
    have z12 := k12.size
    replace BL := Lib.hid (step BL.out k12)
    replace BA := Lib.hid (BA.out.on k12)
    replace rw := Lib.hid (rw.out.on k12)
    replace Bw := Lib.hid (Bw.out.on k12)
    replace BX := Lib.hid (BX.out.on k12)
    replace rg := Lib.hid (rg.out.on k12)
    replace Bg := Lib.hid (Bg.out.on k12)
    clear k12
    obtain ⟨⟨d0BA, d1BA, d2BA⟩, g0BA, g1BA, g2BA⟩ := BA.out
    have ltBA := BA.out.lt
    obtain ⟨⟨d0Bw, d1Bw, d2Bw⟩, g0Bw, g1Bw, g2Bw⟩ := Bw.out
    have ltBw := Bw.out.lt
    obtain ⟨⟨d0BX, d1BX, d2BX⟩, g0BX, g1BX, g2BX⟩ := BX.out
    have ltBX := BX.out.lt
    obtain ⟨⟨d0Bg, d1Bg, d2Bg⟩, g0Bg, g1Bg, g2Bg⟩ := Bg.out
    have ltBg := Bg.out.lt
    go_wp2_with fail
    refine (markPlan_full _ _ bb pp _ _ 1 rg.out hll (by omega) (by omega)).mono ?_
    rw [MT.out]
    rintro e w13 ⟨rfl, r13, o13⟩
    clear d0BA d1BA d2BA g0BA g1BA g2BA ltBA
    clear d0Bw d1Bw d2Bw g0Bw g1Bw g2Bw ltBw
    clear d0BX d1BX d2BX g0BX g1BX g2BX ltBX
    clear d0Bg d1Bg d2Bg g0Bg g1Bg g2Bg ltBg
    have z13 := o13.size
    replace BL := Lib.hid (BL.out.trans (o13.below (B := w.heap.size) (fun k hk _ hs => by have := (lo_rg.out k hs).1; omega) (by omega)))
    replace BA := Lib.hid (triOnly BA.out o13 (fun hs => by have h1 := lo_BA.out _ rfl; have h2 := lo_rg.out _ hs; omega))
    replace rw := Lib.hid (rw.out.only o13 (fun k hk hs => by have h1 := lo_rw.out k hk; have h2 := lo_rg.out k hs; omega))
    replace Bw := Lib.hid (triOnly Bw.out o13 (fun hs => by have h1 := lo_Bw.out _ rfl; have h2 := lo_rg.out _ hs; omega))
    replace BX := Lib.hid (triOnly BX.out o13 (fun hs => by have h1 := lo_BX.out _ rfl; have h2 := lo_rg.out _ hs; omega))
    replace Bg := Lib.hid (triOnly Bg.out o13 (fun hs => by have h1 := lo_Bg.out _ rfl; have h2 := lo_rg.out _ hs; omega))
    replace rg := Lib.hid r13
    clear r13 o13
    obtain ⟨⟨d0BA, d1BA, d2BA⟩, g0BA, g1BA, g2BA⟩ := BA.out
    have ltBA := BA.out.lt
    obtain ⟨⟨d0Bw, d1Bw, d2Bw⟩, g0Bw, g1Bw, g2Bw⟩ := Bw.out
    have ltBw := Bw.out.lt
    obtain ⟨⟨d0BX, d1BX, d2BX⟩, g0BX, g1BX, g2BX⟩ := BX.out
    have ltBX := BX.out.lt
    obtain ⟨⟨d0Bg, d1Bg, d2Bg⟩, g0Bg, g1Bg, g2Bg⟩ := Bg.out
    have ltBg := Bg.out.lt
    go_wp2_with fail
    refine (heldPlan_row _ _ bb pp _ 1 LL.length rg.out hll (by omega) (by omega)).mono ?_
    rw [MT.out]
    rintro e w14 ⟨rfl, k14⟩
    clear d0BA d1BA d2BA g0BA g1BA g2BA ltBA
    clear d0Bw d1Bw d2Bw g0Bw g1Bw g2Bw ltBw
    clear d0BX d1BX d2BX g0BX g1BX g2BX ltBX
    clear d0Bg d1Bg d2Bg g0Bg g1Bg g2Bg ltBg
    have z14 := k14.size
    replace BL := Lib.hid (step BL.out k14)
    replace BA := Lib.hid (BA.out.on k14)
    replace rw := Lib.hid (rw.out.on k14)
    replace Bw := Lib.hid (Bw.out.on k14)
    replace BX := Lib.hid (BX.out.on k14)
    replace rg := Lib.hid (rg.out.on k14)
    replace Bg := Lib.hid (Bg.out.on k14)
    clear k14
    obtain ⟨⟨d0BA, d1BA, d2BA⟩, g0BA, g1BA, g2BA⟩ := BA.out
    have ltBA := BA.out.lt
    obtain ⟨⟨d0Bw, d1Bw, d2Bw⟩, g0Bw, g1Bw, g2Bw⟩ := Bw.out
    have ltBw := Bw.out.lt
    obtain ⟨⟨d0BX, d1BX, d2BX⟩, g0BX, g1BX, g2BX⟩ := BX.out
    have ltBX := BX.out.lt
    obtain ⟨⟨d0Bg, d1Bg, d2Bg⟩, g0Bg, g1Bg, g2Bg⟩ := Bg.out
    have ltBg := Bg.out.lt
    go_wp2_with fail
    refine (toPlan_any _ a0 b0 A0 n0 k0 S0 (HS.out.on BL.out) hn).mono ?_
    rintro e w15 ⟨p_ph, rfl, _, q_ph, k15⟩
    clear d0BA d1BA d2BA g0BA g1BA g2BA ltBA
    clear d0Bw d1Bw d2Bw g0Bw g1Bw g2Bw ltBw
    clear d0BX d1BX d2BX g0BX g1BX g2BX ltBX
    clear d0Bg d1Bg d2Bg g0Bg g1Bg g2Bg ltBg
    have z15 := k15.size
    replace BL := Lib.hid (step BL.out k15)
    replace BA := Lib.hid (BA.out.on k15)
    replace rw := Lib.hid (rw.out.on k15)
    replace Bw := Lib.hid (Bw.out.on k15)
    replace BX := Lib.hid (BX.out.on k15)
    replace rg := Lib.hid (rg.out.on k15)
    replace Bg := Lib.hid (Bg.out.on k15)
    have ph := Lib.hid q_ph
    have lo_ph : Hid (∀ k, ((Value.slice (some ⟨p_ph, 0, none⟩) n0 n0).ownBlock = some k) → w14.heap.size ≤ k ∧ k < w15.heap.size) := fun k hk => ph.out.lt k hk
    clear k15
    obtain ⟨⟨d0BA, d1BA, d2BA⟩, g0BA, g1BA, g2BA⟩ := BA.out
    have ltBA := BA.out.lt
    obtain ⟨⟨d0Bw, d1Bw, d2Bw⟩, g0Bw, g1Bw, g2Bw⟩ := Bw.out
    have ltBw := Bw.out.lt
    obtain ⟨⟨d0BX, d1BX, d2BX⟩, g0BX, g1BX, g2BX⟩ := BX.out
    have ltBX := BX.out.lt
    obtain ⟨⟨d0Bg, d1Bg, d2Bg⟩, g0Bg, g1Bg, g2Bg⟩ := Bg.out
    have ltBg := Bg.out.lt
    go_wp2_with fail
    refine (CI.out _ _ _ ph.out.strs).mono ?_
    rintro e w16 ⟨a_h, c_h, rfl, q_h, k16⟩
    clear d0BA d1BA d2BA g0BA g1BA g2BA ltBA
    clear d0Bw d1Bw d2Bw g0Bw g1Bw g2Bw ltBw
    clear d0BX d1BX d2BX g0BX g1BX g2BX ltBX
    clear d0Bg d1Bg d2Bg g0Bg g1Bg g2Bg ltBg
    have z16 := k16.size
    replace BL := Lib.hid (step BL.out k16)
    replace BA := Lib.hid (BA.out.on k16)
    replace rw := Lib.hid (rw.out.on k16)
    replace Bw := Lib.hid (Bw.out.on k16)
    replace BX := Lib.hid (BX.out.on k16)
    replace rg := Lib.hid (rg.out.on k16)
    replace Bg := Lib.hid (Bg.out.on k16)
    replace ph := Lib.hid (ph.out.on k16)
    have rh := Lib.hid q_h
    have lo_rh : Hid (∀ k, ((Value.slice a_h LL.length c_h).ownBlock = some k) → w15.heap.size ≤ k ∧ k < w16.heap.size) := fun k hk => rh.out.lt k hk
    clear k16
    obtain ⟨⟨d0BA, d1BA, d2BA⟩, g0BA, g1BA, g2BA⟩ := BA.out
    have ltBA := BA.out.lt
    obtain ⟨⟨d0Bw, d1Bw, d2Bw⟩, g0Bw, g1Bw, g2Bw⟩ := Bw.out
    have ltBw := Bw.out.lt
    obtain ⟨⟨d0BX, d1BX, d2BX⟩, g0BX, g1BX, g2BX⟩ := BX.out
    have ltBX := BX.out.lt
    obtain ⟨⟨d0Bg, d1Bg, d2Bg⟩, g0Bg, g1Bg, g2Bg⟩ := Bg.out
    have ltBg := Bg.out.lt
    obtain ⟨w17, hw17⟩ : ∃ w17, w16.alloc (.cells #[.int .i64 bb, .int .i64 pp, .slice a_h LL.length c_h] 26) = w17 := ⟨_, rfl⟩
    have k17 : Below w16.heap.size w16 w17 := hw17 ▸ below_alloc0 w16 (.cells #[.int .i64 bb, .int .i64 pp, .slice a_h LL.length c_h] 26)
    have z17 := k17.size
    replace BL := Lib.hid (step BL.out k17)
    replace BA := Lib.hid (BA.out.on k17)
    replace rw := Lib.hid (rw.out.on k17)
    replace Bw := Lib.hid (Bw.out.on k17)
    replace BX := Lib.hid (BX.out.on k17)
    replace rg := Lib.hid (rg.out.on k17)
    replace Bg := Lib.hid (Bg.out.on k17)
    replace ph := Lib.hid (ph.out.on k17)
    replace rh := Lib.hid (rh.out.on k17)
    have Bh : Hid (Tri w17 w16.heap.size (.int .i64 bb) (.int .i64 pp) (.slice a_h LL.length c_h)) := hw17 ▸ tri_made w16 (.int .i64 bb) (.int .i64 pp) (.slice a_h LL.length c_h) 26
    have lo_Bh : Hid (∀ k, k = w16.heap.size → w16.heap.size ≤ k ∧ k < w17.heap.size) := fun k hk => ⟨by omega, by have := Bh.out.lt; omega⟩
    have HW17 := Lib.hid hw17
    clear hw17 k17
    go_wp2_with fail
    rw [HW17.out]
    clear d0BA d1BA d2BA g0BA g1BA g2BA ltBA
    clear d0Bw d1Bw d2Bw g0Bw g1Bw g2Bw ltBw
    clear d0BX d1BX d2BX g0BX g1BX g2BX ltBX
    clear d0Bg d1Bg d2Bg g0Bg g1Bg g2Bg ltBg
    clear ph lo_ph
    obtain ⟨⟨d0BA, d1BA, d2BA⟩, g0BA, g1BA, g2BA⟩ := BA.out
    have ltBA := BA.out.lt
    obtain ⟨⟨d0Bw, d1Bw, d2Bw⟩, g0Bw, g1Bw, g2Bw⟩ := Bw.out
    have ltBw := Bw.out.lt
    obtain ⟨⟨d0BX, d1BX, d2BX⟩, g0BX, g1BX, g2BX⟩ := BX.out
    have ltBX := BX.out.lt
    obtain ⟨⟨d0Bg, d1Bg, d2Bg⟩, g0Bg, g1Bg, g2Bg⟩ := Bg.out
    have ltBg := Bg.out.lt
    obtain ⟨⟨d0Bh, d1Bh, d2Bh⟩, g0Bh, g1Bh, g2Bh⟩ := Bh.out
    have ltBh := Bh.out.lt
    go_wp2_with fail
    refine (eqPlan_row _ _ _ bb pp _ _ _ rh.out rw.out hll).mono ?_
    rintro e w18 ⟨rfl, k18⟩
    clear d0BA d1BA d2BA g0BA g1BA g2BA ltBA
    clear d0Bw d1Bw d2Bw g0Bw g1Bw g2Bw ltBw
    clear d0BX d1BX d2BX g0BX g1BX g2BX ltBX
    clear d0Bg d1Bg d2Bg g0Bg g1Bg g2Bg ltBg
    clear d0Bh d1Bh d2Bh g0Bh g1Bh g2Bh ltBh
    have z18 := k18.size
    replace BL := Lib.hid (step BL.out k18)
    replace BA := Lib.hid (BA.out.on k18)
    replace rw := Lib.hid (rw.out.on k18)
    replace Bw := Lib.hid (Bw.out.on k18)
    replace BX := Lib.hid (BX.out.on k18)
    replace rg := Lib.hid (rg.out.on k18)
    replace Bg := Lib.hid (Bg.out.on k18)
    replace rh := Lib.hid (rh.out.on k18)
    replace Bh := Lib.hid (Bh.out.on k18)
    clear k18
    obtain ⟨⟨d0BA, d1BA, d2BA⟩, g0BA, g1BA, g2BA⟩ := BA.out
    have ltBA := BA.out.lt
    obtain ⟨⟨d0Bw, d1Bw, d2Bw⟩, g0Bw, g1Bw, g2Bw⟩ := Bw.out
    have ltBw := Bw.out.lt
    obtain ⟨⟨d0BX, d1BX, d2BX⟩, g0BX, g1BX, g2BX⟩ := BX.out
    have ltBX := BX.out.lt
    obtain ⟨⟨d0Bg, d1Bg, d2Bg⟩, g0Bg, g1Bg, g2Bg⟩ := Bg.out
    have ltBg := Bg.out.lt
    obtain ⟨⟨d0Bh, d1Bh, d2Bh⟩, g0Bh, g1Bh, g2Bh⟩ := Bh.out
    have ltBh := Bh.out.lt
    go_wp2_with fail
    refine (heldPlan_row _ _ bb pp _ 1 LL.length rg.out hll (by omega) (by omega)).mono ?_
    rw [MT.out]
    rintro e w19 ⟨rfl, k19⟩
    clear d0BA d1BA d2BA g0BA g1BA g2BA ltBA
    clear d0Bw d1Bw d2Bw g0Bw g1Bw g2Bw ltBw
    clear d0BX d1BX d2BX g0BX g1BX g2BX ltBX
    clear d0Bg d1Bg d2Bg g0Bg g1Bg g2Bg ltBg
    clear d0Bh d1Bh d2Bh g0Bh g1Bh g2Bh ltBh
    have z19 := k19.size
    replace BL := Lib.hid (step BL.out k19)
    replace BA := Lib.hid (BA.out.on k19)
    replace rw := Lib.hid (rw.out.on k19)
    replace Bw := Lib.hid (Bw.out.on k19)
    replace BX := Lib.hid (BX.out.on k19)
    replace rg := Lib.hid (rg.out.on k19)
    replace Bg := Lib.hid (Bg.out.on k19)
    replace rh := Lib.hid (rh.out.on k19)
    replace Bh := Lib.hid (Bh.out.on k19)
    clear k19
    go_wp2
    go_ret
    exact ⟨rfl, BL.out⟩

set_option maxRecDepth 100000 in
theorem lifted (os : Os) (started : os.Started) (H : Type) (enc : TypeId × Value → H) :
    ReturnsInHanded {} Try.checked os 3 .any (Rows.fnExactTurnPlanSpec.pre6 enc Try.prog Try.f3 Rows.fnExactTurnPlanRow.domain false) (Rows.fnExactTurnPlanSpec.post enc Try.prog Try.f3 false true false false) := by
  refine returnsInHanded_of_change (C := Try.checked) own started (by kernel_rfl) Try.func3
    (ChangeSpec.witness6 (enc := enc) (C := Try.checked) false ⟨#[], #[.agg #[.int .i64 0, .int .i64 0, .slice none 0 0]], []⟩ 8 (by kernel_rfl) (by kernel_rfl) (by kernel_rfl) (by kernel_rfl)) ?_
  intro W base args ds gs before hval0 hW hcnd _
  have hval : ∀ (j : Nat) t v, Try.f3.params[j]? = some t → args[j]? = some v → Value.okWide Try.prog W .any base t v := hval0
  have hW' := hW
  obtain ⟨p, q, hA0, hV, rfl, hfz, hnd⟩ := hW
  have hA : DataW.TrodAll enc Try.prog W 0 (fun _ => true) true Try.f3.params.toList args.toList ds p := hA0
  rw [Try.params3] at hA hval
  obtain ⟨v0, vs0, d0, ds0, p0, q0, hargs, rfl, rfl, h0, r0⟩ := trodAll_cons hA
  obtain ⟨rfl, rfl, rfl⟩ := trodAll_nil r0
  obtain rfl : args = #[v0] := by cases args; simp_all
  obtain ⟨rfl, rfl⟩ := trodVars_none hV
  have g0 := h0
  have lt0 : ∀ x ∈ p0, x.block < W.heap.size := by obtain ⟨m, hm⟩ := g0; exact DataW.trod_lt m _ _ _ hm
  obtain ⟨u0, t0, s0, m00, m10, m20, j0, rfl, _, _, q00, q10, q20⟩ := open_agg3 Try.underlying24 (by kernel_rfl) (by kernel_rfl) (hval 0 24 v0 rfl rfl) h0
  obtain ⟨a0, ea0, _, x0⟩ := DataW.trod_int Try.underlying3 q00
  obtain ⟨b0, eb0, _, y0⟩ := DataW.trod_int Try.underlying3 q10
  obtain rfl := List.singleton_inj.1 ea0
  obtain rfl := List.singleton_inj.1 eb0
  obtain ⟨A0, n0, k0, S0, rfl, w0, f0, z0⟩ := open_strs q20
  clear hA0 hval0
  refine (walk W a0 b0 A0 n0 k0 S0 w0 f0 z0 x0 y0).mono fun e W' ⟨he, bel⟩ => ?_
  subst he
  exact ⟨_, rfl, _, _, _, [], _, [], hW', trodAll_mk1 (shut_bool Try.underlying4 _), (trodAll_cons_mk (Below.trod laidOut (by kernel_rfl) (of_decide_eq_true (by kernel_rfl)) g0 bel lt0) trodAll_mk0), rfl, bel.frame _, fun h => by cases h⟩

theorem proved : Rows.FnExactTurnPlanSaid :=
  OpenClaim.holds_of_wide 3 Try.f3 rfl rfl rfl rfl rfl rfl rfl ⟨rfl, rfl, rfl, rfl, rfl⟩ rfl rfl rfl rfl rfl (by kernel_rfl) Try.func3 (by kernel_rfl)
    (of_decide_eq_true (by kernel_rfl)) (by unfold Func.isWrapper; first | (rw [if_pos (by decide +kernel)]; kernel_rfl) | (rw [if_neg (by decide +kernel)]; exact ⟨rfl, rfl⟩))
    (fun os started H enc _ => lifted os started H enc)
#print axioms proved
end Go.Proofs.Ytnfmpnkdnndmkaa.fnExactTurnPlan
