/-
  For every plan, laws.FnExactFormatPlan returns true: the program's FormatPlan answers as the model of the document does. No condition.
-/
import Derived.Test.YtgcldnijannmgaaDoorCards
import Derived.Test.YtgcldnijannmgaaDoorPlnText
import Derived.Test.YtgcldnijannmgaaDoorShaped
import Derived.Lay
import Derived.Test.YtgcldnijannmgaaDoorLaidIP
import Derived.Test.YtgcldnijannmgaaDoorVars
import Derived.Test.YtgcldnijannmgaaDoorTie
import Derived.LaidMore
import Derived.Stop.Joined
import Derived.SevenTiedAt
import Derived.WalkKit
import Derived.ProofKit
import Derived.OpenShut
import Derived.ShutString
import Derived.ChangeOld
import Derived.Below
import Derived.Handy
import Derived.Lib.Hide
import Derived.Lib.SmallJoins
import Derived.Test.YtgcldnijannmgaaDoorStrOpen
namespace Go.Proofs.YtgcldnijannmgaaDoor.fnExactFormatPlan
open Go.ChangeShapes Go.WideShapes Go.ChangeAt Go.RowKit
open Go.ChangeMaps (open_string shut_string)
open Go.PlainAid (bt get_bt bt_nonneg bt_le)
open Go.Joins
set_option linter.unusedVariables false

theorem own : ownKnob Tryd.prog.godebug = none := by kernel_rfl
theorem laidOut : laidOutB Tryd.prog = true := by kernel_rfl

set_option maxHeartbeats 2000000 in
set_option maxRecDepth 100000 in
theorem walk (w : World) (a0 b0 : Int) (A0 : Option Addr) (n0 k0 : Nat) (S0 : Nat → ByteArray) (w0 : Strs w A0 n0 S0) (f0 : SFits n0 S0) (z0 : n0 ≤ maxLen) (x0 : (Lit.int .i64 a0).wf = true) (y0 : (Lit.int .i64 b0).wf = true) (hL : Laid.pows w) :
    Calls Tryd.prog 5 #[.agg #[.int .i64 a0, .int .i64 b0, .slice A0 n0 k0]] w fun e w' => e = .returned (.bool true) ∧ Below w.heap.size w w' := by
  have HS := Lib.hid w0
  have HF := Lib.hid f0
  clear w0
  have HP := Lib.hid hL
  clear hL
  obtain ⟨tv, hv⟩ : ∃ tv, M.planText a0 b0 n0 S0 = tv := ⟨_, rfl⟩
  have HV := Lib.hid hv
  clear hv
  go_enter Tryd.func5, Tryd.ntmps5
  have BL := Lib.hid (below_alloc0 w (.cells #[.int .i64 a0, .int .i64 b0, .slice A0 n0 k0] 35))
  replace HS := Lib.hid (HS.out.on (below_alloc0 w (.cells #[.int .i64 a0, .int .i64 b0, .slice A0 n0 k0] 35)))
  have BA := Lib.hid (tri_made w (.int .i64 a0) (.int .i64 b0) (.slice A0 n0 k0) 35)
  obtain ⟨⟨d0BA, d1BA, d2BA⟩, g0BA, g1BA, g2BA⟩ := BA.out
  have ltBA := BA.out.lt
  go_wp2_with fail
  refine (szPlan_any _ a0 b0 A0 n0 k0 S0 HS.out HF.out z0 _ (by omega) (by omega)).mono ?_
  rintro e w1 ⟨r, rfl, hr, hr1, k1⟩
  clear d0BA d1BA d2BA g0BA g1BA g2BA ltBA
  replace BL := Lib.hid (sstep BL.out k1)
  replace HS := Lib.hid (HS.out.on k1)
  replace BA := Lib.hid (BA.out.on k1)
  clear k1
  obtain ⟨⟨d0BA, d1BA, d2BA⟩, g0BA, g1BA, g2BA⟩ := BA.out
  have ltBA := BA.out.lt
  by_cases hneg : r < 0
  · go_wp2
    go_ret
    exact ⟨rfl, BL.out⟩
  have hn : n0 ≤ 1048576 := by omega
  clear hr hr1 z0
  go_wp2_with fail
  refine (toPlan_any _ a0 b0 A0 n0 k0 S0 HS.out hn).mono ?_
  rintro e w2 ⟨g2, rfl, _, o2, k2⟩
  clear d0BA d1BA d2BA g0BA g1BA g2BA ltBA
  replace BL := Lib.hid (sstep BL.out k2)
  replace HS := Lib.hid (HS.out.on k2)
  replace BA := Lib.hid (BA.out.on k2)
  clear k2
  obtain ⟨⟨d0BA, d1BA, d2BA⟩, g0BA, g1BA, g2BA⟩ := BA.out
  have ltBA := BA.out.lt
  have HO2 := Lib.hid o2.strs
  go_wp2_with fail
  refine (spec_FormatPlan _ a0 b0 _ n0 n0 S0 HO2.out HF.out hn).mono ?_
  rw [HV.out]
  rintro e w3 ⟨rfl, k3⟩
  clear d0BA d1BA d2BA g0BA g1BA g2BA ltBA
  replace BL := Lib.hid (sstep BL.out k3)
  replace HS := Lib.hid (HS.out.on k3)
  replace BA := Lib.hid (BA.out.on k3)
  clear k3
  obtain ⟨⟨d0BA, d1BA, d2BA⟩, g0BA, g1BA, g2BA⟩ := BA.out
  have ltBA := BA.out.lt
  go_wp2_with fail
  refine (toPlan_any _ a0 b0 A0 n0 k0 S0 HS.out hn).mono ?_
  rintro e w4 ⟨g4, rfl, _, o4, k4⟩
  clear d0BA d1BA d2BA g0BA g1BA g2BA ltBA
  replace BL := Lib.hid (sstep BL.out k4)
  replace HS := Lib.hid (HS.out.on k4)
  replace BA := Lib.hid (BA.out.on k4)
  clear k4
  obtain ⟨⟨d0BA, d1BA, d2BA⟩, g0BA, g1BA, g2BA⟩ := BA.out
  have ltBA := BA.out.lt
  have HX := Lib.hid o4.strs
  clear d0BA d1BA d2BA g0BA g1BA g2BA ltBA
  replace BL := Lib.hid (sstep BL.out (below_alloc0 w4 (.cells #[.int .i64 a0, .int .i64 b0, .slice (some ⟨g4, 0, none⟩) n0 n0] 38)))
  replace HS := Lib.hid (HS.out.on (below_alloc0 w4 (.cells #[.int .i64 a0, .int .i64 b0, .slice (some ⟨g4, 0, none⟩) n0 n0] 38)))
  replace BA := Lib.hid (BA.out.on (below_alloc0 w4 (.cells #[.int .i64 a0, .int .i64 b0, .slice (some ⟨g4, 0, none⟩) n0 n0] 38)))
  replace HX := Lib.hid (HX.out.on (below_alloc0 w4 (.cells #[.int .i64 a0, .int .i64 b0, .slice (some ⟨g4, 0, none⟩) n0 n0] 38)))
  have BX := Lib.hid (tri_made w4 (.int .i64 a0) (.int .i64 b0) (.slice (some ⟨g4, 0, none⟩) n0 n0) 38)
  obtain ⟨⟨d0BA, d1BA, d2BA⟩, g0BA, g1BA, g2BA⟩ := BA.out
  have ltBA := BA.out.lt
  obtain ⟨⟨d0BX, d1BX, d2BX⟩, g0BX, g1BX, g2BX⟩ := BX.out
  have ltBX := BX.out.lt
  go_wp2_with fail
  refine (impl_FormatPlan _ a0 b0 _ n0 n0 S0 (PowT.below HP.out BL.out) HX.out HF.out hn).mono ?_
  rw [HV.out]
  rintro e w5 ⟨rfl, k5⟩
  clear d0BA d1BA d2BA g0BA g1BA g2BA ltBA
  clear d0BX d1BX d2BX g0BX g1BX g2BX ltBX
  replace BL := Lib.hid (sstep BL.out k5)
  replace HS := Lib.hid (HS.out.on k5)
  replace BA := Lib.hid (BA.out.on k5)
  replace HX := Lib.hid (HX.out.on k5)
  replace BX := Lib.hid (BX.out.on k5)
  clear k5
  obtain ⟨⟨d0BA, d1BA, d2BA⟩, g0BA, g1BA, g2BA⟩ := BA.out
  have ltBA := BA.out.lt
  obtain ⟨⟨d0BX, d1BX, d2BX⟩, g0BX, g1BX, g2BX⟩ := BX.out
  have ltBX := BX.out.lt
  go_wp2
  go_region_with (first
    | (go_at_call 19; refine (toPlan_any _ a0 b0 A0 n0 k0 S0 (HS.out.on (by go_grown)) hn).mono ?_; rintro e wt ⟨gt, rfl, _, ot, kt⟩; have kT : Below w5.heap.size w5 wt := (by first | exact kt | exact sstep (by go_grown) kt); obtain ⟨⟨e0, e1, e2⟩, _⟩ := BX.out.on kT; have ht := Lib.hid ot.strs; replace ot := Lib.hid ot)
    | (go_at_call 21; refine (eqPlan_same _ a0 b0 _ _ n0 _ _ S0 (HX.out.on (by go_grown)) (ht.out.on (by go_grown)) hn).mono ?_; rintro e wq ⟨rfl, kq⟩; have kQ : Below w5.heap.size w5 wq := (by first | exact sstep kT kq | exact sstep kT.drew kq)))
  all_goals
    go_wp2
    go_ret
    exact ⟨rfl, sstep BL.out (by go_grown)⟩

set_option maxRecDepth 100000 in
theorem lifted (os : Os) (started : os.Started) (H : Type) (enc : TypeId × Value → H) :
    ReturnsInHanded {} Tryd.checked os 5 .any (fun w args => (Rows.fnExactFormatPlanSpec.pre enc Tryd.prog Tryd.f5 [] false w args ∧ laidMetH Tryd.prog Rows.fnExactFormatPlanRow.laid w) ∧ sizedMet enc Tryd.prog Tryd.f5 (OpenSpec.ofChange Rows.fnExactFormatPlanSpec) false w args)
      (Rows.fnExactFormatPlanSpec.post enc Tryd.prog Tryd.f5 false true false false) := by
  refine returns_listed (C := Tryd.checked) (X := fun w _ => laidMetH Tryd.prog Rows.fnExactFormatPlanRow.laid w) (fun _ _ _ hh h => h.of_heap hh) own started (by kernel_rfl) Tryd.func5
    (ChangeSpec.witness_shaped (enc := enc) (C := Tryd.checked) (os := os) (X := fun w _ => laidMetH Tryd.prog Rows.fnExactFormatPlanRow.laid w) false (World.laidAll Tryd.prog os Rows.fnExactFormatPlanRow.laid) #[.agg #[.int .i64 0, .int .i64 0, .slice none 0 0]] 8 (World.laidAll_os _ _ _) (World.shaped_of_ZipB (by kernel_rfl) (by kernel_rfl)) (by kernel_rfl) (by kernel_rfl) (by kernel_rfl) (Laid.door_pows os _)) ?_
  intro W base args ds gs before hval0 hW hL hsh
  have hval : ∀ (j : Nat) t v, Tryd.f5.params[j]? = some t → args[j]? = some v → Value.okWide Tryd.prog W .any base t v := hval0
  have hW' := hW
  obtain ⟨p, q, hA0, hV, rfl, hfz, hnd⟩ := hW
  have hA : DataW.TrodAll enc Tryd.prog W 0 (fun _ => true) true Tryd.f5.params.toList args.toList ds p := hA0
  rw [Tryd.params5] at hA hval
  obtain ⟨v0, vs0, d0, ds0, p0, q0, hargs, rfl, rfl, h0, r0⟩ := trodAll_cons hA
  obtain ⟨rfl, rfl, rfl⟩ := trodAll_nil r0
  obtain rfl : args = #[v0] := by cases args; simp_all
  obtain ⟨rfl, rfl⟩ := trodVars_none hV
  have g0 := h0
  have lt0 : ∀ x ∈ p0, x.block < W.heap.size := by obtain ⟨m, hm⟩ := g0; exact DataW.trod_lt m _ _ _ hm
  obtain ⟨u0, t0, s0, m00, m10, m20, j0, rfl, _, _, q00, q10, q20⟩ := open_agg3 Tryd.underlying35 (by kernel_rfl) (by kernel_rfl) (hval 0 35 v0 rfl rfl) h0
  obtain ⟨a0, ea0, _, x0⟩ := DataW.trod_int Tryd.underlying3 q00
  obtain ⟨b0, eb0, _, y0⟩ := DataW.trod_int Tryd.underlying3 q10
  obtain rfl := List.singleton_inj.1 ea0
  obtain rfl := List.singleton_inj.1 eb0
  obtain ⟨A0, n0, k0, S0, rfl, w0, f0, z0⟩ := open_strs q20
  clear hA0 hval0
  refine (walk W a0 b0 A0 n0 k0 S0 w0 f0 z0 x0 y0 (Laid.of_pows hL hsh)).mono fun e W' ⟨he, bel⟩ => ?_
  subst he
  exact ⟨_, rfl, _, _, _, [], _, [], hW', trodAll_mk1 (shut_bool Tryd.underlying4 _), (trodAll_cons_mk (Below.trod laidOut (by kernel_rfl) (of_decide_eq_true (by kernel_rfl)) g0 bel lt0) trodAll_mk0), rfl, bel.frame _, fun h => by cases h⟩

theorem row_holds : Rows.FnExactFormatPlanSaid :=
  OpenClaim.holds_of_wide 5 Tryd.f5 rfl rfl rfl rfl rfl rfl rfl ⟨rfl, rfl, rfl, rfl, rfl⟩ rfl rfl rfl rfl rfl (by kernel_rfl) Tryd.func5 (by kernel_rfl)
    (of_decide_eq_true (by kernel_rfl)) (by unfold Func.isWrapper; first | (rw [if_pos (by decide +kernel)]; kernel_rfl) | (rw [if_neg (by decide +kernel)]; exact ⟨rfl, rfl⟩))
    (fun os started H enc _ => lifted os started H enc)

theorem proved : Rows.FnExactFormatPlanCardSaid :=
  Claim7.holds_tied_plain_at .later [] [.data, .data, .data] true Rows.fnExactFormatPlanCard.stood.harness true
    row_holds (fun _ h => by cases h) (by kernel_rfl) (fun _ h => by cases h) fnExactFormatPlan_row_tie rfl ⟨rfl, rfl⟩ (by kernel_rfl) rfl
    (fun f fn hf hfn => by
      obtain rfl : f = 5 := Option.some.inj ((show Tryd.prog.funcNamed Rows.fnExactFormatPlanRow.func = some 5 by kernel_rfl).symm.trans hf) |>.symm
      obtain rfl : fn = Tryd.f5 := (Option.some.inj (Tryd.func5.symm.trans hfn)).symm
      exact ⟨by kernel_rfl, fun j t ht => by
        rw [Tryd.params5] at ht
        have hm : t ∈ [35] := by simpa using Array.mem_of_getElem? ht
        have hall : ([35].all fun u => !Tryd.prog.wantsStandIn u) = true := by kernel_rfl
        exact (show Tryd.prog.wantsStandIn t = false by simpa using List.all_eq_true.1 hall t hm)⟩)
    (by kernel_rfl)
#print axioms proved
end Go.Proofs.YtgcldnijannmgaaDoor.fnExactFormatPlan
