/-
  For every string, laws.FnExactParsePlan returns true: the program's ParsePlan answers as the model of the document does, and its answer owns its memory. No condition.
-/
import Derived.Test.YtgcldnijannmgaaDoorCards
import Derived.Test.YtgcldnijannmgaaDoorPlnP
import Derived.Test.YtgcldnijannmgaaDoorPlnO
import Derived.Test.YtgcldnijannmgaaDoorShaped
import Derived.Lay
import Derived.Test.YtgcldnijannmgaaDoorLaidPP
import Derived.Test.YtgcldnijannmgaaDoorVars
import Derived.Test.YtgcldnijannmgaaDoorTie
import Derived.LaidMore
import Derived.Stop.Joined
import Derived.SevenTiedAt
import Derived.WalkKit
import Derived.ProofKit
import Derived.OpenShut
import Derived.ShutString
import Derived.ChangeOld
import Derived.Below
import Derived.Handy
import Derived.Lib.Hide
namespace Go.Proofs.YtgcldnijannmgaaDoor.fnExactParsePlan
open Go.ChangeShapes Go.WideShapes Go.ChangeAt Go.RowKit
open Go.ChangeMaps (open_string shut_string)
open Go.PlainAid (bt get_bt bt_nonneg bt_le)
set_option linter.unusedVariables false

theorem triOnly {w w' : World} {b : Nat} {x y z : Value} {S : Nat → Prop} (h : Tri w b x y z) (ho : Only w w' S) (hn : ¬ S b) : Tri w' b x y z := by
  have hlt := h.lt
  obtain ⟨⟨h0, h1, h2⟩, f0, f1, f2⟩ := h
  have hb := ho.block b hlt hn
  have k : ∀ i, w'.cell? ⟨b, i, none⟩ = w.cell? ⟨b, i, none⟩ := fun i => World.cell?_of_block hb
  have q : ∀ i, w'.frozen? ⟨b, i, none⟩ = w.frozen? ⟨b, i, none⟩ := fun i => World.frozen?_of_block hb
  exact ⟨⟨by rw [k]; exact h0, by rw [k]; exact h1, by rw [k]; exact h2⟩, by rw [q]; exact f0, by rw [q]; exact f1, by rw [q]; exact f2⟩
theorem strsOnly {w w' : World} {a : Option Addr} {n : Nat} {S : Nat → ByteArray} {T : Nat → Prop} (h : Strs w a n S) (ho : Only w w' T) (hn : ∀ b o, a = some ⟨b, o, none⟩ → 0 < n → ¬ T b) : Strs w' a n S := by
  intro i hi
  obtain ⟨b, o, e, h1⟩ := h i hi
  have hl := h.lt e (by omega)
  exact ⟨b, o, e, (World.cell?_of_block (ho.block b hl (hn b o e (by omega)))).trans h1⟩
theorem own : ownKnob Tryd.prog.godebug = none := by kernel_rfl
theorem laidOut : laidOutB Tryd.prog = true := by kernel_rfl

set_option maxHeartbeats 4000000 in
set_option maxRecDepth 100000 in
theorem walk (w : World) (a0 : ByteArray) (w0 : a0.size ≤ maxLen) (hL : Laid.nums w) :
    Calls Tryd.prog 6 #[.string a0] w fun e w' => e = .returned (.bool true) ∧ Below w.heap.size w w' := by
  have HP := Lib.hid hL.pow
  have HT := Lib.hid hL.max
  have HE := Lib.hid hL.err
  clear hL
  by_cases hl0 : 1048576 < a0.size
  · go_enter Tryd.func6, Tryd.ntmps6
    go_wp2
    go_ret
    exact ⟨rfl, Below.refl _ _⟩
  have ht : a0.size ≤ 1048576 := by omega
  obtain ⟨ok, bb, pp, LL, hI⟩ := planIs_ex a0
  have CS : Hid (∀ (W : World), Calls Tryd.prog 22 #[.string a0] W (planPOut W ok bb pp LL)) := fun W => spec_ParsePlan a0 W ht ok bb pp LL hI
  have CI : Hid (∀ (W : World), Below w.heap.size w W → Calls Tryd.prog 23 #[.string a0] W (planPOut W ok bb pp LL)) := fun W hb => impl_ParsePlan a0 W (PowT.below HP.out hb) (MaxL.below HT.out hb) (ErrT.below HE.out hb) ht ok bb pp LL hI
  have hll : LL.length ≤ 1048576 := by have := planIs_len hI; omega
  obtain ⟨mt, hmt⟩ : ∃ mt : Nat, 1 + LL.length = mt := ⟨_, rfl⟩
  have MT := Lib.hid hmt
  have mt1 : ¬ ((mt : Int) < 0) := by omega
  clear hI hmt w0
  go_enter Tryd.func6, Tryd.ntmps6
  have hb1 : Below w.heap.size w w := Below.refl _ _
  have BL := Lib.hid hb1
  have z1 := BL.out.size
  go_wp2_with fail
  refine (CS.out _).mono ?_
  rintro e w2 ⟨a_v, c_v, rfl, q_v, k2⟩
  have z2 := k2.size
  replace BL := Lib.hid (step BL.out k2)
  have rv := Lib.hid q_v
  have lo_rv : Hid (∀ k, ((Value.slice a_v LL.length c_v).ownBlock = some k) → w.heap.size ≤ k ∧ k < w2.heap.size) := fun k hk => rv.out.lt k hk
  clear k2
  obtain ⟨w3, hw3⟩ : ∃ w3, w2.alloc (.cells #[.int .i64 bb, .int .i64 pp, .slice a_v LL.length c_v] 38) = w3 := ⟨_, rfl⟩
  have k3 : Below w2.heap.size w2 w3 := hw3 ▸ below_alloc0 w2 (.cells #[.int .i64 bb, .int .i64 pp, .slice a_v LL.length c_v] 38)
  have z3 := k3.size
  replace BL := Lib.hid (step BL.out k3)
  replace rv := Lib.hid (rv.out.on k3)
  have Bv : Hid (Tri w3 w2.heap.size (.int .i64 bb) (.int .i64 pp) (.slice a_v LL.length c_v)) := hw3 ▸ tri_made w2 (.int .i64 bb) (.int .i64 pp) (.slice a_v LL.length c_v) 38
  have lo_Bv : Hid (∀ k, k = w2.heap.size → w2.heap.size ≤ k ∧ k < w3.heap.size) := fun k hk => ⟨by omega, by have := Bv.out.lt; omega⟩
  have HW3 := Lib.hid hw3
  clear hw3 k3
  go_wp2_with fail
  rw [HW3.out]
  obtain ⟨⟨d0Bv, d1Bv, d2Bv⟩, g0Bv, g1Bv, g2Bv⟩ := Bv.out
  have ltBv := Bv.out.lt
  go_wp2_with fail
  refine (CI.out _ BL.out).mono ?_
  rintro e w4 ⟨a_g, c_g, rfl, q_g, k4⟩
  clear d0Bv d1Bv d2Bv g0Bv g1Bv g2Bv ltBv
  have z4 := k4.size
  replace BL := Lib.hid (step BL.out k4)
  replace rv := Lib.hid (rv.out.on k4)
  replace Bv := Lib.hid (Bv.out.on k4)
  have rg := Lib.hid q_g
  have lo_rg : Hid (∀ k, ((Value.slice a_g LL.length c_g).ownBlock = some k) → w3.heap.size ≤ k ∧ k < w4.heap.size) := fun k hk => rg.out.lt k hk
  clear k4
  obtain ⟨⟨d0Bv, d1Bv, d2Bv⟩, g0Bv, g1Bv, g2Bv⟩ := Bv.out
  have ltBv := Bv.out.lt
  obtain ⟨w5, hw5⟩ : ∃ w5, w4.alloc (.cells #[.int .i64 bb, .int .i64 pp, .slice a_g LL.length c_g] 38) = w5 := ⟨_, rfl⟩
  have k5 : Below w4.heap.size w4 w5 := hw5 ▸ below_alloc0 w4 (.cells #[.int .i64 bb, .int .i64 pp, .slice a_g LL.length c_g] 38)
  have z5 := k5.size
  replace BL := Lib.hid (step BL.out k5)
  replace rv := Lib.hid (rv.out.on k5)
  replace Bv := Lib.hid (Bv.out.on k5)
  replace rg := Lib.hid (rg.out.on k5)
  have Bg : Hid (Tri w5 w4.heap.size (.int .i64 bb) (.int .i64 pp) (.slice a_g LL.length c_g)) := hw5 ▸ tri_made w4 (.int .i64 bb) (.int .i64 pp) (.slice a_g LL.length c_g) 38
  have lo_Bg : Hid (∀ k, k = w4.heap.size → w4.heap.size ≤ k ∧ k < w5.heap.size) := fun k hk => ⟨by omega, by have := Bg.out.lt; omega⟩
  have HW5 := Lib.hid hw5
  clear hw5 k5
  go_wp2_with fail
  rw [HW5.out]
  clear d0Bv d1Bv d2Bv g0Bv g1Bv g2Bv ltBv
  obtain ⟨⟨d0Bv, d1Bv, d2Bv⟩, g0Bv, g1Bv, g2Bv⟩ := Bv.out
  have ltBv := Bv.out.lt
  obtain ⟨⟨d0Bg, d1Bg, d2Bg⟩, g0Bg, g1Bg, g2Bg⟩ := Bg.out
  have ltBg := Bg.out.lt
  go_wp2_with fail
  refine (eqPlan_o _ _ _ bb pp _ _ _ rg.out rv.out hll).mono ?_
  rintro e w6 ⟨rfl, k6⟩
  clear d0Bv d1Bv d2Bv g0Bv g1Bv g2Bv ltBv
  clear d0Bg d1Bg d2Bg g0Bg g1Bg g2Bg ltBg
  have z6 := k6.size
  replace BL := Lib.hid (step BL.out k6)
  replace rv := Lib.hid (rv.out.on k6)
  replace Bv := Lib.hid (Bv.out.on k6)
  replace rg := Lib.hid (rg.out.on k6)
  replace Bg := Lib.hid (Bg.out.on k6)
  clear k6
  obtain ⟨⟨d0Bv, d1Bv, d2Bv⟩, g0Bv, g1Bv, g2Bv⟩ := Bv.out
  have ltBv := Bv.out.lt
  obtain ⟨⟨d0Bg, d1Bg, d2Bg⟩, g0Bg, g1Bg, g2Bg⟩ := Bg.out
  have ltBg := Bg.out.lt
  go_wp2_with fail
  refine (markPlan_o _ _ bb pp _ _ 1 rg.out hll (by omega) (by omega)).mono ?_
  rw [MT.out]
  rintro e w7 ⟨rfl, r7, o7⟩
  clear d0Bv d1Bv d2Bv g0Bv g1Bv g2Bv ltBv
  clear d0Bg d1Bg d2Bg g0Bg g1Bg g2Bg ltBg
  have z7 := o7.size
  replace BL := Lib.hid (BL.out.trans (o7.below (B := w.heap.size) (fun k hk _ hs => by have := (lo_rg.out k hs).1; omega) (by omega)))
  replace rv := Lib.hid (rv.out.only o7 (fun k hk hs => by have h1 := lo_rv.out k hk; have h2 := lo_rg.out k hs; omega))
  replace Bv := Lib.hid (triOnly Bv.out o7 (fun hs => by have h1 := lo_Bv.out _ rfl; have h2 := lo_rg.out _ hs; omega))
  replace Bg := Lib.hid (triOnly Bg.out o7 (fun hs => by have h1 := lo_Bg.out _ rfl; have h2 := lo_rg.out _ hs; omega))
  replace rg := Lib.hid r7
  clear r7 o7
  obtain ⟨⟨d0Bv, d1Bv, d2Bv⟩, g0Bv, g1Bv, g2Bv⟩ := Bv.out
  have ltBv := Bv.out.lt
  obtain ⟨⟨d0Bg, d1Bg, d2Bg⟩, g0Bg, g1Bg, g2Bg⟩ := Bg.out
  have ltBg := Bg.out.lt
  go_wp2_with fail
  refine (heldPlan_o _ _ bb pp _ 1 LL.length rg.out hll (by omega) (by omega)).mono ?_
  rw [MT.out]
  rintro e w8 ⟨rfl, k8⟩
  clear d0Bv d1Bv d2Bv g0Bv g1Bv g2Bv ltBv
  clear d0Bg d1Bg d2Bg g0Bg g1Bg g2Bg ltBg
  have z8 := k8.size
  replace BL := Lib.hid (step BL.out k8)
  replace rv := Lib.hid (rv.out.on k8)
  replace Bv := Lib.hid (Bv.out.on k8)
  replace rg := Lib.hid (rg.out.on k8)
  replace Bg := Lib.hid (Bg.out.on k8)
  clear k8
  obtain ⟨⟨d0Bv, d1Bv, d2Bv⟩, g0Bv, g1Bv, g2Bv⟩ := Bv.out
  have ltBv := Bv.out.lt
  obtain ⟨⟨d0Bg, d1Bg, d2Bg⟩, g0Bg, g1Bg, g2Bg⟩ := Bg.out
  have ltBg := Bg.out.lt
  go_wp2_with fail
  refine (CI.out _ BL.out).mono ?_
  rintro e w9 ⟨a_h, c_h, rfl, q_h, k9⟩
  clear d0Bv d1Bv d2Bv g0Bv g1Bv g2Bv ltBv
  clear d0Bg d1Bg d2Bg g0Bg g1Bg g2Bg ltBg
  have z9 := k9.size
  replace BL := Lib.hid (step BL.out k9)
  replace rv := Lib.hid (rv.out.on k9)
  replace Bv := Lib.hid (Bv.out.on k9)
  replace rg := Lib.hid (rg.out.on k9)
  replace Bg := Lib.hid (Bg.out.on k9)
  have rh := Lib.hid q_h
  have lo_rh : Hid (∀ k, ((Value.slice a_h LL.length c_h).ownBlock = some k) → w8.heap.size ≤ k ∧ k < w9.heap.size) := fun k hk => rh.out.lt k hk
  clear k9
  obtain ⟨⟨d0Bv, d1Bv, d2Bv⟩, g0Bv, g1Bv, g2Bv⟩ := Bv.out
  have ltBv := Bv.out.lt
  obtain ⟨⟨d0Bg, d1Bg, d2Bg⟩, g0Bg, g1Bg, g2Bg⟩ := Bg.out
  have ltBg := Bg.out.lt
  obtain ⟨w10, hw10⟩ : ∃ w10, w9.alloc (.cells #[.int .i64 bb, .int .i64 pp, .slice a_h LL.length c_h] 38) = w10 := ⟨_, rfl⟩
  have k10 : Below w9.heap.size w9 w10 := hw10 ▸ below_alloc0 w9 (.cells #[.int .i64 bb, .int .i64 pp, .slice a_h LL.length c_h] 38)
  have z10 := k10.size
  replace BL := Lib.hid (step BL.out k10)
  replace rv := Lib.hid (rv.out.on k10)
  replace Bv := Lib.hid (Bv.out.on k10)
  replace rg := Lib.hid (rg.out.on k10)
  replace Bg := Lib.hid (Bg.out.on k10)
  replace rh := Lib.hid (rh.out.on k10)
  have Bh : Hid (Tri w10 w9.heap.size (.int .i64 bb) (.int .i64 pp) (.slice a_h LL.length c_h)) := hw10 ▸ tri_made w9 (.int .i64 bb) (.int .i64 pp) (.slice a_h LL.length c_h) 38
  have lo_Bh : Hid (∀ k, k = w9.heap.size → w9.heap.size ≤ k ∧ k < w10.heap.size) := fun k hk => ⟨by omega, by have := Bh.out.lt; omega⟩
  have HW10 := Lib.hid hw10
  clear hw10 k10
  go_wp2_with fail
  rw [HW10.out]
  clear d0Bv d1Bv d2Bv g0Bv g1Bv g2Bv ltBv
  clear d0Bg d1Bg d2Bg g0Bg g1Bg g2Bg ltBg
  obtain ⟨⟨d0Bv, d1Bv, d2Bv⟩, g0Bv, g1Bv, g2Bv⟩ := Bv.out
  have ltBv := Bv.out.lt
  obtain ⟨⟨d0Bg, d1Bg, d2Bg⟩, g0Bg, g1Bg, g2Bg⟩ := Bg.out
  have ltBg := Bg.out.lt
  obtain ⟨⟨d0Bh, d1Bh, d2Bh⟩, g0Bh, g1Bh, g2Bh⟩ := Bh.out
  have ltBh := Bh.out.lt
  go_wp2_with fail
  refine (eqPlan_o _ _ _ bb pp _ _ _ rh.out rv.out hll).mono ?_
  rintro e w11 ⟨rfl, k11⟩
  clear d0Bv d1Bv d2Bv g0Bv g1Bv g2Bv ltBv
  clear d0Bg d1Bg d2Bg g0Bg g1Bg g2Bg ltBg
  clear d0Bh d1Bh d2Bh g0Bh g1Bh g2Bh ltBh
  have z11 := k11.size
  replace BL := Lib.hid (step BL.out k11)
  replace rv := Lib.hid (rv.out.on k11)
  replace Bv := Lib.hid (Bv.out.on k11)
  replace rg := Lib.hid (rg.out.on k11)
  replace Bg := Lib.hid (Bg.out.on k11)
  replace rh := Lib.hid (rh.out.on k11)
  replace Bh := Lib.hid (Bh.out.on k11)
  clear k11
  obtain ⟨⟨d0Bv, d1Bv, d2Bv⟩, g0Bv, g1Bv, g2Bv⟩ := Bv.out
  have ltBv := Bv.out.lt
  obtain ⟨⟨d0Bg, d1Bg, d2Bg⟩, g0Bg, g1Bg, g2Bg⟩ := Bg.out
  have ltBg := Bg.out.lt
  obtain ⟨⟨d0Bh, d1Bh, d2Bh⟩, g0Bh, g1Bh, g2Bh⟩ := Bh.out
  have ltBh := Bh.out.lt
  go_wp2_with fail
  refine (heldPlan_o _ _ bb pp _ 1 LL.length rg.out hll (by omega) (by omega)).mono ?_
  rw [MT.out]
  rintro e w12 ⟨rfl, k12⟩
  clear d0Bv d1Bv d2Bv g0Bv g1Bv g2Bv ltBv
  clear d0Bg d1Bg d2Bg g0Bg g1Bg g2Bg ltBg
  clear d0Bh d1Bh d2Bh g0Bh g1Bh g2Bh ltBh
  have z12 := k12.size
  replace BL := Lib.hid (step BL.out k12)
  replace rv := Lib.hid (rv.out.on k12)
  replace Bv := Lib.hid (Bv.out.on k12)
  replace rg := Lib.hid (rg.out.on k12)
  replace Bg := Lib.hid (Bg.out.on k12)
  replace rh := Lib.hid (rh.out.on k12)
  replace Bh := Lib.hid (Bh.out.on k12)
  clear k12
  go_wp2
  go_ret
  exact ⟨rfl, BL.out⟩

set_option maxRecDepth 100000 in
theorem lifted (os : Os) (started : os.Started) (H : Type) (enc : TypeId × Value → H) :
    ReturnsInHanded {} Tryd.checked os 6 .any (fun w args => (Rows.fnExactParsePlanSpec.pre enc Tryd.prog Tryd.f6 [] false w args ∧ laidMetH Tryd.prog Rows.fnExactParsePlanRow.laid w) ∧ sizedMet enc Tryd.prog Tryd.f6 (OpenSpec.ofChange Rows.fnExactParsePlanSpec) false w args)
      (Rows.fnExactParsePlanSpec.post enc Tryd.prog Tryd.f6 false true false false) := by
  refine returns_listed (C := Tryd.checked) (X := fun w _ => laidMetH Tryd.prog Rows.fnExactParsePlanRow.laid w) (fun _ _ _ hh h => h.of_heap hh) own started (by kernel_rfl) Tryd.func6
    (ChangeSpec.witness_shaped (enc := enc) (C := Tryd.checked) (os := os) (X := fun w _ => laidMetH Tryd.prog Rows.fnExactParsePlanRow.laid w) false (World.laidAll Tryd.prog os Rows.fnExactParsePlanRow.laid) #[.string ByteArray.empty] 8 (World.laidAll_os _ _ _) (World.shaped_of_ZipB (by kernel_rfl) (by kernel_rfl)) (by kernel_rfl) (by kernel_rfl) (by kernel_rfl) (Laid.door_nums os _)) ?_
  intro W base args ds gs before hval0 hW hL hsh
  have hval : ∀ (j : Nat) t v, Tryd.f6.params[j]? = some t → args[j]? = some v → Value.okWide Tryd.prog W .any base t v := hval0
  have hW' := hW
  obtain ⟨p, q, hA0, hV, rfl, hfz, hnd⟩ := hW
  have hA : DataW.TrodAll enc Tryd.prog W 0 (fun _ => true) true Tryd.f6.params.toList args.toList ds p := hA0
  rw [Tryd.params6] at hA hval
  obtain ⟨v0, vs0, d0, ds0, p0, q0, hargs, rfl, rfl, h0, r0⟩ := trodAll_cons hA
  obtain ⟨rfl, rfl, rfl⟩ := trodAll_nil r0
  obtain rfl : args = #[v0] := by cases args; simp_all
  obtain ⟨rfl, rfl⟩ := trodVars_none hV
  have g0 := h0
  have lt0 : ∀ x ∈ p0, x.block < W.heap.size := by obtain ⟨m, hm⟩ := g0; exact DataW.trod_lt m _ _ _ hm
  obtain ⟨a0, rfl, _, _, w0⟩ := open_string Tryd.underlying9 (hval 0 9 v0 rfl rfl) h0
  clear hA0 hval0
  refine (walk W a0 w0 (Laid.of_nums hL hsh)).mono fun e W' ⟨he, bel⟩ => ?_
  subst he
  exact ⟨_, rfl, _, _, _, [], _, [], hW', trodAll_mk1 (shut_bool Tryd.underlying4 _), (trodAll_cons_mk (Below.trod laidOut (by kernel_rfl) (of_decide_eq_true (by kernel_rfl)) g0 bel lt0) trodAll_mk0), rfl, bel.frame _, fun h => by cases h⟩

theorem row_holds : Rows.FnExactParsePlanSaid :=
  OpenClaim.holds_of_wide 6 Tryd.f6 rfl rfl rfl rfl rfl rfl rfl ⟨rfl, rfl, rfl, rfl, rfl⟩ rfl rfl rfl rfl rfl (by kernel_rfl) Tryd.func6 (by kernel_rfl)
    (of_decide_eq_true (by kernel_rfl)) (by unfold Func.isWrapper; first | (rw [if_pos (by decide +kernel)]; kernel_rfl) | (rw [if_neg (by decide +kernel)]; exact ⟨rfl, rfl⟩))
    (fun os started H enc _ => lifted os started H enc)

theorem proved : Rows.FnExactParsePlanCardSaid :=
  Claim7.holds_tied_plain_at .later [] [.data, .data, .data, .data, .sentinel, .sentinel, .pinned] true Rows.fnExactParsePlanCard.stood.harness true
    row_holds (fun _ h => by cases h) (by kernel_rfl) (fun _ h => by cases h) fnExactParsePlan_row_tie rfl ⟨rfl, rfl⟩ (by kernel_rfl) rfl
    (fun f fn hf hfn => by
      obtain rfl : f = 6 := Option.some.inj ((show Tryd.prog.funcNamed Rows.fnExactParsePlanRow.func = some 6 by kernel_rfl).symm.trans hf) |>.symm
      obtain rfl : fn = Tryd.f6 := (Option.some.inj (Tryd.func6.symm.trans hfn)).symm
      exact ⟨by kernel_rfl, fun j t ht => by
        rw [Tryd.params6] at ht
        have hm : t ∈ [9] := by simpa using Array.mem_of_getElem? ht
        have hall : ([9].all fun u => !Tryd.prog.wantsStandIn u) = true := by kernel_rfl
        exact (show Tryd.prog.wantsStandIn t = false by simpa using List.all_eq_true.1 hall t hm)⟩)
    (by kernel_rfl)
#print axioms proved
end Go.Proofs.YtgcldnijannmgaaDoor.fnExactParsePlan
