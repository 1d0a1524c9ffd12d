/-
  For every list of offices and every two strings, laws.FnExactRoutePath returns true: the program's RoutePath answers as the model of the document does, and its answer owns its memory. No condition.
-/
import Derived.Test.YtiecniogkcgefaaRows
import Derived.Test.YtiecniogkcgefaaNetMark
import Derived.Test.YtiecniogkcgefaaHome
import Derived.Test.YtiecniogkcgefaaSMark
import Derived.WalkKit
import Derived.ProofKit
import Derived.OpenShut
import Derived.ShutString
import Derived.ChangeOld
import Derived.Below
import Derived.Handy
import Derived.Lib.Hide
namespace Go.Proofs.Ytiecniogkcgefaa.fnExactRoutePath
open Go.ChangeShapes Go.WideShapes Go.ChangeAt Go.RowKit
open Go.ChangeMaps (open_string shut_string)
open Go.PlainAid (bt get_bt bt_nonneg bt_le)
set_option linter.unusedVariables false

theorem own : ownKnob Try.prog.godebug = none := by kernel_rfl
theorem laidOut : laidOutB Try.prog = true := by kernel_rfl

set_option maxHeartbeats 4000000 in
set_option maxRecDepth 100000 in
theorem walk (w : World) (a0 : Option Addr) (n0 k0 : Nat) (NM0 : Nat → ByteArray) (RL0 : Nat → List (ByteArray × ByteArray)) (w0 : Nts w a0 n0 NM0 RL0) (f0 : NFits n0 NM0 RL0) (z0 : n0 ≤ maxLen) (a1 : ByteArray) (w1 : a1.size ≤ maxLen) (a2 : ByteArray) (w2 : a2.size ≤ maxLen) :
    Calls Try.prog 9 #[.slice a0 n0 k0, .string a1, .string a2] w fun e w' => e = .returned (.bool true) ∧ Below w.heap.size w w' := by
  have HL := Lib.hid w0
  have HF := Lib.hid f0
  have HC1 := Lib.hid w1
  have HC2 := Lib.hid w2
  clear w0 f0 w1 w2
  by_cases hl1 : 1048576 < a1.size
  · go_enter Try.func9, Try.ntmps9
    go_wp2
    go_ret
    exact ⟨rfl, Below.refl _ _⟩
  by_cases hl2 : 1048576 < a2.size
  · go_enter Try.func9, Try.ntmps9
    go_wp2
    go_ret
    exact ⟨rfl, Below.refl _ _⟩
  go_enter Try.func9, Try.ntmps9
  go_wp2_with fail
  refine (szOfficeS_any _ _ _ _ _ _ HL.out HF.out z0 _ (by omega) (by omega)).mono ?_
  rintro e w1 ⟨r, rfl, hr, hr1, hb1⟩
  by_cases hneg : r < 0
  · go_wp2
    go_ret
    exact ⟨rfl, hb1⟩
  have hn : n0 ≤ 1048576 := by omega
  have htot : totR RL0 n0 ≤ 1048576 := by omega
  have HLN : Hid (∀ i, i < n0 → (RL0 i).length ≤ 1048576) := fun i hi => Nat.le_trans (totR_le RL0 hi) htot
  clear hr hr1 z0
  have BL := Lib.hid hb1
  have z1 := BL.out.size
  have hI := (M.routeP_len n0 NM0 RL0 a1 a2).2
  obtain ⟨L1, hL1⟩ : ∃ L1, (M.routeP n0 NM0 RL0 a1 a2).1 = L1 := ⟨_, rfl⟩
  obtain ⟨rt, hrt⟩ : ∃ rt, (M.routeP n0 NM0 RL0 a1 a2).2 = rt := ⟨_, rfl⟩
  have CS : Hid (∀ (W : World) (a : Option Addr) (c : Nat), Nts W a n0 NM0 RL0 → Calls Try.prog 32 #[.slice a n0 c, .string a1, .string a2] W fun e w' => ∃ v, e = .returned (.tuple #[v, .int .i64 rt]) ∧ SRow w' W.heap.size v L1 ∧ Below W.heap.size W w') := fun W a c hl => by
    have := spec_RoutePath W a n0 c NM0 RL0 hl HF.out hn HLN.out a1 a2 HC2.out
    unfold PathOut at this
    rw [hL1, hrt] at this
    exact this
  have CI : Hid (∀ (W : World) (a : Option Addr) (c : Nat), Nts W a n0 NM0 RL0 → Calls Try.prog 33 #[.slice a n0 c, .string a1, .string a2] W fun e w' => ∃ v, e = .returned (.tuple #[v, .int .i64 rt]) ∧ SRow w' W.heap.size v L1 ∧ Below W.heap.size W w') := fun W a c hl => by
    have := impl_RoutePath W a n0 c NM0 RL0 hl HF.out hn a1 a2 HC1.out HC2.out
    unfold PathOut at this
    rw [hL1, hrt] at this
    exact this
  rw [hL1] at hI
  have hL1s : L1.length ≤ 1048578 := by omega
  obtain ⟨m1, hm1⟩ : ∃ m1 : Nat, 1 + L1.length = m1 := ⟨_, rfl⟩
  obtain ⟨m0, hm0⟩ : ∃ m0 : Nat, 1 + n0 + 2 * totR RL0 n0 = m0 := ⟨_, rfl⟩
  have M0 := Lib.hid hm0
  have M1 := Lib.hid hm1
  have b1 : 1 ≤ m1 := by omega
  have b2 : m1 ≤ 4000000 := by omega
  have b4 : 1 ≤ m0 := by omega
  have b5 : m0 ≤ 4000000 := by omega
  have HTT := Lib.hid htot
  have hL1t : L1.length ≤ 1048576 := by
    have := M.routeP_len20 n0 NM0 RL0 a1 a2
    rw [hL1] at this
    omega
  clear hL1 hrt hm0 hm1 hI htot hL1s
  go_wp2_with fail
  refine (toOfficeS_net _ a0 n0 k0 NM0 RL0 (HL.out.on BL.out) hn HLN.out).mono ?_
  rintro e w2 ⟨b_xs, rfl, q_xs, k2⟩
  have z2 := k2.size
  replace BL := Lib.hid (step BL.out k2)
  have xs := Lib.hid q_xs
  have lo_xs : Hid (∀ k, (w1.heap.size ≤ k ∧ k < w2.heap.size) → w1.heap.size ≤ k ∧ k < w2.heap.size) := fun k hk => hk
  clear q_xs
  clear k2
  go_wp2_with fail
  refine (CS.out _ _ _ xs.out.nts).mono ?_
  rintro e w3 ⟨v_wr1, rfl, q_wr1, k3⟩
  have z3 := k3.size
  replace BL := Lib.hid (step BL.out k3)
  replace xs := Lib.hid (xs.out.on k3)
  have wr1 := Lib.hid q_wr1
  have lo_wr1 : Hid (∀ k, (v_wr1.ownBlock = some k) → w2.heap.size ≤ k ∧ k < w3.heap.size) := fun k hk => wr1.out.lt k hk
  clear k3
  clear xs lo_xs
  go_wp2_with fail
  refine (toOfficeS_net _ a0 n0 k0 NM0 RL0 (HL.out.on BL.out) hn HLN.out).mono ?_
  rintro e w4 ⟨b_x0, rfl, q_x0, k4⟩
  have z4 := k4.size
  replace BL := Lib.hid (step BL.out k4)
  replace wr1 := Lib.hid (wr1.out.on k4)
  have x0 := Lib.hid q_x0
  have lo_x0 : Hid (∀ k, (w3.heap.size ≤ k ∧ k < w4.heap.size) → w3.heap.size ≤ k ∧ k < w4.heap.size) := fun k hk => hk
  clear q_x0
  clear k4
  go_wp2_with fail
  refine (CI.out _ _ _ x0.out.nts).mono ?_
  rintro e w5 ⟨v_g1, rfl, q_g1, k5⟩
  have z5 := k5.size
  replace BL := Lib.hid (step BL.out k5)
  replace wr1 := Lib.hid (wr1.out.on k5)
  replace x0 := Lib.hid (x0.out.on k5)
  have g1 := Lib.hid q_g1
  have lo_g1 : Hid (∀ k, (v_g1.ownBlock = some k) → w4.heap.size ≤ k ∧ k < w5.heap.size) := fun k hk => g1.out.lt k hk
  clear k5
  go_wp2_with fail
  refine (eqStringS_row _ _ _ _ _ _ g1.out wr1.out hL1t).mono ?_
  rintro e w6 ⟨rfl, k6⟩
  have z6 := k6.size
  replace BL := Lib.hid (step BL.out k6)
  replace wr1 := Lib.hid (wr1.out.on k6)
  replace x0 := Lib.hid (x0.out.on k6)
  replace g1 := Lib.hid (g1.out.on k6)
  clear k6
  go_wp2_with fail
  refine (toOfficeS_net _ a0 n0 k0 NM0 RL0 (HL.out.on BL.out) hn HLN.out).mono ?_
  rintro e w7 ⟨b_xc, rfl, q_xc, k7⟩
  have z7 := k7.size
  replace BL := Lib.hid (step BL.out k7)
  replace wr1 := Lib.hid (wr1.out.on k7)
  replace x0 := Lib.hid (x0.out.on k7)
  replace g1 := Lib.hid (g1.out.on k7)
  have xc := Lib.hid q_xc
  have lo_xc : Hid (∀ k, (w6.heap.size ≤ k ∧ k < w7.heap.size) → w6.heap.size ≤ k ∧ k < w7.heap.size) := fun k hk => hk
  clear q_xc
  clear k7
  go_wp2_with fail
  refine (eqOfficeS_same _ _ _ _ _ _ _ _ x0.out.nts xc.out.nts hn HLN.out).mono ?_
  rintro e w8 ⟨rfl, k8⟩
  have z8 := k8.size
  replace BL := Lib.hid (step BL.out k8)
  replace wr1 := Lib.hid (wr1.out.on k8)
  replace x0 := Lib.hid (x0.out.on k8)
  replace g1 := Lib.hid (g1.out.on k8)
  replace xc := Lib.hid (xc.out.on k8)
  clear k8
  clear xc lo_xc
  go_wp2_with fail
  refine (markOfficeS_net _ _ _ _ _ _ _ x0.out hn HTT.out).mono ?_
  rw [M0.out]
  rintro e w9 ⟨rfl, o9⟩
  have z9 := o9.size
  replace BL := Lib.hid (BL.out.trans (o9.below (B := w.heap.size) (fun k hk _ hs => by have := (lo_x0.out k hs).1; omega) (by omega)))
  replace wr1 := Lib.hid (wr1.out.only o9 (fun k hk hs => by have h1 := lo_wr1.out k hk; have h2 := lo_x0.out k hs; omega))
  replace g1 := Lib.hid (g1.out.only o9 (fun k hk hs => by have h1 := lo_g1.out k hk; have h2 := lo_x0.out k hs; omega))
  clear x0 lo_x0 o9
  go_wp2_with fail
  refine (eqStringS_row _ _ _ _ _ _ g1.out wr1.out hL1t).mono ?_
  rintro e w10 ⟨rfl, k10⟩
  have z10 := k10.size
  replace BL := Lib.hid (step BL.out k10)
  replace wr1 := Lib.hid (wr1.out.on k10)
  replace g1 := Lib.hid (g1.out.on k10)
  clear k10
  go_wp2_with fail
  refine (markStringS_full _ _ _ _ 1 g1.out hL1t (by omega) (by omega)).mono ?_
  rw [M1.out]
  rintro e w11 ⟨rfl, r11, o11⟩
  have z11 := o11.size
  replace BL := Lib.hid (BL.out.trans (o11.below (B := w.heap.size) (fun k hk _ hs => by have := (lo_g1.out k hs).1; omega) (by omega)))
  replace wr1 := Lib.hid (wr1.out.only o11 (fun k hk hs => by have h1 := lo_wr1.out k hk; have h2 := lo_g1.out k hs; omega))
  replace g1 := Lib.hid r11
  clear r11 o11
  go_wp2_with fail
  refine (heldStringS_row _ _ _ 1 L1.length g1.out hL1t (by omega) (by omega)).mono ?_
  rw [M1.out]
  rintro e w12 ⟨rfl, k12⟩
  have z12 := k12.size
  replace BL := Lib.hid (step BL.out k12)
  replace wr1 := Lib.hid (wr1.out.on k12)
  replace g1 := Lib.hid (g1.out.on k12)
  clear k12
  go_wp2_with fail
  refine (toOfficeS_net _ a0 n0 k0 NM0 RL0 (HL.out.on BL.out) hn HLN.out).mono ?_
  rintro e w13 ⟨b_xh, rfl, q_xh, k13⟩
  have z13 := k13.size
  replace BL := Lib.hid (step BL.out k13)
  replace wr1 := Lib.hid (wr1.out.on k13)
  replace g1 := Lib.hid (g1.out.on k13)
  have xh := Lib.hid q_xh
  have lo_xh : Hid (∀ k, (w12.heap.size ≤ k ∧ k < w13.heap.size) → w12.heap.size ≤ k ∧ k < w13.heap.size) := fun k hk => hk
  clear q_xh
  clear k13
  go_wp2_with fail
  refine (CI.out _ _ _ xh.out.nts).mono ?_
  rintro e w14 ⟨v_h1, rfl, q_h1, k14⟩
  have z14 := k14.size
  replace BL := Lib.hid (step BL.out k14)
  replace wr1 := Lib.hid (wr1.out.on k14)
  replace g1 := Lib.hid (g1.out.on k14)
  replace xh := Lib.hid (xh.out.on k14)
  have h1 := Lib.hid q_h1
  have lo_h1 : Hid (∀ k, (v_h1.ownBlock = some k) → w13.heap.size ≤ k ∧ k < w14.heap.size) := fun k hk => h1.out.lt k hk
  clear k14
  clear xh lo_xh
  go_wp2_with fail
  refine (eqStringS_row _ _ _ _ _ _ h1.out wr1.out hL1t).mono ?_
  rintro e w15 ⟨rfl, k15⟩
  have z15 := k15.size
  replace BL := Lib.hid (step BL.out k15)
  replace wr1 := Lib.hid (wr1.out.on k15)
  replace g1 := Lib.hid (g1.out.on k15)
  replace h1 := Lib.hid (h1.out.on k15)
  clear k15
  clear h1 lo_h1
  go_wp2_with fail
  refine (heldStringS_row _ _ _ 1 L1.length g1.out hL1t (by omega) (by omega)).mono ?_
  rw [M1.out]
  rintro e w16 ⟨rfl, k16⟩
  have z16 := k16.size
  replace BL := Lib.hid (step BL.out k16)
  replace wr1 := Lib.hid (wr1.out.on k16)
  replace g1 := Lib.hid (g1.out.on k16)
  clear k16
  go_wp2
  go_ret
  exact ⟨rfl, BL.out⟩

set_option maxRecDepth 100000 in
theorem lifted (os : Os) (started : os.Started) (H : Type) (enc : TypeId × Value → H) :
    ReturnsInHanded {} Try.checked os 9 .any (Rows.fnExactRoutePathSpec.pre6 enc Try.prog Try.f9 Rows.fnExactRoutePathRow.domain false) (Rows.fnExactRoutePathSpec.post enc Try.prog Try.f9 false true false false) := by
  refine returnsInHanded_of_change (C := Try.checked) own started (by kernel_rfl) Try.func9
    (ChangeSpec.witness6 (enc := enc) (C := Try.checked) false ⟨#[], #[.slice none 0 0, .string ByteArray.empty, .string ByteArray.empty], []⟩ 8 (by kernel_rfl) (by kernel_rfl) (by kernel_rfl) (by kernel_rfl)) ?_
  intro W base args ds gs before hval0 hW hcnd _
  have hval : ∀ (j : Nat) t v, Try.f9.params[j]? = some t → args[j]? = some v → Value.okWide Try.prog W .any base t v := hval0
  have hW' := hW
  obtain ⟨p, q, hA0, hV, rfl, hfz, hnd⟩ := hW
  have hA : DataW.TrodAll enc Try.prog W 0 (fun _ => true) true Try.f9.params.toList args.toList ds p := hA0
  rw [Try.params9] at hA hval
  obtain ⟨v0, vs0, d0, ds0, p0, q0, hargs, rfl, rfl, h0, r0⟩ := trodAll_cons hA
  obtain ⟨v1, vs1, d1, ds1, p1, q1, rfl, rfl, rfl, h1, r1⟩ := trodAll_cons r0
  obtain ⟨v2, vs2, d2, ds2, p2, q2, rfl, rfl, rfl, h2, r2⟩ := trodAll_cons r1
  obtain ⟨rfl, rfl, rfl⟩ := trodAll_nil r2
  obtain rfl : args = #[v0, v1, v2] := by cases args; simp_all
  obtain ⟨rfl, rfl⟩ := trodVars_none hV
  have g0 := h0
  have lt0 : ∀ x ∈ p0, x.block < W.heap.size := by obtain ⟨m, hm⟩ := g0; exact DataW.trod_lt m _ _ _ hm
  have g1 := h1
  have lt1 : ∀ x ∈ p1, x.block < W.heap.size := by obtain ⟨m, hm⟩ := g1; exact DataW.trod_lt m _ _ _ hm
  have g2 := h2
  have lt2 : ∀ x ∈ p2, x.block < W.heap.size := by obtain ⟨m, hm⟩ := g2; exact DataW.trod_lt m _ _ _ hm
  obtain ⟨a0, n0, k0, rfl⟩ := okWide_slice Try.underlying38 (hval 0 38 v0 rfl rfl)
  obtain ⟨NM0, RL0, w0, f0, z0⟩ : ∃ NM RL, Nts W a0 n0 NM RL ∧ NFits n0 NM RL ∧ n0 ≤ maxLen := by
    obtain ⟨fuel, hf⟩ := h0
    exact open_offices hf
  obtain ⟨a1, rfl, _, _, w1⟩ := open_string Try.underlying9 (hval 1 9 v1 rfl rfl) h1
  obtain ⟨a2, rfl, _, _, w2⟩ := open_string Try.underlying9 (hval 2 9 v2 rfl rfl) h2
  clear hA0 hval0
  refine (walk W a0 n0 k0 NM0 RL0 w0 f0 z0 a1 w1 a2 w2).mono fun e W' ⟨he, bel⟩ => ?_
  subst he
  exact ⟨_, rfl, _, _, _, [], _, [], hW', trodAll_mk1 (shut_bool Try.underlying4 _), (trodAll_cons_mk (Below.trod laidOut (by kernel_rfl) (of_decide_eq_true (by kernel_rfl)) g0 bel lt0) (trodAll_cons_mk (Below.trod laidOut (by kernel_rfl) (of_decide_eq_true (by kernel_rfl)) g1 bel lt1) (trodAll_cons_mk (Below.trod laidOut (by kernel_rfl) (of_decide_eq_true (by kernel_rfl)) g2 bel lt2) trodAll_mk0))), rfl, bel.frame _, fun h => by cases h⟩

theorem proved : Rows.FnExactRoutePathSaid :=
  OpenClaim.holds_of_wide 9 Try.f9 rfl rfl rfl rfl rfl rfl rfl ⟨rfl, rfl, rfl, rfl, rfl⟩ rfl rfl rfl rfl rfl (by kernel_rfl) Try.func9 (by kernel_rfl)
    (of_decide_eq_true (by kernel_rfl)) (by unfold Func.isWrapper; first | (rw [if_pos (by decide +kernel)]; kernel_rfl) | (rw [if_neg (by decide +kernel)]; exact ⟨rfl, rfl⟩))
    (fun os started H enc _ => lifted os started H enc)
#print axioms proved
end Go.Proofs.Ytiecniogkcgefaa.fnExactRoutePath
