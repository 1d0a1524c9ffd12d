/-
  For every list of rules, laws.FnExactShrinkRules returns true: the program's ShrinkRules answers as the model of the document does, and its answer owns its memory. No condition.
-/
import Derived.Test.YtiecniogkcgefaaRows
import Derived.Test.YtiecniogkcgefaaShrink2
import Derived.Test.YtiecniogkcgefaaRulOpen
import Derived.Test.YtiecniogkcgefaaMatL
import Derived.WalkKit
import Derived.ProofKit
import Derived.OpenShut
import Derived.ShutString
import Derived.ChangeOld
import Derived.Below
import Derived.Handy
import Derived.Lib.Hide
namespace Go.Proofs.Ytiecniogkcgefaa.fnExactShrinkRules
open Go.ChangeShapes Go.WideShapes Go.ChangeAt Go.RowKit
open Go.ChangeMaps (open_string shut_string)
open Go.PlainAid (bt get_bt bt_nonneg bt_le)
set_option linter.unusedVariables false

theorem own : ownKnob Try.prog.godebug = none := by kernel_rfl
theorem laidOut : laidOutB Try.prog = true := by kernel_rfl

set_option maxHeartbeats 4000000 in
set_option maxRecDepth 100000 in
theorem walk (w : World) (a0 : Option Addr) (n0 k0 : Nat) (I0 C0 : Nat → ByteArray) (w0 : Fws w a0 n0 I0 C0) (f0 : FFits n0 I0 C0) (z0 : n0 ≤ maxLen) :
    Calls Try.prog 7 #[.slice a0 n0 k0] w fun e w' => e = .returned (.bool true) ∧ Below w.heap.size w w' := by
  have HL := Lib.hid w0
  have HF := Lib.hid f0
  clear w0 f0
  go_enter Try.func7, Try.ntmps7
  go_wp2_with fail
  refine (szRuleS_any _ _ _ _ _ _ HL.out HF.out z0 _ (by omega) (by omega)).mono ?_
  rintro e w1 ⟨r, rfl, hr, hr1, hb1⟩
  by_cases hneg : r < 0
  · go_wp2
    go_ret
    exact ⟨rfl, hb1⟩
  have hn : n0 ≤ 1048576 := by omega
  clear hr hr1 z0
  have BL := Lib.hid hb1
  have z1 := BL.out.size
  have hI := M.shrink_le I0 C0 n0
  obtain ⟨L1, hL1⟩ : ∃ L1, M.shrink I0 C0 n0 = L1 := ⟨_, rfl⟩
  have CS : Hid (∀ (W : World) (a : Option Addr) (c : Nat), n0 ≤ c → Fws W a n0 I0 C0 → Calls Try.prog 25 #[.slice a n0 c] W (rFRowOut W L1)) := fun W a c hcap hl => by
    have := spec_ShrinkRules W a n0 c I0 C0 hl HF.out hn hcap
    rw [hL1] at this
    exact this
  have CI : Hid (∀ (W : World) (a : Option Addr) (c : Nat), n0 ≤ c → Fws W a n0 I0 C0 → Calls Try.prog 26 #[.slice a n0 c] W (rFRowOut W L1)) := fun W a c hcap hl => by
    have := impl_ShrinkRules W a n0 c I0 C0 hl HF.out 
    rw [hL1] at this
    exact this
  rw [hL1] at hI
  have hl1 : L1.length ≤ 1048577 := by omega
  obtain ⟨m1, hm1⟩ : ∃ m1 : Nat, 1 + 2 * L1.length = m1 := ⟨_, rfl⟩
  obtain ⟨m0, hm0⟩ : ∃ m0 : Nat, 1 + 2 * n0 = m0 := ⟨_, rfl⟩
  have M0 : Hid (1 + 2 * (M.flst I0 C0 n0).length = m0) := by rw [M.flst_length]; exact hm0
  have M1 := Lib.hid hm1
  have b1 : 1 ≤ m1 := by omega
  have b2 : m1 ≤ 4000000 := by omega
  have b4 : 1 ≤ m0 := by omega
  have b5 : m0 ≤ 4000000 := by omega
  have hle : (M.flst I0 C0 n0).length ≤ 1048576 := by rw [M.flst_length]; exact hn
  have hL1s : L1.length ≤ 1048576 := hL1 ▸ M.shrink_small I0 C0 n0 hn
  clear hL1 hm0 hm1 hI
  go_wp2_with fail
  refine (toRuleS_row _ a0 n0 k0 I0 C0 (HL.out.on BL.out) hn).mono ?_
  rintro e w2 ⟨b_xs, rfl, q_xs, k2⟩
  have z2 := k2.size
  replace BL := Lib.hid (step BL.out k2)
  have xs := Lib.hid q_xs
  have lo_xs : Hid (∀ k, ((Value.slice (some ⟨b_xs, 0, none⟩) n0 n0).ownBlock = some k) → w1.heap.size ≤ k ∧ k < w2.heap.size) := fun k hk => xs.out.lt k hk
  clear k2
  go_wp2_with fail
  refine (CS.out _ _ _ (Nat.le_refl _) xs.out.fws_lst).mono ?_
  rintro e w3 ⟨v_wr1, rfl, q_wr1, k3⟩
  have z3 := k3.size
  replace BL := Lib.hid (step BL.out k3)
  replace xs := Lib.hid (xs.out.on k3)
  have wr1 := Lib.hid q_wr1
  have lo_wr1 : Hid (∀ k, (v_wr1.ownBlock = some k) → w2.heap.size ≤ k ∧ k < w3.heap.size) := fun k hk => wr1.out.lt k hk
  clear k3
  clear xs lo_xs
  go_wp2_with fail
  refine (toRuleS_row _ a0 n0 k0 I0 C0 (HL.out.on BL.out) hn).mono ?_
  rintro e w4 ⟨b_x0, rfl, q_x0, k4⟩
  have z4 := k4.size
  replace BL := Lib.hid (step BL.out k4)
  replace wr1 := Lib.hid (wr1.out.on k4)
  have x0 := Lib.hid q_x0
  have lo_x0 : Hid (∀ k, ((Value.slice (some ⟨b_x0, 0, none⟩) n0 n0).ownBlock = some k) → w3.heap.size ≤ k ∧ k < w4.heap.size) := fun k hk => x0.out.lt k hk
  clear k4
  go_wp2_with fail
  refine (CI.out _ _ _ (Nat.le_refl _) x0.out.fws_lst).mono ?_
  rintro e w5 ⟨v_g1, rfl, q_g1, k5⟩
  have z5 := k5.size
  replace BL := Lib.hid (step BL.out k5)
  replace wr1 := Lib.hid (wr1.out.on k5)
  replace x0 := Lib.hid (x0.out.on k5)
  have g1 := Lib.hid q_g1
  have lo_g1 : Hid (∀ k, (v_g1.ownBlock = some k) → w4.heap.size ≤ k ∧ k < w5.heap.size) := fun k hk => g1.out.lt k hk
  clear k5
  go_wp2_with fail
  refine (eqRuleS_row _ _ _ _ _ _ g1.out wr1.out hL1s).mono ?_
  rintro e w6 ⟨rfl, k6⟩
  have z6 := k6.size
  replace BL := Lib.hid (step BL.out k6)
  replace wr1 := Lib.hid (wr1.out.on k6)
  replace x0 := Lib.hid (x0.out.on k6)
  replace g1 := Lib.hid (g1.out.on k6)
  clear k6
  go_wp2_with fail
  refine (toRuleS_row _ a0 n0 k0 I0 C0 (HL.out.on BL.out) hn).mono ?_
  rintro e w7 ⟨b_xc, rfl, q_xc, k7⟩
  have z7 := k7.size
  replace BL := Lib.hid (step BL.out k7)
  replace wr1 := Lib.hid (wr1.out.on k7)
  replace x0 := Lib.hid (x0.out.on k7)
  replace g1 := Lib.hid (g1.out.on k7)
  have xc := Lib.hid q_xc
  have lo_xc : Hid (∀ k, ((Value.slice (some ⟨b_xc, 0, none⟩) n0 n0).ownBlock = some k) → w6.heap.size ≤ k ∧ k < w7.heap.size) := fun k hk => xc.out.lt k hk
  clear k7
  go_wp2_with fail
  refine (eqRuleS_row _ _ _ _ _ _ x0.out xc.out hle).mono ?_
  rintro e w8 ⟨rfl, k8⟩
  have z8 := k8.size
  replace BL := Lib.hid (step BL.out k8)
  replace wr1 := Lib.hid (wr1.out.on k8)
  replace x0 := Lib.hid (x0.out.on k8)
  replace g1 := Lib.hid (g1.out.on k8)
  replace xc := Lib.hid (xc.out.on k8)
  clear k8
  clear xc lo_xc
  go_wp2_with fail
  refine (markRuleS_row _ _ _ _ 1 x0.out hle (by omega) (by omega)).mono ?_
  rw [M0.out]
  rintro e w9 ⟨rfl, r9, o9⟩
  replace o9 := (Only.of_grown o9).mono (T := fun k => (Value.slice (some ⟨b_x0, 0, none⟩) n0 n0).ownBlock = some k) (fun k _ e => e.symm)
  have z9 := o9.size
  replace BL := Lib.hid (BL.out.trans (o9.below (B := w.heap.size) (fun k hk _ hs => by have := (lo_x0.out k hs).1; omega) (by omega)))
  replace wr1 := Lib.hid (wr1.out.only o9 (fun k hk hs => by have h1 := lo_wr1.out k hk; have h2 := lo_x0.out k hs; omega))
  replace g1 := Lib.hid (g1.out.only o9 (fun k hk hs => by have h1 := lo_g1.out k hk; have h2 := lo_x0.out k hs; omega))
  replace x0 := Lib.hid r9
  clear r9 o9
  go_wp2_with fail
  refine (eqRuleS_row _ _ _ _ _ _ g1.out wr1.out hL1s).mono ?_
  rintro e w10 ⟨rfl, k10⟩
  have z10 := k10.size
  replace BL := Lib.hid (step BL.out k10)
  replace wr1 := Lib.hid (wr1.out.on k10)
  replace x0 := Lib.hid (x0.out.on k10)
  replace g1 := Lib.hid (g1.out.on k10)
  clear k10
  go_wp2_with fail
  refine (markRuleS_row _ _ _ _ 1 g1.out hL1s (by omega) (by omega)).mono ?_
  rw [M1.out]
  rintro e w11 ⟨rfl, r11, o11⟩
  replace o11 := (Only.of_grown o11).mono (T := fun k => v_g1.ownBlock = some k) (fun k _ e => e.symm)
  have z11 := o11.size
  replace BL := Lib.hid (BL.out.trans (o11.below (B := w.heap.size) (fun k hk _ hs => by have := (lo_g1.out k hs).1; omega) (by omega)))
  replace wr1 := Lib.hid (wr1.out.only o11 (fun k hk hs => by have h1 := lo_wr1.out k hk; have h2 := lo_g1.out k hs; omega))
  replace x0 := Lib.hid (x0.out.only o11 (fun k hk hs => by have h1 := lo_x0.out k hk; have h2 := lo_g1.out k hs; omega))
  replace g1 := Lib.hid r11
  clear r11 o11
  go_wp2_with fail
  refine (heldRuleS_row _ _ _ 1 L1.length g1.out hL1s (by omega) (by omega)).mono ?_
  rw [M1.out]
  rintro e w12 ⟨rfl, k12⟩
  have z12 := k12.size
  replace BL := Lib.hid (step BL.out k12)
  replace wr1 := Lib.hid (wr1.out.on k12)
  replace x0 := Lib.hid (x0.out.on k12)
  replace g1 := Lib.hid (g1.out.on k12)
  clear k12
  clear x0 lo_x0
  go_wp2_with fail
  refine (toRuleS_row _ a0 n0 k0 I0 C0 (HL.out.on BL.out) hn).mono ?_
  rintro e w13 ⟨b_xh, rfl, q_xh, k13⟩
  have z13 := k13.size
  replace BL := Lib.hid (step BL.out k13)
  replace wr1 := Lib.hid (wr1.out.on k13)
  replace g1 := Lib.hid (g1.out.on k13)
  have xh := Lib.hid q_xh
  have lo_xh : Hid (∀ k, ((Value.slice (some ⟨b_xh, 0, none⟩) n0 n0).ownBlock = some k) → w12.heap.size ≤ k ∧ k < w13.heap.size) := fun k hk => xh.out.lt k hk
  clear k13
  go_wp2_with fail
  refine (CI.out _ _ _ (Nat.le_refl _) xh.out.fws_lst).mono ?_
  rintro e w14 ⟨v_h1, rfl, q_h1, k14⟩
  have z14 := k14.size
  replace BL := Lib.hid (step BL.out k14)
  replace wr1 := Lib.hid (wr1.out.on k14)
  replace g1 := Lib.hid (g1.out.on k14)
  replace xh := Lib.hid (xh.out.on k14)
  have h1 := Lib.hid q_h1
  have lo_h1 : Hid (∀ k, (v_h1.ownBlock = some k) → w13.heap.size ≤ k ∧ k < w14.heap.size) := fun k hk => h1.out.lt k hk
  clear k14
  clear xh lo_xh
  go_wp2_with fail
  refine (eqRuleS_row _ _ _ _ _ _ h1.out wr1.out hL1s).mono ?_
  rintro e w15 ⟨rfl, k15⟩
  have z15 := k15.size
  replace BL := Lib.hid (step BL.out k15)
  replace wr1 := Lib.hid (wr1.out.on k15)
  replace g1 := Lib.hid (g1.out.on k15)
  replace h1 := Lib.hid (h1.out.on k15)
  clear k15
  clear h1 lo_h1
  go_wp2_with fail
  refine (heldRuleS_row _ _ _ 1 L1.length g1.out hL1s (by omega) (by omega)).mono ?_
  rw [M1.out]
  rintro e w16 ⟨rfl, k16⟩
  have z16 := k16.size
  replace BL := Lib.hid (step BL.out k16)
  replace wr1 := Lib.hid (wr1.out.on k16)
  replace g1 := Lib.hid (g1.out.on k16)
  clear k16
  go_wp2
  go_ret
  exact ⟨rfl, BL.out⟩

set_option maxRecDepth 100000 in
theorem lifted (os : Os) (started : os.Started) (H : Type) (enc : TypeId × Value → H) :
    ReturnsInHanded {} Try.checked os 7 .any (Rows.fnExactShrinkRulesSpec.pre6 enc Try.prog Try.f7 Rows.fnExactShrinkRulesRow.domain false) (Rows.fnExactShrinkRulesSpec.post enc Try.prog Try.f7 false true false false) := by
  refine returnsInHanded_of_change (C := Try.checked) own started (by kernel_rfl) Try.func7
    (ChangeSpec.witness6 (enc := enc) (C := Try.checked) false ⟨#[], #[.slice none 0 0], []⟩ 8 (by kernel_rfl) (by kernel_rfl) (by kernel_rfl) (by kernel_rfl)) ?_
  intro W base args ds gs before hval0 hW hcnd _
  have hval : ∀ (j : Nat) t v, Try.f7.params[j]? = some t → args[j]? = some v → Value.okWide Try.prog W .any base t v := hval0
  have hW' := hW
  obtain ⟨p, q, hA0, hV, rfl, hfz, hnd⟩ := hW
  have hA : DataW.TrodAll enc Try.prog W 0 (fun _ => true) true Try.f7.params.toList args.toList ds p := hA0
  rw [Try.params7] at hA hval
  obtain ⟨v0, vs0, d0, ds0, p0, q0, hargs, rfl, rfl, h0, r0⟩ := trodAll_cons hA
  obtain ⟨rfl, rfl, rfl⟩ := trodAll_nil r0
  obtain rfl : args = #[v0] := by cases args; simp_all
  obtain ⟨rfl, rfl⟩ := trodVars_none hV
  have g0 := h0
  have lt0 : ∀ x ∈ p0, x.block < W.heap.size := by obtain ⟨m, hm⟩ := g0; exact DataW.trod_lt m _ _ _ hm
  obtain ⟨a0, n0, k0, rfl⟩ := okWide_slice Try.underlying22 (hval 0 22 v0 rfl rfl)
  obtain ⟨I0, C0, w0, f0, z0⟩ : ∃ I C, Fws W a0 n0 I C ∧ FFits n0 I C ∧ n0 ≤ maxLen := by
    obtain ⟨fuel, hf⟩ := h0
    exact open_rules hf
  clear hA0 hval0
  refine (walk W a0 n0 k0 I0 C0 w0 f0 z0).mono fun e W' ⟨he, bel⟩ => ?_
  subst he
  exact ⟨_, rfl, _, _, _, [], _, [], hW', trodAll_mk1 (shut_bool Try.underlying4 _), (trodAll_cons_mk (Below.trod laidOut (by kernel_rfl) (of_decide_eq_true (by kernel_rfl)) g0 bel lt0) trodAll_mk0), rfl, bel.frame _, fun h => by cases h⟩

theorem proved : Rows.FnExactShrinkRulesSaid :=
  OpenClaim.holds_of_wide 7 Try.f7 rfl rfl rfl rfl rfl rfl rfl ⟨rfl, rfl, rfl, rfl, rfl⟩ rfl rfl rfl rfl rfl (by kernel_rfl) Try.func7 (by kernel_rfl)
    (of_decide_eq_true (by kernel_rfl)) (by unfold Func.isWrapper; first | (rw [if_pos (by decide +kernel)]; kernel_rfl) | (rw [if_neg (by decide +kernel)]; exact ⟨rfl, rfl⟩))
    (fun os started H enc _ => lifted os started H enc)
#print axioms proved
end Go.Proofs.Ytiecniogkcgefaa.fnExactShrinkRules
