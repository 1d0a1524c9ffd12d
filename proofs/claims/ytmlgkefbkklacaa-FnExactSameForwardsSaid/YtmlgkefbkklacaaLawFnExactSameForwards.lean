/-
  For every two lists of orders, laws.FnExactSameForwards returns true: the program's SameForwards answers as the model of the document does. No condition.
-/
import Derived.Test.YtmlgkefbkklacaaRows
import Derived.Test.YtmlgkefbkklacaaSame2
import Derived.Test.YtmlgkefbkklacaaFwdOpen
import Derived.Test.YtmlgkefbkklacaaMatL
import Derived.WalkKit
import Derived.ProofKit
import Derived.OpenShut
import Derived.ShutString
import Derived.ChangeOld
import Derived.Below
import Derived.Handy
import Derived.Lib.Hide
namespace Go.Proofs.Ytmlgkefbkklacaa.fnExactSameForwards
open Go.ChangeShapes Go.WideShapes Go.ChangeAt Go.RowKit
open Go.ChangeMaps (open_string shut_string)
open Go.PlainAid (bt get_bt bt_nonneg bt_le)
set_option linter.unusedVariables false

theorem own : ownKnob Try.prog.godebug = none := by kernel_rfl
theorem laidOut : laidOutB Try.prog = true := by kernel_rfl

set_option maxHeartbeats 4000000 in
set_option maxRecDepth 100000 in
theorem walk (w : World) (a0 : Option Addr) (n0 k0 : Nat) (I0 C0 : Nat → ByteArray) (w0 : Fws w a0 n0 I0 C0) (f0 : FFits n0 I0 C0) (z0 : n0 ≤ maxLen) (a1 : Option Addr) (n1 k1 : Nat) (I1 C1 : Nat → ByteArray) (w1 : Fws w a1 n1 I1 C1) (f1 : FFits n1 I1 C1) (z1 : n1 ≤ maxLen) :
    Calls Try.prog 12 #[.slice a0 n0 k0, .slice a1 n1 k1] w fun e w' => e = .returned (.bool true) ∧ Below w.heap.size w w' := by
  have HL := Lib.hid w0
  have HF := Lib.hid f0
  have HS1 := Lib.hid w1
  have HF1 := Lib.hid f1
  have ZS : n1 ≤ maxLen := z1
  clear w0 f0 w1 f1 z1
  go_enter Try.func12, Try.ntmps12
  go_wp2_with fail
  refine (szForwardS_any _ _ _ _ _ _ HL.out HF.out z0 _ (by omega) (by omega)).mono ?_
  rintro e w1 ⟨r, rfl, hr, hr1, hb1⟩
  by_cases hneg : r < 0
  · go_wp2
    go_ret
    exact ⟨rfl, hb1⟩
  have hn : n0 ≤ 1048576 := by omega
  clear hr z0
  go_wp2_with fail
  refine (szForwardS_any _ a1 n1 k1 I1 C1 (HS1.out.on hb1) HF1.out ZS _ (by omega) (by omega)).mono ?_
  rintro e w1 ⟨r2, rfl, hr2, hr3, hbz⟩
  replace hb1 := step hb1 hbz
  by_cases hneg2 : r2 < 0
  · go_wp2
    go_ret
    exact ⟨rfl, hb1⟩
  have hn1 : n1 ≤ 1048576 := by omega
  clear hr1 hr2 hr3 ZS hbz
  have BL := Lib.hid hb1
  have z1 := BL.out.size
  have hle : (M.flst I0 C0 n0).length ≤ 1048576 := by rw [M.flst_length]; exact hn
  have hls : (M.flst I1 C1 n1).length ≤ 1048576 := by rw [M.flst_length]; exact hn1
  obtain ⟨ok, hok⟩ : ∃ ok, M.same I0 C0 n0 I1 C1 n1 = ok := ⟨_, rfl⟩
  have HOK := Lib.hid hok
  clear hok
  go_wp2_with fail
  refine (toForwardS_row _ a0 n0 k0 I0 C0 (HL.out.on BL.out) hn).mono ?_
  rintro e w2 ⟨b_xs, rfl, q_xs, k2⟩
  have z2 := k2.size
  replace BL := Lib.hid (step BL.out k2)
  have xs := Lib.hid q_xs
  have lo_xs : Hid (∀ k, ((Value.slice (some ⟨b_xs, 0, none⟩) n0 n0).ownBlock = some k) → w1.heap.size ≤ k ∧ k < w2.heap.size) := fun k hk => xs.out.lt k hk
  clear k2
  go_wp2_with fail
  refine (toForwardS_row _ a1 n1 k1 I1 C1 (HS1.out.on BL.out) hn1).mono ?_
  rintro e w3 ⟨b_ts, rfl, q_ts, k3⟩
  have z3 := k3.size
  replace BL := Lib.hid (step BL.out k3)
  replace xs := Lib.hid (xs.out.on k3)
  have ts := Lib.hid q_ts
  have lo_ts : Hid (∀ k, ((Value.slice (some ⟨b_ts, 0, none⟩) n1 n1).ownBlock = some k) → w2.heap.size ≤ k ∧ k < w3.heap.size) := fun k hk => ts.out.lt k hk
  clear k3
  go_wp2_with fail
  refine (spec_SameForwards _ _ n0 _ I0 C0 xs.out.fws_lst HF.out hn _ n1 _ I1 C1 ts.out.fws_lst HF1.out hn1).mono ?_
  rw [HOK.out]
  rintro e w4 ⟨rfl, k4⟩
  have z4 := k4.size
  replace BL := Lib.hid (step BL.out k4)
  replace xs := Lib.hid (xs.out.on k4)
  replace ts := Lib.hid (ts.out.on k4)
  clear k4
  clear xs lo_xs
  clear ts lo_ts
  go_wp2_with fail
  refine (toForwardS_row _ a0 n0 k0 I0 C0 (HL.out.on BL.out) hn).mono ?_
  rintro e w5 ⟨b_x0, rfl, q_x0, k5⟩
  have z5 := k5.size
  replace BL := Lib.hid (step BL.out k5)
  have x0 := Lib.hid q_x0
  have lo_x0 : Hid (∀ k, ((Value.slice (some ⟨b_x0, 0, none⟩) n0 n0).ownBlock = some k) → w4.heap.size ≤ k ∧ k < w5.heap.size) := fun k hk => x0.out.lt k hk
  clear k5
  go_wp2_with fail
  refine (toForwardS_row _ a1 n1 k1 I1 C1 (HS1.out.on BL.out) hn1).mono ?_
  rintro e w6 ⟨b_x1, rfl, q_x1, k6⟩
  have z6 := k6.size
  replace BL := Lib.hid (step BL.out k6)
  replace x0 := Lib.hid (x0.out.on k6)
  have x1 := Lib.hid q_x1
  have lo_x1 : Hid (∀ k, ((Value.slice (some ⟨b_x1, 0, none⟩) n1 n1).ownBlock = some k) → w5.heap.size ≤ k ∧ k < w6.heap.size) := fun k hk => x1.out.lt k hk
  clear k6
  go_wp2_with fail
  refine (impl_SameForwards _ _ n0 _ I0 C0 x0.out.fws_lst HF.out _ n1 _ I1 C1 x1.out.fws_lst HF1.out).mono ?_
  rw [HOK.out]
  rintro e w7 ⟨rfl, k7⟩
  have z7 := k7.size
  replace BL := Lib.hid (step BL.out k7)
  replace x0 := Lib.hid (x0.out.on k7)
  replace x1 := Lib.hid (x1.out.on k7)
  clear k7
  go_wp2_with fail
  refine (toForwardS_row _ a0 n0 k0 I0 C0 (HL.out.on BL.out) hn).mono ?_
  rintro e w8 ⟨b_xc, rfl, q_xc, k8⟩
  have z8 := k8.size
  replace BL := Lib.hid (step BL.out k8)
  replace x0 := Lib.hid (x0.out.on k8)
  replace x1 := Lib.hid (x1.out.on k8)
  have xc := Lib.hid q_xc
  have lo_xc : Hid (∀ k, ((Value.slice (some ⟨b_xc, 0, none⟩) n0 n0).ownBlock = some k) → w7.heap.size ≤ k ∧ k < w8.heap.size) := fun k hk => xc.out.lt k hk
  clear k8
  go_wp2_with fail
  refine (eqForwardS_row _ _ _ _ _ _ x0.out xc.out hle).mono ?_
  rintro e w9 ⟨rfl, k9⟩
  have z9 := k9.size
  replace BL := Lib.hid (step BL.out k9)
  replace x0 := Lib.hid (x0.out.on k9)
  replace x1 := Lib.hid (x1.out.on k9)
  replace xc := Lib.hid (xc.out.on k9)
  clear k9
  clear xc lo_xc
  go_wp2_with fail
  refine (toForwardS_row _ a1 n1 k1 I1 C1 (HS1.out.on BL.out) hn1).mono ?_
  rintro e w10 ⟨b_tc, rfl, q_tc, k10⟩
  have z10 := k10.size
  replace BL := Lib.hid (step BL.out k10)
  replace x0 := Lib.hid (x0.out.on k10)
  replace x1 := Lib.hid (x1.out.on k10)
  have tc := Lib.hid q_tc
  have lo_tc : Hid (∀ k, ((Value.slice (some ⟨b_tc, 0, none⟩) n1 n1).ownBlock = some k) → w9.heap.size ≤ k ∧ k < w10.heap.size) := fun k hk => tc.out.lt k hk
  clear k10
  go_wp2_with fail
  refine (eqForwardS_row _ _ _ _ _ _ x1.out tc.out hls).mono ?_
  rintro e w11 ⟨rfl, k11⟩
  have z11 := k11.size
  replace BL := Lib.hid (step BL.out k11)
  replace x0 := Lib.hid (x0.out.on k11)
  replace x1 := Lib.hid (x1.out.on k11)
  replace tc := Lib.hid (tc.out.on k11)
  clear k11
  clear tc lo_tc
  go_wp2
  go_ret
  exact ⟨rfl, BL.out⟩

set_option maxRecDepth 100000 in
theorem lifted (os : Os) (started : os.Started) (H : Type) (enc : TypeId × Value → H) :
    ReturnsInHanded {} Try.checked os 12 .any (Rows.fnExactSameForwardsSpec.pre6 enc Try.prog Try.f12 Rows.fnExactSameForwardsRow.domain false) (Rows.fnExactSameForwardsSpec.post enc Try.prog Try.f12 false true false false) := by
  refine returnsInHanded_of_change (C := Try.checked) own started (by kernel_rfl) Try.func12
    (ChangeSpec.witness6 (enc := enc) (C := Try.checked) false ⟨#[], #[.slice none 0 0, .slice none 0 0], []⟩ 8 (by kernel_rfl) (by kernel_rfl) (by kernel_rfl) (by kernel_rfl)) ?_
  intro W base args ds gs before hval0 hW hcnd _
  have hval : ∀ (j : Nat) t v, Try.f12.params[j]? = some t → args[j]? = some v → Value.okWide Try.prog W .any base t v := hval0
  have hW' := hW
  obtain ⟨p, q, hA0, hV, rfl, hfz, hnd⟩ := hW
  have hA : DataW.TrodAll enc Try.prog W 0 (fun _ => true) true Try.f12.params.toList args.toList ds p := hA0
  rw [Try.params12] at hA hval
  obtain ⟨v0, vs0, d0, ds0, p0, q0, hargs, rfl, rfl, h0, r0⟩ := trodAll_cons hA
  obtain ⟨v1, vs1, d1, ds1, p1, q1, rfl, rfl, rfl, h1, r1⟩ := trodAll_cons r0
  obtain ⟨rfl, rfl, rfl⟩ := trodAll_nil r1
  obtain rfl : args = #[v0, v1] := by cases args; simp_all
  obtain ⟨rfl, rfl⟩ := trodVars_none hV
  have g0 := h0
  have lt0 : ∀ x ∈ p0, x.block < W.heap.size := by obtain ⟨m, hm⟩ := g0; exact DataW.trod_lt m _ _ _ hm
  have g1 := h1
  have lt1 : ∀ x ∈ p1, x.block < W.heap.size := by obtain ⟨m, hm⟩ := g1; exact DataW.trod_lt m _ _ _ hm
  obtain ⟨a0, n0, k0, rfl⟩ := okWide_slice Try.underlying22 (hval 0 22 v0 rfl rfl)
  obtain ⟨I0, C0, w0, f0, z0⟩ : ∃ I C, Fws W a0 n0 I C ∧ FFits n0 I C ∧ n0 ≤ maxLen := by
    obtain ⟨fuel, hf⟩ := h0
    exact open_forwards hf
  obtain ⟨a1, n1, k1, rfl⟩ := okWide_slice Try.underlying22 (hval 1 22 v1 rfl rfl)
  obtain ⟨I1, C1, w1, f1, z1⟩ : ∃ I C, Fws W a1 n1 I C ∧ FFits n1 I C ∧ n1 ≤ maxLen := by
    obtain ⟨fuel, hf⟩ := h1
    exact open_forwards hf
  clear hA0 hval0
  refine (walk W a0 n0 k0 I0 C0 w0 f0 z0 a1 n1 k1 I1 C1 w1 f1 z1).mono fun e W' ⟨he, bel⟩ => ?_
  subst he
  exact ⟨_, rfl, _, _, _, [], _, [], hW', trodAll_mk1 (shut_bool Try.underlying4 _), (trodAll_cons_mk (Below.trod laidOut (by kernel_rfl) (of_decide_eq_true (by kernel_rfl)) g0 bel lt0) (trodAll_cons_mk (Below.trod laidOut (by kernel_rfl) (of_decide_eq_true (by kernel_rfl)) g1 bel lt1) trodAll_mk0)), rfl, bel.frame _, fun h => by cases h⟩

theorem proved : Rows.FnExactSameForwardsSaid :=
  OpenClaim.holds_of_wide 12 Try.f12 rfl rfl rfl rfl rfl rfl rfl ⟨rfl, rfl, rfl, rfl, rfl⟩ rfl rfl rfl rfl rfl (by kernel_rfl) Try.func12 (by kernel_rfl)
    (of_decide_eq_true (by kernel_rfl)) (by unfold Func.isWrapper; first | (rw [if_pos (by decide +kernel)]; kernel_rfl) | (rw [if_neg (by decide +kernel)]; exact ⟨rfl, rfl⟩))
    (fun os started H enc _ => lifted os started H enc)
#print axioms proved
end Go.Proofs.Ytmlgkefbkklacaa.fnExactSameForwards
