/-
  For every list of offices, laws.FnExactFormatNetwork returns true: the program's FormatNetwork answers as the model of the document does. No condition.
-/
import Derived.Test.YtcppjkmmmpdchaaRows
import Derived.Test.YtcppjkmmmpdchaaNetText
import Derived.Test.YtcppjkmmmpdchaaNet2
import Derived.WalkKit
import Derived.ProofKit
import Derived.OpenShut
import Derived.ShutString
import Derived.ChangeOld
import Derived.Below
import Derived.Handy
import Derived.Lib.Hide
namespace Go.Proofs.Ytcppjkmmmpdchaa.fnExactFormatNetwork
open Go.ChangeShapes Go.WideShapes Go.ChangeAt Go.RowKit
open Go.ChangeMaps (open_string shut_string)
open Go.PlainAid (bt get_bt bt_nonneg bt_le)
set_option linter.unusedVariables false

theorem own : ownKnob Try.prog.godebug = none := by kernel_rfl
theorem laidOut : laidOutB Try.prog = true := by kernel_rfl

set_option maxHeartbeats 2000000 in
set_option maxRecDepth 100000 in
theorem walk (w : World) (a0 : Option Addr) (n0 k0 : Nat) (NM0 : Nat → ByteArray) (RL0 : Nat → List (ByteArray × ByteArray)) (w0 : Nts w a0 n0 NM0 RL0) (f0 : NFits n0 NM0 RL0) (z0 : n0 ≤ maxLen) :
    Calls Try.prog 5 #[.slice a0 n0 k0] w fun e w' => e = .returned (.bool true) ∧ Below w.heap.size w w' := by
  have HL := Lib.hid w0
  have HF := Lib.hid f0
  clear w0 f0
  go_enter Try.func5, Try.ntmps5
  go_wp2_with fail
  refine (szOfficeS_any _ _ _ _ _ _ HL.out HF.out z0 _ (by omega) (by omega)).mono ?_
  rintro e w1 ⟨r, rfl, hr, hr1, hb1⟩
  by_cases hneg : r < 0
  · go_wp2
    go_ret
    exact ⟨rfl, hb1⟩
  have hn : n0 ≤ 1048576 := by omega
  have htot : totR RL0 n0 ≤ 1048576 := by omega
  have HLN : Hid (∀ i, i < n0 → (RL0 i).length ≤ 1048576) := fun i hi => Nat.le_trans (totR_le RL0 hi) htot
  clear hr htot z0
  clear hr1
  obtain ⟨tv, hv⟩ : ∃ tv, M.netText n0 NM0 RL0 = tv := ⟨_, rfl⟩
  have HV := Lib.hid hv
  clear hv
  go_wp2_with fail
  refine (toOfficeS_any _ _ _ _ _ _ (HL.out.on hb1) hn HLN.out).mono ?_
  rintro e w2 ⟨b2, rfl, g2, o2, k2⟩
  have h2 := sstep hb1 k2
  have N2 := Lib.hid (o2.nts (Nat.le_refl _))
  go_wp2_with fail
  refine (spec_FormatNetwork _ _ _ _ _ _ N2.out HF.out hn HLN.out).mono ?_
  rw [HV.out]
  rintro e w3 ⟨rfl, k3⟩
  have h3 := sstep h2 k3
  go_wp2_with fail
  refine (toOfficeS_any _ _ _ _ _ _ (HL.out.on h3) hn HLN.out).mono ?_
  rintro e w4 ⟨b4, rfl, g4, o4, k4⟩
  have h4 := sstep h3 k4
  have N4 := Lib.hid (o4.nts (Nat.le_refl _))
  go_wp2_with fail
  refine (impl_FormatNetwork _ _ _ _ _ _ N4.out HF.out hn).mono ?_
  rw [HV.out]
  rintro e w5 ⟨rfl, k5⟩
  have h5 := sstep h4 k5
  have l5 := Lib.hid (N4.out.on k5)
  go_wp2_with fail
  refine (toOfficeS_any _ _ _ _ _ _ (HL.out.on h5) hn HLN.out).mono ?_
  rintro e w6 ⟨b6, rfl, g6, o6, k6⟩
  have h6 := sstep h5 k6
  have N6 := Lib.hid (o6.nts (Nat.le_refl _))
  go_wp2_with fail
  refine (eqOfficeS_same _ _ _ _ _ _ _ _ (l5.out.on k6) N6.out hn HLN.out).mono ?_
  rintro e w7 ⟨rfl, k7⟩
  have h7 := sstep h6 k7
  go_wp2
  go_ret
  exact ⟨rfl, h7⟩

set_option maxRecDepth 100000 in
theorem lifted (os : Os) (started : os.Started) (H : Type) (enc : TypeId × Value → H) :
    ReturnsInHanded {} Try.checked os 5 .any (Rows.fnExactFormatNetworkSpec.pre6 enc Try.prog Try.f5 Rows.fnExactFormatNetworkRow.domain false) (Rows.fnExactFormatNetworkSpec.post enc Try.prog Try.f5 false true false false) := by
  refine returnsInHanded_of_change (C := Try.checked) own started (by kernel_rfl) Try.func5
    (ChangeSpec.witness6 (enc := enc) (C := Try.checked) false ⟨#[], #[.slice none 0 0], []⟩ 8 (by kernel_rfl) (by kernel_rfl) (by kernel_rfl) (by kernel_rfl)) ?_
  intro W base args ds gs before hval0 hW hcnd _
  have hval : ∀ (j : Nat) t v, Try.f5.params[j]? = some t → args[j]? = some v → Value.okWide Try.prog W .any base t v := hval0
  have hW' := hW
  obtain ⟨p, q, hA0, hV, rfl, hfz, hnd⟩ := hW
  have hA : DataW.TrodAll enc Try.prog W 0 (fun _ => true) true Try.f5.params.toList args.toList ds p := hA0
  rw [Try.params5] at hA hval
  obtain ⟨v0, vs0, d0, ds0, p0, q0, hargs, rfl, rfl, h0, r0⟩ := trodAll_cons hA
  obtain ⟨rfl, rfl, rfl⟩ := trodAll_nil r0
  obtain rfl : args = #[v0] := by cases args; simp_all
  obtain ⟨rfl, rfl⟩ := trodVars_none hV
  have g0 := h0
  have lt0 : ∀ x ∈ p0, x.block < W.heap.size := by obtain ⟨m, hm⟩ := g0; exact DataW.trod_lt m _ _ _ hm
  obtain ⟨a0, n0, k0, rfl⟩ := okWide_slice Try.underlying36 (hval 0 36 v0 rfl rfl)
  obtain ⟨NM0, RL0, w0, f0, z0⟩ : ∃ NM RL, Nts W a0 n0 NM RL ∧ NFits n0 NM RL ∧ n0 ≤ maxLen := by
    obtain ⟨fuel, hf⟩ := h0
    exact open_offices hf
  clear hA0 hval0
  refine (walk W a0 n0 k0 NM0 RL0 w0 f0 z0).mono fun e W' ⟨he, bel⟩ => ?_
  subst he
  exact ⟨_, rfl, _, _, _, [], _, [], hW', trodAll_mk1 (shut_bool Try.underlying4 _), (trodAll_cons_mk (Below.trod laidOut (by kernel_rfl) (of_decide_eq_true (by kernel_rfl)) g0 bel lt0) trodAll_mk0), rfl, bel.frame _, fun h => by cases h⟩

theorem proved : Rows.FnExactFormatNetworkSaid :=
  OpenClaim.holds_of_wide 5 Try.f5 rfl rfl rfl rfl rfl rfl rfl ⟨rfl, rfl, rfl, rfl, rfl⟩ rfl rfl rfl rfl rfl (by kernel_rfl) Try.func5 (by kernel_rfl)
    (of_decide_eq_true (by kernel_rfl)) (by unfold Func.isWrapper; first | (rw [if_pos (by decide +kernel)]; kernel_rfl) | (rw [if_neg (by decide +kernel)]; exact ⟨rfl, rfl⟩))
    (fun os started H enc _ => lifted os started H enc)
#print axioms proved
end Go.Proofs.Ytcppjkmmmpdchaa.fnExactFormatNetwork
