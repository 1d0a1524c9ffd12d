/-
  For every list of offices and every two strings, laws.FnExactHomeOf returns true: the program's HomeOf answers as the model of the document does. No condition.
-/
import Derived.Test.YtiecniogkcgefaaRows
import Derived.Test.YtiecniogkcgefaaHome2
import Derived.WalkKit
import Derived.ProofKit
import Derived.OpenShut
import Derived.ShutString
import Derived.ChangeOld
import Derived.Below
import Derived.Handy
import Derived.Lib.Hide
namespace Go.Proofs.Ytiecniogkcgefaa.fnExactHomeOf
open Go.ChangeShapes Go.WideShapes Go.ChangeAt Go.RowKit
open Go.ChangeMaps (open_string shut_string)
open Go.PlainAid (bt get_bt bt_nonneg bt_le)
set_option linter.unusedVariables false

theorem own : ownKnob Try.prog.godebug = none := by kernel_rfl
theorem laidOut : laidOutB Try.prog = true := by kernel_rfl

set_option maxHeartbeats 2000000 in
set_option maxRecDepth 100000 in
theorem walk (w : World) (a0 : Option Addr) (n0 k0 : Nat) (NM0 : Nat → ByteArray) (RL0 : Nat → List (ByteArray × ByteArray)) (w0 : Nts w a0 n0 NM0 RL0) (f0 : NFits n0 NM0 RL0) (z0 : n0 ≤ maxLen) (a1 : ByteArray) (w1 : a1.size ≤ maxLen) (a2 : ByteArray) (w2 : a2.size ≤ maxLen) :
    Calls Try.prog 10 #[.slice a0 n0 k0, .string a1, .string a2] w fun e w' => e = .returned (.bool true) ∧ Below w.heap.size w w' := by
  have HL := Lib.hid w0
  have HF := Lib.hid f0
  clear w0 f0
  have HC1 := Lib.hid w1
  have HC2 := Lib.hid w2
  clear w1 w2
  by_cases hl1 : 1048576 < a1.size
  · go_enter Try.func10, Try.ntmps10
    go_wp2
    go_ret
    exact ⟨rfl, Below.refl _ _⟩
  by_cases hl2 : 1048576 < a2.size
  · go_enter Try.func10, Try.ntmps10
    go_wp2
    go_ret
    exact ⟨rfl, Below.refl _ _⟩
  go_enter Try.func10, Try.ntmps10
  go_wp2_with fail
  refine (szOfficeS_any _ _ _ _ _ _ HL.out HF.out z0 _ (by omega) (by omega)).mono ?_
  rintro e w1 ⟨r, rfl, hr, hr1, hb1⟩
  by_cases hneg : r < 0
  · go_wp2
    go_ret
    exact ⟨rfl, hb1⟩
  have hn : n0 ≤ 1048576 := by omega
  have htot : totR RL0 n0 ≤ 1048576 := by omega
  have HLN : Hid (∀ i, i < n0 → (RL0 i).length ≤ 1048576) := fun i hi => Nat.le_trans (totR_le RL0 hi) htot
  clear hr htot z0
  clear hr1
  obtain ⟨tv, HV⟩ : ∃ tv, Hid (LkForm tv ∧ lkV (M.homeOf n0 NM0 RL0 a1 a2) = tv) := ⟨_, lk_form _, rfl⟩
  obtain ⟨⟨s, y, rfl⟩, HV⟩ := HV.out
  have HV := Lib.hid HV
  go_wp2_with fail
  refine (toOfficeS_any _ _ _ _ _ _ (HL.out.on hb1) hn HLN.out).mono ?_
  rintro e w2 ⟨b2, rfl, g2, o2, k2⟩
  have h2 := sstep hb1 k2
  have N2 := Lib.hid (o2.nts (Nat.le_refl _))
  go_wp2_with fail
  refine (spec_HomeOf _ _ _ _ _ _ N2.out HF.out hn HLN.out a1 a2 HC2.out).mono ?_
  rw [HV.out]
  rintro e w3 ⟨rfl, k3⟩
  have h3 := sstep h2 k3
  go_wp2_with fail
  refine (toOfficeS_any _ _ _ _ _ _ (HL.out.on h3) hn HLN.out).mono ?_
  rintro e w4 ⟨b4, rfl, g4, o4, k4⟩
  have h4 := sstep h3 k4
  have N4 := Lib.hid (o4.nts (Nat.le_refl _))
  go_wp2_with fail
  refine (impl_HomeOf _ _ _ _ _ _ N4.out HF.out hn a1 a2 HC1.out HC2.out).mono ?_
  rw [HV.out]
  rintro e w5 ⟨rfl, k5⟩
  have h5 := sstep h4 k5
  have l5 := Lib.hid (N4.out.on k5)
  go_wp2_with fail
  refine (toOfficeS_any _ _ _ _ _ _ (HL.out.on h5) hn HLN.out).mono ?_
  rintro e w6 ⟨b6, rfl, g6, o6, k6⟩
  have h6 := sstep h5 k6
  have N6 := Lib.hid (o6.nts (Nat.le_refl _))
  go_wp2_with fail
  refine (eqOfficeS_same _ _ _ _ _ _ _ _ (l5.out.on k6) N6.out hn HLN.out).mono ?_
  rintro e w7 ⟨rfl, k7⟩
  have h7 := sstep h6 k7
  go_wp2
  go_ret
  exact ⟨rfl, h7⟩

set_option maxRecDepth 100000 in
theorem lifted (os : Os) (started : os.Started) (H : Type) (enc : TypeId × Value → H) :
    ReturnsInHanded {} Try.checked os 10 .any (Rows.fnExactHomeOfSpec.pre6 enc Try.prog Try.f10 Rows.fnExactHomeOfRow.domain false) (Rows.fnExactHomeOfSpec.post enc Try.prog Try.f10 false true false false) := by
  refine returnsInHanded_of_change (C := Try.checked) own started (by kernel_rfl) Try.func10
    (ChangeSpec.witness6 (enc := enc) (C := Try.checked) false ⟨#[], #[.slice none 0 0, .string ByteArray.empty, .string ByteArray.empty], []⟩ 8 (by kernel_rfl) (by kernel_rfl) (by kernel_rfl) (by kernel_rfl)) ?_
  intro W base args ds gs before hval0 hW hcnd _
  have hval : ∀ (j : Nat) t v, Try.f10.params[j]? = some t → args[j]? = some v → Value.okWide Try.prog W .any base t v := hval0
  have hW' := hW
  obtain ⟨p, q, hA0, hV, rfl, hfz, hnd⟩ := hW
  have hA : DataW.TrodAll enc Try.prog W 0 (fun _ => true) true Try.f10.params.toList args.toList ds p := hA0
  rw [Try.params10] at hA hval
  obtain ⟨v0, vs0, d0, ds0, p0, q0, hargs, rfl, rfl, h0, r0⟩ := trodAll_cons hA
  obtain ⟨v1, vs1, d1, ds1, p1, q1, rfl, rfl, rfl, h1, r1⟩ := trodAll_cons r0
  obtain ⟨v2, vs2, d2, ds2, p2, q2, rfl, rfl, rfl, h2, r2⟩ := trodAll_cons r1
  obtain ⟨rfl, rfl, rfl⟩ := trodAll_nil r2
  obtain rfl : args = #[v0, v1, v2] := by cases args; simp_all
  obtain ⟨rfl, rfl⟩ := trodVars_none hV
  have g0 := h0
  have lt0 : ∀ x ∈ p0, x.block < W.heap.size := by obtain ⟨m, hm⟩ := g0; exact DataW.trod_lt m _ _ _ hm
  have g1 := h1
  have lt1 : ∀ x ∈ p1, x.block < W.heap.size := by obtain ⟨m, hm⟩ := g1; exact DataW.trod_lt m _ _ _ hm
  have g2 := h2
  have lt2 : ∀ x ∈ p2, x.block < W.heap.size := by obtain ⟨m, hm⟩ := g2; exact DataW.trod_lt m _ _ _ hm
  obtain ⟨a0, n0, k0, rfl⟩ := okWide_slice Try.underlying38 (hval 0 38 v0 rfl rfl)
  obtain ⟨NM0, RL0, w0, f0, z0⟩ : ∃ NM RL, Nts W a0 n0 NM RL ∧ NFits n0 NM RL ∧ n0 ≤ maxLen := by
    obtain ⟨fuel, hf⟩ := h0
    exact open_offices hf
  obtain ⟨a1, rfl, _, _, w1⟩ := open_string Try.underlying9 (hval 1 9 v1 rfl rfl) h1
  obtain ⟨a2, rfl, _, _, w2⟩ := open_string Try.underlying9 (hval 2 9 v2 rfl rfl) h2
  clear hA0 hval0
  refine (walk W a0 n0 k0 NM0 RL0 w0 f0 z0 a1 w1 a2 w2).mono fun e W' ⟨he, bel⟩ => ?_
  subst he
  exact ⟨_, rfl, _, _, _, [], _, [], hW', trodAll_mk1 (shut_bool Try.underlying4 _), (trodAll_cons_mk (Below.trod laidOut (by kernel_rfl) (of_decide_eq_true (by kernel_rfl)) g0 bel lt0) (trodAll_cons_mk (Below.trod laidOut (by kernel_rfl) (of_decide_eq_true (by kernel_rfl)) g1 bel lt1) (trodAll_cons_mk (Below.trod laidOut (by kernel_rfl) (of_decide_eq_true (by kernel_rfl)) g2 bel lt2) trodAll_mk0))), rfl, bel.frame _, fun h => by cases h⟩

theorem proved : Rows.FnExactHomeOfSaid :=
  OpenClaim.holds_of_wide 10 Try.f10 rfl rfl rfl rfl rfl rfl rfl ⟨rfl, rfl, rfl, rfl, rfl⟩ rfl rfl rfl rfl rfl (by kernel_rfl) Try.func10 (by kernel_rfl)
    (of_decide_eq_true (by kernel_rfl)) (by unfold Func.isWrapper; first | (rw [if_pos (by decide +kernel)]; kernel_rfl) | (rw [if_neg (by decide +kernel)]; exact ⟨rfl, rfl⟩))
    (fun os started H enc _ => lifted os started H enc)
#print axioms proved
end Go.Proofs.Ytiecniogkcgefaa.fnExactHomeOf
