/-
  For every list of offices, every string and every slice of letters, laws.FnExactTransitCount returns true: the program's TransitCount answers as the model of the document does. No condition.
-/
import Derived.Test.YtiecniogkcgefaaRows
import Derived.Test.YtiecniogkcgefaaTransit
import Derived.Test.YtiecniogkcgefaaLetOpen
import Derived.WalkKit
import Derived.ProofKit
import Derived.OpenShut
import Derived.ShutString
import Derived.ChangeOld
import Derived.Below
import Derived.Handy
import Derived.Lib.Hide
namespace Go.Proofs.Ytiecniogkcgefaa.fnExactTransitCount
open Go.ChangeShapes Go.WideShapes Go.ChangeAt Go.RowKit
open Go.ChangeMaps (open_string shut_string)
open Go.PlainAid (bt get_bt bt_nonneg bt_le)
set_option linter.unusedVariables false

theorem own : ownKnob Try.prog.godebug = none := by kernel_rfl
theorem laidOut : laidOutB Try.prog = true := by kernel_rfl

set_option maxHeartbeats 3000000 in
set_option maxRecDepth 100000 in
theorem walk (w : World) (a0 : Option Addr) (n0 k0 : Nat) (NM0 : Nat → ByteArray) (RL0 : Nat → List (ByteArray × ByteArray)) (w0 : Nts w a0 n0 NM0 RL0) (f0 : NFits n0 NM0 RL0) (z0 : n0 ≤ maxLen) (a1 : ByteArray) (w1 : a1.size ≤ maxLen) (a2 : Option Addr) (n2 k2 : Nat) (I2 : Nat → Int) (C2 : Nat → ByteArray) (w2 : Lts w a2 n2 I2 C2) (f2 : Fits n2 I2 C2) (z2 : n2 ≤ maxLen) :
    Calls Try.prog 11 #[.slice a0 n0 k0, .string a1, .slice a2 n2 k2] w fun e w' => e = .returned (.bool true) ∧ Below w.heap.size w w' := by
  have HL := Lib.hid w0
  have HF := Lib.hid f0
  clear w0 f0
  have HC1 := Lib.hid w1
  have HS2 := Lib.hid w2
  have HF2 := Lib.hid f2
  have ZS : n2 ≤ maxLen := z2
  clear w1 w2 f2 z2
  by_cases hl1 : 1048576 < a1.size
  · go_enter Try.func11, Try.ntmps11
    go_wp2
    go_ret
    exact ⟨rfl, Below.refl _ _⟩
  go_enter Try.func11, Try.ntmps11
  go_wp2_with fail
  refine (szOfficeS_any _ _ _ _ _ _ HL.out HF.out z0 _ (by omega) (by omega)).mono ?_
  rintro e w1 ⟨r, rfl, hr, hr1, hb1⟩
  by_cases hneg : r < 0
  · go_wp2
    go_ret
    exact ⟨rfl, hb1⟩
  have hn : n0 ≤ 1048576 := by omega
  have htot : totR RL0 n0 ≤ 1048576 := by omega
  have HLN : Hid (∀ i, i < n0 → (RL0 i).length ≤ 1048576) := fun i hi => Nat.le_trans (totR_le RL0 hi) htot
  clear hr htot z0
  go_wp2_with fail
  refine (szLetterS_any _ a2 n2 k2 I2 C2 (HS2.out.on hb1) HF2.out ZS _ (by omega) (by omega)).mono ?_
  rintro e w1 ⟨r2, rfl, hr2, hr3, hbz⟩
  replace hb1 := sstep hb1 hbz
  by_cases hneg2 : r2 < 0
  · go_wp2
    go_ret
    exact ⟨rfl, hb1⟩
  have hn2 : n2 ≤ 1048576 := by omega
  clear hr1 hr2 hr3 ZS hbz
  obtain ⟨tv, htv⟩ : ∃ tv, M.trans n0 NM0 RL0 a1 n2 I2 C2 = tv := ⟨_, rfl⟩
  have HTV := Lib.hid htv
  clear htv
  go_wp2_with fail
  refine (toOfficeS_any _ _ _ _ _ _ (HL.out.on hb1) hn HLN.out).mono ?_
  rintro e w2 ⟨b2, rfl, g2, o2, k2⟩
  have h2 := sstep hb1 k2
  have N2 := Lib.hid (o2.nts (Nat.le_refl _))
  go_wp2_with fail
  refine (toLetterS_any _ _ _ _ _ _ (HS2.out.on h2) hn2).mono ?_
  rintro e w3 ⟨b3, rfl, g3, o3, k3⟩
  have h3 := sstep h2 k3
  have N3 := Lib.hid o3.lts
  go_wp2_with fail
  refine (spec_TransitCount _ _ _ _ _ _ (N2.out.on k3) HF.out hn HLN.out a1 _ _ _ _ _ N3.out HF2.out hn2).mono ?_
  rw [HTV.out]
  rintro e w4 ⟨rfl, k4⟩
  have h4 := sstep h3 k4
  go_wp2_with fail
  refine (toOfficeS_any _ _ _ _ _ _ (HL.out.on h4) hn HLN.out).mono ?_
  rintro e w5 ⟨b5, rfl, g5, o5, k5⟩
  have h5 := sstep h4 k5
  have N5 := Lib.hid (o5.nts (Nat.le_refl _))
  go_wp2_with fail
  refine (toLetterS_any _ _ _ _ _ _ (HS2.out.on h5) hn2).mono ?_
  rintro e w6 ⟨b6, rfl, g6, o6, k6⟩
  have h6 := sstep h5 k6
  have N6 := Lib.hid o6.lts
  go_wp2_with fail
  refine (impl_TransitCount _ _ _ _ _ _ (N5.out.on k6) HF.out hn a1 HC1.out _ _ _ _ _ N6.out HF2.out hn2).mono ?_
  rw [HTV.out]
  rintro e w7 ⟨rfl, k7⟩
  have h7 := sstep h6 k7
  have l5 := Lib.hid ((N5.out.on k6).on k7)
  have l6 := Lib.hid (N6.out.on k7)
  go_wp2_with fail
  refine (toOfficeS_any _ _ _ _ _ _ (HL.out.on h7) hn HLN.out).mono ?_
  rintro e w8 ⟨b8, rfl, g8, o8, k8⟩
  have h8 := sstep h7 k8
  have N8 := Lib.hid (o8.nts (Nat.le_refl _))
  go_wp2_with fail
  refine (eqOfficeS_same _ _ _ _ _ _ _ _ (l5.out.on k8) N8.out hn HLN.out).mono ?_
  rintro e w9 ⟨rfl, k9⟩
  have h9 := sstep h8 k9
  have m6 := Lib.hid ((l6.out.on k8).on k9)
  go_wp2_with fail
  refine (toLetterS_any _ _ _ _ _ _ (HS2.out.on h9) hn2).mono ?_
  rintro e w10 ⟨b10, rfl, g10, o10, k10⟩
  have h10 := sstep h9 k10
  have N10 := Lib.hid o10.lts
  go_wp2_with fail
  refine (eqLetterS_same _ _ _ _ _ _ _ _ (m6.out.on k10) N10.out hn2).mono ?_
  rintro e w11 ⟨rfl, k11⟩
  have h11 := sstep h10 k11
  go_wp2
  go_ret
  exact ⟨rfl, h11⟩

set_option maxRecDepth 100000 in
theorem lifted (os : Os) (started : os.Started) (H : Type) (enc : TypeId × Value → H) :
    ReturnsInHanded {} Try.checked os 11 .any (Rows.fnExactTransitCountSpec.pre6 enc Try.prog Try.f11 Rows.fnExactTransitCountRow.domain false) (Rows.fnExactTransitCountSpec.post enc Try.prog Try.f11 false true false false) := by
  refine returnsInHanded_of_change (C := Try.checked) own started (by kernel_rfl) Try.func11
    (ChangeSpec.witness6 (enc := enc) (C := Try.checked) false ⟨#[], #[.slice none 0 0, .string ByteArray.empty, .slice none 0 0], []⟩ 8 (by kernel_rfl) (by kernel_rfl) (by kernel_rfl) (by kernel_rfl)) ?_
  intro W base args ds gs before hval0 hW hcnd _
  have hval : ∀ (j : Nat) t v, Try.f11.params[j]? = some t → args[j]? = some v → Value.okWide Try.prog W .any base t v := hval0
  have hW' := hW
  obtain ⟨p, q, hA0, hV, rfl, hfz, hnd⟩ := hW
  have hA : DataW.TrodAll enc Try.prog W 0 (fun _ => true) true Try.f11.params.toList args.toList ds p := hA0
  rw [Try.params11] at hA hval
  obtain ⟨v0, vs0, d0, ds0, p0, q0, hargs, rfl, rfl, h0, r0⟩ := trodAll_cons hA
  obtain ⟨v1, vs1, d1, ds1, p1, q1, rfl, rfl, rfl, h1, r1⟩ := trodAll_cons r0
  obtain ⟨v2, vs2, d2, ds2, p2, q2, rfl, rfl, rfl, h2, r2⟩ := trodAll_cons r1
  obtain ⟨rfl, rfl, rfl⟩ := trodAll_nil r2
  obtain rfl : args = #[v0, v1, v2] := by cases args; simp_all
  obtain ⟨rfl, rfl⟩ := trodVars_none hV
  have g0 := h0
  have lt0 : ∀ x ∈ p0, x.block < W.heap.size := by obtain ⟨m, hm⟩ := g0; exact DataW.trod_lt m _ _ _ hm
  have g1 := h1
  have lt1 : ∀ x ∈ p1, x.block < W.heap.size := by obtain ⟨m, hm⟩ := g1; exact DataW.trod_lt m _ _ _ hm
  have g2 := h2
  have lt2 : ∀ x ∈ p2, x.block < W.heap.size := by obtain ⟨m, hm⟩ := g2; exact DataW.trod_lt m _ _ _ hm
  obtain ⟨a0, n0, k0, rfl⟩ := okWide_slice Try.underlying38 (hval 0 38 v0 rfl rfl)
  obtain ⟨NM0, RL0, w0, f0, z0⟩ : ∃ NM RL, Nts W a0 n0 NM RL ∧ NFits n0 NM RL ∧ n0 ≤ maxLen := by
    obtain ⟨fuel, hf⟩ := h0
    exact open_offices hf
  obtain ⟨a1, rfl, _, _, w1⟩ := open_string Try.underlying9 (hval 1 9 v1 rfl rfl) h1
  obtain ⟨a2, n2, k2, rfl⟩ := okWide_slice Try.underlying53 (hval 2 53 v2 rfl rfl)
  obtain ⟨I2, C2, w2, f2, z2⟩ : ∃ I C, Lts W a2 n2 I C ∧ Fits n2 I C ∧ n2 ≤ maxLen := by
    obtain ⟨fuel, hf⟩ := h2
    exact open_letters hf
  clear hA0 hval0
  refine (walk W a0 n0 k0 NM0 RL0 w0 f0 z0 a1 w1 a2 n2 k2 I2 C2 w2 f2 z2).mono fun e W' ⟨he, bel⟩ => ?_
  subst he
  exact ⟨_, rfl, _, _, _, [], _, [], hW', trodAll_mk1 (shut_bool Try.underlying4 _), (trodAll_cons_mk (Below.trod laidOut (by kernel_rfl) (of_decide_eq_true (by kernel_rfl)) g0 bel lt0) (trodAll_cons_mk (Below.trod laidOut (by kernel_rfl) (of_decide_eq_true (by kernel_rfl)) g1 bel lt1) (trodAll_cons_mk (Below.trod laidOut (by kernel_rfl) (of_decide_eq_true (by kernel_rfl)) g2 bel lt2) trodAll_mk0))), rfl, bel.frame _, fun h => by cases h⟩

theorem proved : Rows.FnExactTransitCountSaid :=
  OpenClaim.holds_of_wide 11 Try.f11 rfl rfl rfl rfl rfl rfl rfl ⟨rfl, rfl, rfl, rfl, rfl⟩ rfl rfl rfl rfl rfl (by kernel_rfl) Try.func11 (by kernel_rfl)
    (of_decide_eq_true (by kernel_rfl)) (by unfold Func.isWrapper; first | (rw [if_pos (by decide +kernel)]; kernel_rfl) | (rw [if_neg (by decide +kernel)]; exact ⟨rfl, rfl⟩))
    (fun os started H enc _ => lifted os started H enc)
#print axioms proved
end Go.Proofs.Ytiecniogkcgefaa.fnExactTransitCount
