/-
  For every slice of slices of letters, laws.FnExactFormatTrays returns true: the program's FormatTrays answers as the model of the document does. No condition.
-/
import Derived.Test.YtgcldnijannmgaaDoorCards
import Derived.Test.YtgcldnijannmgaaDoorTryText
import Derived.Test.YtgcldnijannmgaaDoorSSOpen
import Derived.Test.YtgcldnijannmgaaDoorShaped
import Derived.Lay
import Derived.Test.YtgcldnijannmgaaDoorLaidIT
import Derived.Test.YtgcldnijannmgaaDoorVars
import Derived.Test.YtgcldnijannmgaaDoorTie
import Derived.LaidMore
import Derived.Stop.Joined
import Derived.SevenTiedAt
import Derived.WalkKit
import Derived.ProofKit
import Derived.OpenShut
import Derived.ShutString
import Derived.ChangeOld
import Derived.Below
import Derived.Handy
import Derived.Lib.Hide
namespace Go.Proofs.YtgcldnijannmgaaDoor.fnExactFormatTrays
open Go.ChangeShapes Go.WideShapes Go.ChangeAt Go.RowKit
open Go.ChangeMaps (open_string shut_string)
open Go.PlainAid (bt get_bt bt_nonneg bt_le)
set_option linter.unusedVariables false

theorem own : ownKnob Tryd.prog.godebug = none := by kernel_rfl
theorem laidOut : laidOutB Tryd.prog = true := by kernel_rfl

set_option maxHeartbeats 4000000 in
set_option maxRecDepth 100000 in
theorem walk (w : World) (a0 : Option Addr) (n0 k0 : Nat) (MM0 : Nat → List (Int × ByteArray)) (w0 : Lss w a0 n0 MM0) (z0 : n0 ≤ maxLen) (hL : Laid.pows w) :
    Calls Tryd.prog 7 #[.slice a0 n0 k0] w fun e w' => e = .returned (.bool true) ∧ Below w.heap.size w w' := by
  have HL := Lib.hid w0
  clear w0
  have HP := Lib.hid hL
  clear hL
  go_enter Tryd.func7, Tryd.ntmps7
  go_wp2_with fail
  refine (szLetterSS_any _ a0 n0 k0 MM0 HL.out z0 _ (by omega) (by omega)).mono ?_
  rintro e w1 ⟨r, rfl, hr, hr1, hb1⟩
  by_cases hneg : r < 0
  · go_wp2
    go_ret
    exact ⟨rfl, hb1⟩
  have HZ := Lib.hid (HL.out.sz (by have := (hr (by omega)).1; omega) (by have := (hr (by omega)).2; omega))
  have hn : n0 ≤ 1048576 := HZ.out.1
  have HO := Lib.hid (fun i (hi : i < n0) => (HZ.out.one hi).1)
  have ht : tot MM0 n0 ≤ 1048576 := by rw [← tot_flat]; exact HZ.out.2.1
  clear hr hr1 z0
  have BL := Lib.hid hb1
  have z1 := BL.out.size
  obtain ⟨tv, hv⟩ : ∃ tv, M.tryText n0 MM0 = tv := ⟨_, rfl⟩
  have HV := Lib.hid hv
  clear hv
  go_wp2_with fail
  refine (toLetterSS_any _ a0 n0 k0 MM0 (HL.out.on BL.out) hn HO.out).mono ?_
  rintro e w2 ⟨b_ms, V_ms, rfl, q_ms, k2⟩
  have z2 := k2.size
  replace BL := Lib.hid (step BL.out k2)
  have ms := Lib.hid q_ms
  have lo_ms : Hid (∀ k, (inM (.slice (some ⟨b_ms, 0, none⟩) n0 n0) n0 V_ms k) → w1.heap.size ≤ k ∧ k < w2.heap.size) := fun k hk => ms.out.lt hk
  clear k2
  go_wp2_with fail
  refine (spec_FormatTrays _ _ _ n0 _ MM0 ms.out HZ.out).mono ?_
  rw [HV.out]
  rintro e w3 ⟨rfl, k3⟩
  have z3 := k3.size
  replace BL := Lib.hid (step BL.out k3)
  replace ms := Lib.hid (ms.out.on k3)
  clear k3
  clear ms lo_ms
  go_wp2_with fail
  refine (toLetterSS_any _ a0 n0 k0 MM0 (HL.out.on BL.out) hn HO.out).mono ?_
  rintro e w4 ⟨b_m0, V_m0, rfl, q_m0, k4⟩
  have z4 := k4.size
  replace BL := Lib.hid (step BL.out k4)
  have m0 := Lib.hid q_m0
  have lo_m0 : Hid (∀ k, (inM (.slice (some ⟨b_m0, 0, none⟩) n0 n0) n0 V_m0 k) → w3.heap.size ≤ k ∧ k < w4.heap.size) := fun k hk => m0.out.lt hk
  clear k4
  go_wp2_with fail
  refine (impl_FormatTrays _ _ _ n0 _ MM0 (PowT.below HP.out BL.out) m0.out HZ.out).mono ?_
  rw [HV.out]
  rintro e w5 ⟨rfl, k5⟩
  have z5 := k5.size
  replace BL := Lib.hid (step BL.out k5)
  replace m0 := Lib.hid (m0.out.on k5)
  clear k5
  go_wp2_with fail
  refine (toLetterSS_any _ a0 n0 k0 MM0 (HL.out.on BL.out) hn HO.out).mono ?_
  rintro e w6 ⟨b_cm0, V_cm0, rfl, q_cm0, k6⟩
  have z6 := k6.size
  replace BL := Lib.hid (step BL.out k6)
  replace m0 := Lib.hid (m0.out.on k6)
  have cm0 := Lib.hid q_cm0
  have lo_cm0 : Hid (∀ k, (inM (.slice (some ⟨b_cm0, 0, none⟩) n0 n0) n0 V_cm0 k) → w5.heap.size ≤ k ∧ k < w6.heap.size) := fun k hk => cm0.out.lt hk
  clear k6
  go_wp2_with fail
  refine (eqLetterSS_mat _ _ _ n0 _ _ _ _ MM0 m0.out cm0.out hn HO.out).mono ?_
  rintro e w7 ⟨rfl, k7⟩
  have z7 := k7.size
  replace BL := Lib.hid (step BL.out k7)
  replace m0 := Lib.hid (m0.out.on k7)
  replace cm0 := Lib.hid (cm0.out.on k7)
  clear k7
  clear cm0 lo_cm0
  go_wp2
  go_ret
  exact ⟨rfl, BL.out⟩

set_option maxRecDepth 100000 in
theorem lifted (os : Os) (started : os.Started) (H : Type) (enc : TypeId × Value → H) :
    ReturnsInHanded {} Tryd.checked os 7 .any (fun w args => (Rows.fnExactFormatTraysSpec.pre enc Tryd.prog Tryd.f7 [] false w args ∧ laidMetH Tryd.prog Rows.fnExactFormatTraysRow.laid w) ∧ sizedMet enc Tryd.prog Tryd.f7 (OpenSpec.ofChange Rows.fnExactFormatTraysSpec) false w args)
      (Rows.fnExactFormatTraysSpec.post enc Tryd.prog Tryd.f7 false true false false) := by
  refine returns_listed (C := Tryd.checked) (X := fun w _ => laidMetH Tryd.prog Rows.fnExactFormatTraysRow.laid w) (fun _ _ _ hh h => h.of_heap hh) own started (by kernel_rfl) Tryd.func7
    (ChangeSpec.witness_shaped (enc := enc) (C := Tryd.checked) (os := os) (X := fun w _ => laidMetH Tryd.prog Rows.fnExactFormatTraysRow.laid w) false (World.laidAll Tryd.prog os Rows.fnExactFormatTraysRow.laid) #[.slice none 0 0] 8 (World.laidAll_os _ _ _) (World.shaped_of_ZipB (by kernel_rfl) (by kernel_rfl)) (by kernel_rfl) (by kernel_rfl) (by kernel_rfl) (Laid.door_pows os _)) ?_
  intro W base args ds gs before hval0 hW hL hsh
  have hval : ∀ (j : Nat) t v, Tryd.f7.params[j]? = some t → args[j]? = some v → Value.okWide Tryd.prog W .any base t v := hval0
  have hW' := hW
  obtain ⟨p, q, hA0, hV, rfl, hfz, hnd⟩ := hW
  have hA : DataW.TrodAll enc Tryd.prog W 0 (fun _ => true) true Tryd.f7.params.toList args.toList ds p := hA0
  rw [Tryd.params7] at hA hval
  obtain ⟨v0, vs0, d0, ds0, p0, q0, hargs, rfl, rfl, h0, r0⟩ := trodAll_cons hA
  obtain ⟨rfl, rfl, rfl⟩ := trodAll_nil r0
  obtain rfl : args = #[v0] := by cases args; simp_all
  obtain ⟨rfl, rfl⟩ := trodVars_none hV
  have g0 := h0
  have lt0 : ∀ x ∈ p0, x.block < W.heap.size := by obtain ⟨m, hm⟩ := g0; exact DataW.trod_lt m _ _ _ hm
  obtain ⟨a0, n0, k0, rfl⟩ := okWide_slice Tryd.underlying45 (hval 0 45 v0 rfl rfl)
  obtain ⟨MM0, w0, z0⟩ : ∃ MM, Lss W a0 n0 MM ∧ n0 ≤ maxLen := by
    obtain ⟨fuel, hf⟩ := h0
    exact open_trays hf
  clear hA0 hval0
  refine (walk W a0 n0 k0 MM0 w0 z0 (Laid.of_pows hL hsh)).mono fun e W' ⟨he, bel⟩ => ?_
  subst he
  exact ⟨_, rfl, _, _, _, [], _, [], hW', trodAll_mk1 (shut_bool Tryd.underlying4 _), (trodAll_cons_mk (Below.trod laidOut (by kernel_rfl) (of_decide_eq_true (by kernel_rfl)) g0 bel lt0) trodAll_mk0), rfl, bel.frame _, fun h => by cases h⟩

theorem row_holds : Rows.FnExactFormatTraysSaid :=
  OpenClaim.holds_of_wide 7 Tryd.f7 rfl rfl rfl rfl rfl rfl rfl ⟨rfl, rfl, rfl, rfl, rfl⟩ rfl rfl rfl rfl rfl (by kernel_rfl) Tryd.func7 (by kernel_rfl)
    (of_decide_eq_true (by kernel_rfl)) (by unfold Func.isWrapper; first | (rw [if_pos (by decide +kernel)]; kernel_rfl) | (rw [if_neg (by decide +kernel)]; exact ⟨rfl, rfl⟩))
    (fun os started H enc _ => lifted os started H enc)

theorem proved : Rows.FnExactFormatTraysCardSaid :=
  Claim7.holds_tied_plain_at .later [] [.data, .data, .data] true Rows.fnExactFormatTraysCard.stood.harness true
    row_holds (fun _ h => by cases h) (by kernel_rfl) (fun _ h => by cases h) fnExactFormatTrays_row_tie rfl ⟨rfl, rfl⟩ (by kernel_rfl) rfl
    (fun f fn hf hfn => by
      obtain rfl : f = 7 := Option.some.inj ((show Tryd.prog.funcNamed Rows.fnExactFormatTraysRow.func = some 7 by kernel_rfl).symm.trans hf) |>.symm
      obtain rfl : fn = Tryd.f7 := (Option.some.inj (Tryd.func7.symm.trans hfn)).symm
      exact ⟨by kernel_rfl, fun j t ht => by
        rw [Tryd.params7] at ht
        have hm : t ∈ [45] := by simpa using Array.mem_of_getElem? ht
        have hall : ([45].all fun u => !Tryd.prog.wantsStandIn u) = true := by kernel_rfl
        exact (show Tryd.prog.wantsStandIn t = false by simpa using List.all_eq_true.1 hall t hm)⟩)
    (by kernel_rfl)
#print axioms proved
end Go.Proofs.YtgcldnijannmgaaDoor.fnExactFormatTrays
