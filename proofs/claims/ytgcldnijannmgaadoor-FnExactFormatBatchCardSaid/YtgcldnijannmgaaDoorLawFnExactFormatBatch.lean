/-
  For every slice of letters, laws.FnExactFormatBatch returns true: the program's FormatBatch answers as the model of the document does. No condition.
-/
import Derived.Test.YtgcldnijannmgaaDoorCards
import Derived.Test.YtgcldnijannmgaaDoorBatText
import Derived.Test.YtgcldnijannmgaaDoorLetOpen
import Derived.Test.YtgcldnijannmgaaDoorShaped
import Derived.Lay
import Derived.Test.YtgcldnijannmgaaDoorLaidIB
import Derived.Test.YtgcldnijannmgaaDoorVars
import Derived.Test.YtgcldnijannmgaaDoorTie
import Derived.LaidMore
import Derived.Stop.Joined
import Derived.SevenTiedAt
import Derived.WalkKit
import Derived.ProofKit
import Derived.OpenShut
import Derived.ShutString
import Derived.ChangeOld
import Derived.Below
import Derived.Handy
import Derived.Lib.Hide
namespace Go.Proofs.YtgcldnijannmgaaDoor.fnExactFormatBatch
open Go.ChangeShapes Go.WideShapes Go.ChangeAt Go.RowKit
open Go.ChangeMaps (open_string shut_string)
open Go.PlainAid (bt get_bt bt_nonneg bt_le)
set_option linter.unusedVariables false

theorem own : ownKnob Tryd.prog.godebug = none := by kernel_rfl
theorem laidOut : laidOutB Tryd.prog = true := by kernel_rfl

set_option maxHeartbeats 2000000 in
set_option maxRecDepth 100000 in
theorem walk (w : World) (a0 : Option Addr) (n0 k0 : Nat) (I0 : Nat → Int) (C0 : Nat → ByteArray) (w0 : Lts w a0 n0 I0 C0) (f0 : Fits n0 I0 C0) (z0 : n0 ≤ maxLen) (hL : Laid.pows w) :
    Calls Tryd.prog 3 #[.slice a0 n0 k0] w fun e w' => e = .returned (.bool true) ∧ Below w.heap.size w w' := by
  have HL := Lib.hid w0
  have HF := Lib.hid f0
  have HP := Lib.hid hL
  clear w0 f0 hL
  go_enter Tryd.func3, Tryd.ntmps3
  go_wp2_with fail
  refine (szLetterS_any _ _ _ _ _ _ HL.out HF.out z0 _ (by omega) (by omega)).mono ?_
  rintro e w1 ⟨r, rfl, hr, hr1, hb1⟩
  by_cases hneg : r < 0
  · go_wp2
    go_ret
    exact ⟨rfl, hb1⟩
  have hn : n0 ≤ 1048576 := by omega
  clear hr hr1 z0
  obtain ⟨tv, hv⟩ : ∃ tv, M.batText n0 I0 C0 = tv := ⟨_, rfl⟩
  have HV := Lib.hid hv
  clear hv
  go_wp2_with fail
  refine (toLetterS_any _ _ _ _ _ _ (HL.out.on hb1) hn).mono ?_
  rintro e w2 ⟨b2, rfl, g2, o2, k2⟩
  have h2 := step hb1 k2
  go_wp2_with fail
  refine (spec_FormatBatch _ _ _ _ _ _ o2.lts HF.out hn).mono ?_
  rw [HV.out]
  rintro e w3 ⟨rfl, k3⟩
  have h3 := step h2 k3
  go_wp2_with fail
  refine (toLetterS_any _ _ _ _ _ _ (HL.out.on h3) hn).mono ?_
  rintro e w4 ⟨b4, rfl, g4, o4, k4⟩
  have h4 := step h3 k4
  go_wp2_with fail
  refine (impl_FormatBatch _ _ _ _ _ _ (PowT.below HP.out h4) o4.lts HF.out).mono ?_
  rw [HV.out]
  rintro e w5 ⟨rfl, k5⟩
  have h5 := step h4 k5
  have l5 := o4.lts.on k5
  go_wp2_with fail
  refine (toLetterS_any _ _ _ _ _ _ (HL.out.on h5) hn).mono ?_
  rintro e w6 ⟨b6, rfl, g6, o6, k6⟩
  have h6 := step h5 k6
  go_wp2_with fail
  refine (eqLetterS_same _ _ _ _ _ _ _ _ (l5.on k6) o6.lts hn).mono ?_
  rintro e w7 ⟨rfl, k7⟩
  have h7 := step h6 k7
  go_wp2
  go_ret
  exact ⟨rfl, h7⟩

set_option maxRecDepth 100000 in
theorem lifted (os : Os) (started : os.Started) (H : Type) (enc : TypeId × Value → H) :
    ReturnsInHanded {} Tryd.checked os 3 .any (fun w args => (Rows.fnExactFormatBatchSpec.pre enc Tryd.prog Tryd.f3 [] false w args ∧ laidMetH Tryd.prog Rows.fnExactFormatBatchRow.laid w) ∧ sizedMet enc Tryd.prog Tryd.f3 (OpenSpec.ofChange Rows.fnExactFormatBatchSpec) false w args)
      (Rows.fnExactFormatBatchSpec.post enc Tryd.prog Tryd.f3 false true false false) := by
  refine returns_listed (C := Tryd.checked) (X := fun w _ => laidMetH Tryd.prog Rows.fnExactFormatBatchRow.laid w) (fun _ _ _ hh h => h.of_heap hh) own started (by kernel_rfl) Tryd.func3
    (ChangeSpec.witness_shaped (enc := enc) (C := Tryd.checked) (os := os) (X := fun w _ => laidMetH Tryd.prog Rows.fnExactFormatBatchRow.laid w) false (World.laidAll Tryd.prog os Rows.fnExactFormatBatchRow.laid) #[.slice none 0 0] 8 (World.laidAll_os _ _ _) (World.shaped_of_ZipB (by kernel_rfl) (by kernel_rfl)) (by kernel_rfl) (by kernel_rfl) (by kernel_rfl) (Laid.door_pows os _)) ?_
  intro W base args ds gs before hval0 hW hL hsh
  have hval : ∀ (j : Nat) t v, Tryd.f3.params[j]? = some t → args[j]? = some v → Value.okWide Tryd.prog W .any base t v := hval0
  have hW' := hW
  obtain ⟨p, q, hA0, hV, rfl, hfz, hnd⟩ := hW
  have hA : DataW.TrodAll enc Tryd.prog W 0 (fun _ => true) true Tryd.f3.params.toList args.toList ds p := hA0
  rw [Tryd.params3] at hA hval
  obtain ⟨v0, vs0, d0, ds0, p0, q0, hargs, rfl, rfl, h0, r0⟩ := trodAll_cons hA
  obtain ⟨rfl, rfl, rfl⟩ := trodAll_nil r0
  obtain rfl : args = #[v0] := by cases args; simp_all
  obtain ⟨rfl, rfl⟩ := trodVars_none hV
  have g0 := h0
  have lt0 : ∀ x ∈ p0, x.block < W.heap.size := by obtain ⟨m, hm⟩ := g0; exact DataW.trod_lt m _ _ _ hm
  obtain ⟨a0, n0, k0, rfl⟩ := okWide_slice Tryd.underlying22 (hval 0 22 v0 rfl rfl)
  obtain ⟨I0, C0, w0, f0, z0⟩ : ∃ I C, Lts W a0 n0 I C ∧ Fits n0 I C ∧ n0 ≤ maxLen := by
    obtain ⟨fuel, hf⟩ := h0
    exact open_letters hf
  clear hA0 hval0
  refine (walk W a0 n0 k0 I0 C0 w0 f0 z0 (Laid.of_pows hL hsh)).mono fun e W' ⟨he, bel⟩ => ?_
  subst he
  exact ⟨_, rfl, _, _, _, [], _, [], hW', trodAll_mk1 (shut_bool Tryd.underlying4 _), (trodAll_cons_mk (Below.trod laidOut (by kernel_rfl) (of_decide_eq_true (by kernel_rfl)) g0 bel lt0) trodAll_mk0), rfl, bel.frame _, fun h => by cases h⟩

theorem row_holds : Rows.FnExactFormatBatchSaid :=
  OpenClaim.holds_of_wide 3 Tryd.f3 rfl rfl rfl rfl rfl rfl rfl ⟨rfl, rfl, rfl, rfl, rfl⟩ rfl rfl rfl rfl rfl (by kernel_rfl) Tryd.func3 (by kernel_rfl)
    (of_decide_eq_true (by kernel_rfl)) (by unfold Func.isWrapper; first | (rw [if_pos (by decide +kernel)]; kernel_rfl) | (rw [if_neg (by decide +kernel)]; exact ⟨rfl, rfl⟩))
    (fun os started H enc _ => lifted os started H enc)

theorem proved : Rows.FnExactFormatBatchCardSaid :=
  Claim7.holds_tied_plain_at .later [] [.data, .data, .data] true Rows.fnExactFormatBatchCard.stood.harness true
    row_holds (fun _ h => by cases h) (by kernel_rfl) (fun _ h => by cases h) fnExactFormatBatch_row_tie rfl ⟨rfl, rfl⟩ (by kernel_rfl) rfl
    (fun f fn hf hfn => by
      obtain rfl : f = 3 := Option.some.inj ((show Tryd.prog.funcNamed Rows.fnExactFormatBatchRow.func = some 3 by kernel_rfl).symm.trans hf) |>.symm
      obtain rfl : fn = Tryd.f3 := (Option.some.inj (Tryd.func3.symm.trans hfn)).symm
      exact ⟨by kernel_rfl, fun j t ht => by
        rw [Tryd.params3] at ht
        have hm : t ∈ [22] := by simpa using Array.mem_of_getElem? ht
        have hall : ([22].all fun u => !Tryd.prog.wantsStandIn u) = true := by kernel_rfl
        exact (show Tryd.prog.wantsStandIn t = false by simpa using List.all_eq_true.1 hall t hm)⟩)
    (by kernel_rfl)
#print axioms proved
end Go.Proofs.YtgcldnijannmgaaDoor.fnExactFormatBatch
