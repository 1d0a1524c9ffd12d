/-
  For every string, laws.FnExactParseBatch returns true: the program's ParseBatch answers as the model of the document does, and its answer owns its memory. No condition.
-/
import Derived.Test.YtgcldnijannmgaaDoorCards
import Derived.Test.YtgcldnijannmgaaDoorBatP2
import Derived.Test.YtgcldnijannmgaaDoorMark
import Derived.Test.YtgcldnijannmgaaDoorShaped
import Derived.Lay
import Derived.Test.YtgcldnijannmgaaDoorLaidPB
import Derived.Test.YtgcldnijannmgaaDoorVars
import Derived.Test.YtgcldnijannmgaaDoorTie
import Derived.LaidMore
import Derived.Stop.Joined
import Derived.SevenTiedAt
import Derived.WalkKit
import Derived.ProofKit
import Derived.OpenShut
import Derived.ShutString
import Derived.ChangeOld
import Derived.Below
import Derived.Handy
import Derived.Lib.Hide
namespace Go.Proofs.YtgcldnijannmgaaDoor.fnExactParseBatch
open Go.ChangeShapes Go.WideShapes Go.ChangeAt Go.RowKit
open Go.ChangeMaps (open_string shut_string)
open Go.PlainAid (bt get_bt bt_nonneg bt_le)
set_option linter.unusedVariables false

theorem own : ownKnob Tryd.prog.godebug = none := by kernel_rfl
theorem laidOut : laidOutB Tryd.prog = true := by kernel_rfl

set_option maxHeartbeats 4000000 in
set_option maxRecDepth 100000 in
theorem walk (w : World) (a0 : ByteArray) (w0 : a0.size ≤ maxLen) (hL : Laid.nums w) :
    Calls Tryd.prog 4 #[.string a0] w fun e w' => e = .returned (.bool true) ∧ Below w.heap.size w w' := by
  have HP := Lib.hid hL.pow
  have HT := Lib.hid hL.max
  have HE := Lib.hid hL.err
  clear hL
  by_cases hl0 : 1048576 < a0.size
  · go_enter Tryd.func4, Tryd.ntmps4
    go_wp2
    go_ret
    exact ⟨rfl, Below.refl _ _⟩
  have ht : a0.size ≤ 1048576 := by omega
  obtain ⟨ok, L1, hI⟩ := batIs_ex a0
  have CS : Hid (∀ (W : World), Calls Tryd.prog 13 #[.string a0] W (batPOut W ok L1)) := fun W => spec_ParseBatch a0 W ht ok L1 hI
  have CI : Hid (∀ (W : World), Below w.heap.size w W → Calls Tryd.prog 14 #[.string a0] W (batPOut W ok L1)) := fun W hb => impl_ParseBatch a0 W (PowT.below HP.out hb) (MaxL.below HT.out hb) (ErrT.below HE.out hb) ht ok L1 hI
  have hL1s : L1.length ≤ 1048576 := by have := batIs_len hI; omega
  obtain ⟨m1, hm1⟩ : ∃ m1 : Nat, 1 + 2 * L1.length = m1 := ⟨_, rfl⟩
  have M1 := Lib.hid hm1
  have b1 : 1 ≤ m1 := by omega
  have b2 : m1 ≤ 4000000 := by omega
  clear hI hm1 w0
  go_enter Tryd.func4, Tryd.ntmps4
  have hb1 : Below w.heap.size w w := Below.refl _ _
  have BL := Lib.hid hb1
  have z1 := BL.out.size
  go_wp2_with fail
  refine (CS.out _).mono ?_
  rintro e w2 ⟨v_wr1, rfl, q_wr1, k2⟩
  have z2 := k2.size
  replace BL := Lib.hid (step BL.out k2)
  have wr1 := Lib.hid q_wr1
  have lo_wr1 : Hid (∀ k, (v_wr1.ownBlock = some k) → w.heap.size ≤ k ∧ k < w2.heap.size) := fun k hk => wr1.out.lt k hk
  clear k2
  go_wp2_with fail
  refine (CI.out _ BL.out).mono ?_
  rintro e w3 ⟨v_g1, rfl, q_g1, k3⟩
  have z3 := k3.size
  replace BL := Lib.hid (step BL.out k3)
  replace wr1 := Lib.hid (wr1.out.on k3)
  have g1 := Lib.hid q_g1
  have lo_g1 : Hid (∀ k, (v_g1.ownBlock = some k) → w2.heap.size ≤ k ∧ k < w3.heap.size) := fun k hk => g1.out.lt k hk
  clear k3
  go_wp2_with fail
  refine (eqLetterS_row _ _ _ _ _ _ g1.out wr1.out hL1s).mono ?_
  rintro e w4 ⟨rfl, k4⟩
  have z4 := k4.size
  replace BL := Lib.hid (step BL.out k4)
  replace wr1 := Lib.hid (wr1.out.on k4)
  replace g1 := Lib.hid (g1.out.on k4)
  clear k4
  go_wp2_with fail
  refine (markLetterS_row _ _ _ _ 1 g1.out hL1s (by omega) (by omega)).mono ?_
  rw [M1.out]
  rintro e w5 ⟨rfl, r5, o5⟩
  replace o5 := (Only.of_grown o5).mono (T := fun k => v_g1.ownBlock = some k) (fun k _ e => e.symm)
  have z5 := o5.size
  replace BL := Lib.hid (BL.out.trans (o5.below (B := w.heap.size) (fun k hk _ hs => by have := (lo_g1.out k hs).1; omega) (by omega)))
  replace wr1 := Lib.hid (wr1.out.only o5 (fun k hk hs => by have h1 := lo_wr1.out k hk; have h2 := lo_g1.out k hs; omega))
  replace g1 := Lib.hid r5
  clear r5 o5
  go_wp2_with fail
  refine (heldLetterS_row _ _ _ 1 L1.length g1.out hL1s (by omega) (by omega)).mono ?_
  rw [M1.out]
  rintro e w6 ⟨rfl, k6⟩
  have z6 := k6.size
  replace BL := Lib.hid (step BL.out k6)
  replace wr1 := Lib.hid (wr1.out.on k6)
  replace g1 := Lib.hid (g1.out.on k6)
  clear k6
  go_wp2_with fail
  refine (CI.out _ BL.out).mono ?_
  rintro e w7 ⟨v_h1, rfl, q_h1, k7⟩
  have z7 := k7.size
  replace BL := Lib.hid (step BL.out k7)
  replace wr1 := Lib.hid (wr1.out.on k7)
  replace g1 := Lib.hid (g1.out.on k7)
  have h1 := Lib.hid q_h1
  have lo_h1 : Hid (∀ k, (v_h1.ownBlock = some k) → w6.heap.size ≤ k ∧ k < w7.heap.size) := fun k hk => h1.out.lt k hk
  clear k7
  go_wp2_with fail
  refine (eqLetterS_row _ _ _ _ _ _ h1.out wr1.out hL1s).mono ?_
  rintro e w8 ⟨rfl, k8⟩
  have z8 := k8.size
  replace BL := Lib.hid (step BL.out k8)
  replace wr1 := Lib.hid (wr1.out.on k8)
  replace g1 := Lib.hid (g1.out.on k8)
  replace h1 := Lib.hid (h1.out.on k8)
  clear k8
  clear h1 lo_h1
  go_wp2_with fail
  refine (heldLetterS_row _ _ _ 1 L1.length g1.out hL1s (by omega) (by omega)).mono ?_
  rw [M1.out]
  rintro e w9 ⟨rfl, k9⟩
  have z9 := k9.size
  replace BL := Lib.hid (step BL.out k9)
  replace wr1 := Lib.hid (wr1.out.on k9)
  replace g1 := Lib.hid (g1.out.on k9)
  clear k9
  go_wp2
  go_ret
  exact ⟨rfl, BL.out⟩

set_option maxRecDepth 100000 in
theorem lifted (os : Os) (started : os.Started) (H : Type) (enc : TypeId × Value → H) :
    ReturnsInHanded {} Tryd.checked os 4 .any (fun w args => (Rows.fnExactParseBatchSpec.pre enc Tryd.prog Tryd.f4 [] false w args ∧ laidMetH Tryd.prog Rows.fnExactParseBatchRow.laid w) ∧ sizedMet enc Tryd.prog Tryd.f4 (OpenSpec.ofChange Rows.fnExactParseBatchSpec) false w args)
      (Rows.fnExactParseBatchSpec.post enc Tryd.prog Tryd.f4 false true false false) := by
  refine returns_listed (C := Tryd.checked) (X := fun w _ => laidMetH Tryd.prog Rows.fnExactParseBatchRow.laid w) (fun _ _ _ hh h => h.of_heap hh) own started (by kernel_rfl) Tryd.func4
    (ChangeSpec.witness_shaped (enc := enc) (C := Tryd.checked) (os := os) (X := fun w _ => laidMetH Tryd.prog Rows.fnExactParseBatchRow.laid w) false (World.laidAll Tryd.prog os Rows.fnExactParseBatchRow.laid) #[.string ByteArray.empty] 8 (World.laidAll_os _ _ _) (World.shaped_of_ZipB (by kernel_rfl) (by kernel_rfl)) (by kernel_rfl) (by kernel_rfl) (by kernel_rfl) (Laid.door_nums os _)) ?_
  intro W base args ds gs before hval0 hW hL hsh
  have hval : ∀ (j : Nat) t v, Tryd.f4.params[j]? = some t → args[j]? = some v → Value.okWide Tryd.prog W .any base t v := hval0
  have hW' := hW
  obtain ⟨p, q, hA0, hV, rfl, hfz, hnd⟩ := hW
  have hA : DataW.TrodAll enc Tryd.prog W 0 (fun _ => true) true Tryd.f4.params.toList args.toList ds p := hA0
  rw [Tryd.params4] at hA hval
  obtain ⟨v0, vs0, d0, ds0, p0, q0, hargs, rfl, rfl, h0, r0⟩ := trodAll_cons hA
  obtain ⟨rfl, rfl, rfl⟩ := trodAll_nil r0
  obtain rfl : args = #[v0] := by cases args; simp_all
  obtain ⟨rfl, rfl⟩ := trodVars_none hV
  have g0 := h0
  have lt0 : ∀ x ∈ p0, x.block < W.heap.size := by obtain ⟨m, hm⟩ := g0; exact DataW.trod_lt m _ _ _ hm
  obtain ⟨a0, rfl, _, _, w0⟩ := open_string Tryd.underlying9 (hval 0 9 v0 rfl rfl) h0
  clear hA0 hval0
  refine (walk W a0 w0 (Laid.of_nums hL hsh)).mono fun e W' ⟨he, bel⟩ => ?_
  subst he
  exact ⟨_, rfl, _, _, _, [], _, [], hW', trodAll_mk1 (shut_bool Tryd.underlying4 _), (trodAll_cons_mk (Below.trod laidOut (by kernel_rfl) (of_decide_eq_true (by kernel_rfl)) g0 bel lt0) trodAll_mk0), rfl, bel.frame _, fun h => by cases h⟩

theorem row_holds : Rows.FnExactParseBatchSaid :=
  OpenClaim.holds_of_wide 4 Tryd.f4 rfl rfl rfl rfl rfl rfl rfl ⟨rfl, rfl, rfl, rfl, rfl⟩ rfl rfl rfl rfl rfl (by kernel_rfl) Tryd.func4 (by kernel_rfl)
    (of_decide_eq_true (by kernel_rfl)) (by unfold Func.isWrapper; first | (rw [if_pos (by decide +kernel)]; kernel_rfl) | (rw [if_neg (by decide +kernel)]; exact ⟨rfl, rfl⟩))
    (fun os started H enc _ => lifted os started H enc)

theorem proved : Rows.FnExactParseBatchCardSaid :=
  Claim7.holds_tied_plain_at .later [] [.data, .data, .data, .data, .sentinel, .sentinel, .pinned] true Rows.fnExactParseBatchCard.stood.harness true
    row_holds (fun _ h => by cases h) (by kernel_rfl) (fun _ h => by cases h) fnExactParseBatch_row_tie rfl ⟨rfl, rfl⟩ (by kernel_rfl) rfl
    (fun f fn hf hfn => by
      obtain rfl : f = 4 := Option.some.inj ((show Tryd.prog.funcNamed Rows.fnExactParseBatchRow.func = some 4 by kernel_rfl).symm.trans hf) |>.symm
      obtain rfl : fn = Tryd.f4 := (Option.some.inj (Tryd.func4.symm.trans hfn)).symm
      exact ⟨by kernel_rfl, fun j t ht => by
        rw [Tryd.params4] at ht
        have hm : t ∈ [9] := by simpa using Array.mem_of_getElem? ht
        have hall : ([9].all fun u => !Tryd.prog.wantsStandIn u) = true := by kernel_rfl
        exact (show Tryd.prog.wantsStandIn t = false by simpa using List.all_eq_true.1 hall t hm)⟩)
    (by kernel_rfl)
#print axioms proved
end Go.Proofs.YtgcldnijannmgaaDoor.fnExactParseBatch
