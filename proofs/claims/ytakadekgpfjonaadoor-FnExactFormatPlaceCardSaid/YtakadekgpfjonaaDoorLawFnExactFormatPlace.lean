/-
  For every place, laws.FnExactFormatPlace returns true: the program's FormatPlace answers as the model of the document does. Condition: the listed tables of Go's library hold what the program's text lays, to which the card ties them.
-/
import Derived.Test.YtakadekgpfjonaaDoorCards
import Derived.Test.YtakadekgpfjonaaDoorLaidP
import Derived.Test.YtakadekgpfjonaaDoorShaped
import Derived.Lay
import Derived.Test.YtakadekgpfjonaaDoorVars
import Derived.Test.YtakadekgpfjonaaDoorTie
import Derived.LaidMore
import Derived.Stop.Joined
import Derived.SevenTiedAt
import Derived.WalkKit
import Derived.ProofKit
import Derived.OpenShut
import Derived.ShutString
import Derived.ChangeOld
import Derived.Below
import Derived.Handy
import Derived.Lib.Hide
import Derived.Lib.SmallJoins
namespace Go.Proofs.YtakadekgpfjonaaDoor.fnExactFormatPlace
open Go.ChangeShapes Go.WideShapes Go.ChangeAt Go.RowKit
open Go.ChangeMaps (open_string shut_string)
open Go.PlainAid (bt get_bt bt_nonneg bt_le)
open Go.Joins
set_option linter.unusedVariables false

theorem own : ownKnob Tryd.prog.godebug = none := by kernel_rfl
theorem laidOut : laidOutB Tryd.prog = true := by kernel_rfl

set_option maxHeartbeats 1000000 in
set_option maxRecDepth 100000 in
theorem walk (w : World) (a0 b0 c0 : Int) (w0 : (Lit.int .i64 a0).wf = true) (x0 : (Lit.int .i64 b0).wf = true) (y0 : (Lit.int .i64 c0).wf = true) (hL : Laid.code w) :
    Calls Tryd.prog 6 #[.agg #[.int .i64 a0, .int .i64 b0, .int .i64 c0]] w fun e w' => e = .returned (.bool true) ∧ Below w.heap.size w w' := by
  have h0 := Below.refl w.heap.size w
  go_enter Tryd.func6, Tryd.ntmps6
  go_wp2_with fail
  refine (toPlace_below _ _ _ _).mono ?_
  rintro e w1 ⟨rfl, k1⟩
  have h1 := stepB (w := w) (by go_grown) k1
  have z1 := h1.size
  obtain ⟨hc1, hf1⟩ := bcell k1
  have y1 : w.heap.size < w1.heap.size := by have := k1.size; (try simp at this); omega
  go_wp2_with fail
  refine (spec_FormatPlace _ _ _ _).mono ?_
  rintro e w2 ⟨rfl, k2⟩
  have h2 := stepB (w := w) (by go_grown) k2
  have z2 := h2.size
  obtain ⟨hc2, hf2⟩ := bcell k2
  have y2 : w.heap.size < w2.heap.size := by have := k2.size; (try simp at this); omega
  go_wp2_with fail
  refine (toPlace_below _ _ _ _).mono ?_
  rintro e w3 ⟨rfl, k3⟩
  have h3 := stepB (w := w) (by go_grown) k3
  have z3 := h3.size
  obtain ⟨hc3, hf3⟩ := bcell k3
  have y3 : w.heap.size < w3.heap.size := by have := k3.size; (try simp at this); omega
  go_wp2_with fail
  refine (impl_FormatPlace _ _ _ _ (hL.below (by go_grown))).mono ?_
  rintro e w4 ⟨rfl, k4⟩
  have h4 := stepB (w := w) (by go_grown) k4
  have z4 := h4.size
  obtain ⟨hc4, hf4⟩ := bcell k4
  have y4 : w.heap.size < w4.heap.size := by have := k4.size; (try simp at this); omega
  go_wp2
  go_ret
  exact ⟨rfl, h4⟩

set_option maxRecDepth 100000 in
theorem lifted (os : Os) (started : os.Started) (H : Type) (enc : TypeId × Value → H) :
    ReturnsInHanded {} Tryd.checked os 6 .any (fun w args => (Rows.fnExactFormatPlaceSpec.pre enc Tryd.prog Tryd.f6 [] false w args ∧ laidMetH Tryd.prog Rows.fnExactFormatPlaceRow.laid w) ∧ sizedMet enc Tryd.prog Tryd.f6 (OpenSpec.ofChange Rows.fnExactFormatPlaceSpec) false w args)
      (Rows.fnExactFormatPlaceSpec.post enc Tryd.prog Tryd.f6 false true false false) := by
  refine returns_listed (C := Tryd.checked) (X := fun w _ => laidMetH Tryd.prog Rows.fnExactFormatPlaceRow.laid w) (fun _ _ _ hh h => h.of_heap hh) own started (by kernel_rfl) Tryd.func6
    (ChangeSpec.witness_shaped (enc := enc) (C := Tryd.checked) (os := os) (X := fun w _ => laidMetH Tryd.prog Rows.fnExactFormatPlaceRow.laid w) false (World.laidAll Tryd.prog os Rows.fnExactFormatPlaceRow.laid) #[.agg #[.int .i64 0, .int .i64 0, .int .i64 0]] 8 (World.laidAll_os _ _ _) (World.shaped_of_ZipB (by kernel_rfl) (by kernel_rfl)) (by kernel_rfl) (by kernel_rfl) (by kernel_rfl) (Laid.door_code os _)) ?_
  intro W base args ds gs before hval0 hW hL hsh
  have hval : ∀ (j : Nat) t v, Tryd.f6.params[j]? = some t → args[j]? = some v → Value.okWide Tryd.prog W .any base t v := hval0
  have hW' := hW
  obtain ⟨p, q, hA0, hV, rfl, hfz, hnd⟩ := hW
  have hA : DataW.TrodAll enc Tryd.prog W 0 (fun _ => true) true Tryd.f6.params.toList args.toList ds p := hA0
  rw [Tryd.params6] at hA hval
  obtain ⟨v0, vs0, d0, ds0, p0, q0, hargs, rfl, rfl, h0, r0⟩ := trodAll_cons hA
  obtain ⟨rfl, rfl, rfl⟩ := trodAll_nil r0
  obtain rfl : args = #[v0] := by cases args; simp_all
  obtain ⟨rfl, rfl⟩ := trodVars_none hV
  have g0 := h0
  have lt0 : ∀ x ∈ p0, x.block < W.heap.size := by obtain ⟨m, hm⟩ := g0; exact DataW.trod_lt m _ _ _ hm
  obtain ⟨u0, t0, s0, m00, m10, m20, n0, rfl, _, _, q00, q10, q20⟩ := open_agg3 Tryd.underlying36 (by kernel_rfl) (by kernel_rfl) (hval 0 36 v0 rfl rfl) h0
  obtain ⟨a0, ea0, _, w0⟩ := DataW.trod_int Tryd.underlying3 q00
  obtain ⟨b0, eb0, _, x0⟩ := DataW.trod_int Tryd.underlying3 q10
  obtain ⟨c0, ec0, _, y0⟩ := DataW.trod_int Tryd.underlying3 q20
  obtain rfl := List.singleton_inj.1 ea0
  obtain rfl := List.singleton_inj.1 eb0
  obtain rfl := List.singleton_inj.1 ec0
  clear hA0 hval0
  refine (walk W a0 b0 c0 w0 x0 y0 (Laid.of_code hL hsh)).mono fun e W' ⟨he, bel⟩ => ?_
  subst he
  exact ⟨_, rfl, _, _, _, [], _, [], hW', trodAll_mk1 (shut_bool Tryd.underlying4 _), (trodAll_cons_mk (Below.trod laidOut (by kernel_rfl) (of_decide_eq_true (by kernel_rfl)) g0 bel lt0) trodAll_mk0), rfl, bel.frame _, fun h => by cases h⟩

theorem row_holds : Rows.FnExactFormatPlaceSaid :=
  OpenClaim.holds_of_wide 6 Tryd.f6 rfl rfl rfl rfl rfl rfl rfl ⟨rfl, rfl, rfl, rfl, rfl⟩ rfl rfl rfl rfl rfl (by kernel_rfl) Tryd.func6 (by kernel_rfl)
    (of_decide_eq_true (by kernel_rfl)) (by unfold Func.isWrapper; first | (rw [if_pos (by decide +kernel)]; kernel_rfl) | (rw [if_neg (by decide +kernel)]; exact ⟨rfl, rfl⟩))
    (fun os started H enc _ => lifted os started H enc)

theorem proved : Rows.FnExactFormatPlaceCardSaid :=
  Claim7.holds_tied_plain_at .later [] [.data, .data, .data] true Rows.fnExactFormatPlaceCard.stood.harness false
    row_holds (fun _ h => by cases h) (by kernel_rfl) (fun _ h => by cases h) fnExactFormatPlace_row_tie rfl ⟨rfl, rfl⟩ (by kernel_rfl) rfl
    (fun f fn hf hfn => by
      obtain rfl : f = 6 := Option.some.inj ((show Tryd.prog.funcNamed Rows.fnExactFormatPlaceRow.func = some 6 by kernel_rfl).symm.trans hf) |>.symm
      obtain rfl : fn = Tryd.f6 := (Option.some.inj (Tryd.func6.symm.trans hfn)).symm
      exact ⟨by kernel_rfl, fun j t ht => by
        rw [Tryd.params6] at ht
        have hm : t ∈ [36] := by simpa using Array.mem_of_getElem? ht
        have hall : ([36].all fun u => !Tryd.prog.wantsStandIn u) = true := by kernel_rfl
        exact (show Tryd.prog.wantsStandIn t = false by simpa using List.all_eq_true.1 hall t hm)⟩)
    (by kernel_rfl)
#print axioms proved
end Go.Proofs.YtakadekgpfjonaaDoor.fnExactFormatPlace
