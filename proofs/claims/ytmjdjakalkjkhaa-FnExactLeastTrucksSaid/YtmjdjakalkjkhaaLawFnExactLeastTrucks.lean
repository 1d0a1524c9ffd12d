/-
  For every slice of numbers and number, laws.FnExactLeastTrucks returns true: the program's LeastTrucks answers as the model of the document does. No condition.
-/
import Derived.Test.YtmjdjakalkjkhaaRows
import Derived.Test.YtmjdjakalkjkhaaPackJ
import Derived.Test.YtmjdjakalkjkhaaNumsOpen
import Derived.WalkKit
import Derived.ProofKit
import Derived.OpenShut
import Derived.ShutString
import Derived.ChangeOld
import Derived.Below
import Derived.Handy
import Derived.Lib.Hide
namespace Go.Proofs.Ytmjdjakalkjkhaa.fnExactLeastTrucks
open Go.ChangeShapes Go.WideShapes Go.ChangeAt Go.RowKit
open Go.ChangeMaps (open_string shut_string)
open Go.PlainAid (bt get_bt bt_nonneg bt_le)
set_option linter.unusedVariables false

theorem own : ownKnob Try.prog.godebug = none := by kernel_rfl
theorem laidOut : laidOutB Try.prog = true := by kernel_rfl

set_option maxHeartbeats 2000000 in
set_option maxRecDepth 100000 in
theorem walk (w : World) (a0 : Option Addr) (n0 k0 : Nat) (L0 : List Int) (w0 : Nums w a0 L0) (e0 : L0.length = n0) (a1 : Int) (w1 : (Lit.int .i64 a1).wf = true) :
    Calls Try.prog 10 #[.slice a0 n0 k0, .int .i64 a1] w fun e w' => e = .returned (.bool true) ∧ Below w.heap.size w w' := by
  have HL0 := Lib.hid w0
  have HN0 := Lib.hid e0
  clear w0 e0
  by_cases hl0 : 1048576 < n0
  · have hi0 : (1048576 : Int) < (n0 : Int) := by omega
    go_enter Try.func10, Try.ntmps10
    go_wp2
    go_ret
    exact ⟨rfl, Below.refl _ _⟩
  have hn0 : n0 ≤ 1048576 := by omega
  have hi0 : ¬ (1048576 : Int) < (n0 : Int) := by omega
  clear hl0
  go_enter Try.func10, Try.ntmps10
  have hb0 : Below w.heap.size w w := Below.refl _ _
  have BL := Lib.hid hb0
  have z0 := BL.out.size
  go_wp2_with fail
  refine (toIntS_any _ a0 n0 k0 L0 (HL0.out.on BL.out) HN0.out hn0).mono ?_
  rintro e w1 ⟨b_s0, rfl, _, q_s0, k1⟩
  have z1 := k1.size
  replace BL := Lib.hid (step BL.out k1)
  have s0 := Lib.hid q_s0
  have lo_s0 : Hid (∀ k, ((Value.slice (some ⟨b_s0, 0, none⟩) n0 n0).ownBlock = some k) → w.heap.size ≤ k ∧ k < w1.heap.size) := fun k hk => s0.out.lt k hk
  clear k1
  go_wp2_with fail
  refine (spec_LeastTrucks _ _ _ _ _ s0.out.nums HN0.out hn0 a1).mono ?_
  rintro e w2 ⟨rfl, k2⟩
  have z2 := k2.size
  replace BL := Lib.hid (step BL.out k2)
  replace s0 := Lib.hid (s0.out.on k2)
  clear k2
  clear s0 lo_s0
  go_wp2_with fail
  refine (toIntS_any _ a0 n0 k0 L0 (HL0.out.on BL.out) HN0.out hn0).mono ?_
  rintro e w3 ⟨b_x0, rfl, _, q_x0, k3⟩
  have z3 := k3.size
  replace BL := Lib.hid (step BL.out k3)
  have x0 := Lib.hid q_x0
  have lo_x0 : Hid (∀ k, ((Value.slice (some ⟨b_x0, 0, none⟩) n0 n0).ownBlock = some k) → w2.heap.size ≤ k ∧ k < w3.heap.size) := fun k hk => x0.out.lt k hk
  clear k3
  go_wp2_with fail
  refine (impl_LeastTrucks _ _ _ _ _ x0.out.nums HN0.out hn0 (Nat.le_refl _) a1).mono ?_
  rintro e w4 ⟨rfl, k4⟩
  have z4 := k4.size
  replace BL := Lib.hid (step BL.out k4)
  replace x0 := Lib.hid (x0.out.on k4)
  clear k4
  go_wp2_with fail
  refine (toIntS_any _ a0 n0 k0 L0 (HL0.out.on BL.out) HN0.out hn0).mono ?_
  rintro e w5 ⟨b_cx0, rfl, _, q_cx0, k5⟩
  have z5 := k5.size
  replace BL := Lib.hid (step BL.out k5)
  replace x0 := Lib.hid (x0.out.on k5)
  have cx0 := Lib.hid q_cx0
  have lo_cx0 : Hid (∀ k, ((Value.slice (some ⟨b_cx0, 0, none⟩) n0 n0).ownBlock = some k) → w4.heap.size ≤ k ∧ k < w5.heap.size) := fun k hk => cx0.out.lt k hk
  clear k5
  go_wp2_with fail
  refine (eqIntS_row _ _ _ _ _ _ x0.out cx0.out (by rw [HN0.out]; exact hn0)).mono ?_
  rintro e w6 ⟨rfl, k6⟩
  have z6 := k6.size
  replace BL := Lib.hid (step BL.out k6)
  replace x0 := Lib.hid (x0.out.on k6)
  replace cx0 := Lib.hid (cx0.out.on k6)
  clear k6
  clear cx0 lo_cx0
  go_wp2
  go_ret
  exact ⟨rfl, BL.out⟩

set_option maxRecDepth 100000 in
theorem lifted (os : Os) (started : os.Started) (H : Type) (enc : TypeId × Value → H) :
    ReturnsInHanded {} Try.checked os 10 .any (Rows.fnExactLeastTrucksSpec.pre6 enc Try.prog Try.f10 Rows.fnExactLeastTrucksRow.domain false) (Rows.fnExactLeastTrucksSpec.post enc Try.prog Try.f10 false true false false) := by
  refine returnsInHanded_of_change (C := Try.checked) own started (by kernel_rfl) Try.func10
    (ChangeSpec.witness6 (enc := enc) (C := Try.checked) false ⟨#[], #[.slice none 0 0, .int .i64 0], []⟩ 8 (by kernel_rfl) (by kernel_rfl) (by kernel_rfl) (by kernel_rfl)) ?_
  intro W base args ds gs before hval0 hW hcnd _
  have hval : ∀ (j : Nat) t v, Try.f10.params[j]? = some t → args[j]? = some v → Value.okWide Try.prog W .any base t v := hval0
  have hW' := hW
  obtain ⟨p, q, hA0, hV, rfl, hfz, hnd⟩ := hW
  have hA : DataW.TrodAll enc Try.prog W 0 (fun _ => true) true Try.f10.params.toList args.toList ds p := hA0
  rw [Try.params10] at hA hval
  obtain ⟨v0, vs0, d0, ds0, p0, q0, hargs, rfl, rfl, h0, r0⟩ := trodAll_cons hA
  obtain ⟨v1, vs1, d1, ds1, p1, q1, rfl, rfl, rfl, h1, r1⟩ := trodAll_cons r0
  obtain ⟨rfl, rfl, rfl⟩ := trodAll_nil r1
  obtain rfl : args = #[v0, v1] := by cases args; simp_all
  obtain ⟨rfl, rfl⟩ := trodVars_none hV
  have g0 := h0
  have lt0 : ∀ x ∈ p0, x.block < W.heap.size := by obtain ⟨m, hm⟩ := g0; exact DataW.trod_lt m _ _ _ hm
  have g1 := h1
  have lt1 : ∀ x ∈ p1, x.block < W.heap.size := by obtain ⟨m, hm⟩ := g1; exact DataW.trod_lt m _ _ _ hm
  obtain ⟨a0, n0, k0, rfl⟩ := okWide_slice Try.underlying24 (hval 0 24 v0 rfl rfl)
  obtain ⟨L0, w0, e0⟩ : ∃ L, Nums W a0 L ∧ L.length = n0 := by
    obtain ⟨fuel, hf⟩ := h0
    exact open_nums hf
  obtain ⟨a1, rfl, _, _, w1⟩ := open_int Try.underlying3 (hval 1 3 v1 rfl rfl) h1
  clear hA0 hval0
  refine (walk W a0 n0 k0 L0 w0 e0 a1 w1).mono fun e W' ⟨he, bel⟩ => ?_
  subst he
  exact ⟨_, rfl, _, _, _, [], _, [], hW', trodAll_mk1 (shut_bool Try.underlying4 _), (trodAll_cons_mk (Below.trod laidOut (by kernel_rfl) (of_decide_eq_true (by kernel_rfl)) g0 bel lt0) (trodAll_cons_mk (Below.trod laidOut (by kernel_rfl) (of_decide_eq_true (by kernel_rfl)) g1 bel lt1) trodAll_mk0)), rfl, bel.frame _, fun h => by cases h⟩

theorem proved : Rows.FnExactLeastTrucksSaid :=
  OpenClaim.holds_of_wide 10 Try.f10 rfl rfl rfl rfl rfl rfl rfl ⟨rfl, rfl, rfl, rfl, rfl⟩ rfl rfl rfl rfl rfl (by kernel_rfl) Try.func10 (by kernel_rfl)
    (of_decide_eq_true (by kernel_rfl)) (by unfold Func.isWrapper; first | (rw [if_pos (by decide +kernel)]; kernel_rfl) | (rw [if_neg (by decide +kernel)]; exact ⟨rfl, rfl⟩))
    (fun os started H enc _ => lifted os started H enc)
#print axioms proved
end Go.Proofs.Ytmjdjakalkjkhaa.fnExactLeastTrucks
