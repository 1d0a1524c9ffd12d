/-
  For every two slices of numbers and number, laws.FnExactLoadingValid returns true: the program's LoadingValid answers as the model of the document does. No condition.
-/
import Derived.Test.YtmjdjakalkjkhaaRows
import Derived.Test.YtmjdjakalkjkhaaTrkC
import Derived.Test.YtmjdjakalkjkhaaNumsOpen
import Derived.WalkKit
import Derived.ProofKit
import Derived.OpenShut
import Derived.ShutString
import Derived.ChangeOld
import Derived.Below
import Derived.Handy
import Derived.Lib.Hide
namespace Go.Proofs.Ytmjdjakalkjkhaa.fnExactLoadingValid
open Go.ChangeShapes Go.WideShapes Go.ChangeAt Go.RowKit
open Go.ChangeMaps (open_string shut_string)
open Go.PlainAid (bt get_bt bt_nonneg bt_le)
set_option linter.unusedVariables false

theorem own : ownKnob Try.prog.godebug = none := by kernel_rfl
theorem laidOut : laidOutB Try.prog = true := by kernel_rfl

set_option maxHeartbeats 2000000 in
set_option maxRecDepth 100000 in
theorem walk (w : World) (a0 : Option Addr) (n0 k0 : Nat) (L0 : List Int) (w0 : Nums w a0 L0) (e0 : L0.length = n0) (a1 : Int) (w1 : (Lit.int .i64 a1).wf = true) (a2 : Option Addr) (n2 k2 : Nat) (L2 : List Int) (w2 : Nums w a2 L2) (e2 : L2.length = n2) :
    Calls Try.prog 9 #[.slice a0 n0 k0, .int .i64 a1, .slice a2 n2 k2] w fun e w' => e = .returned (.bool true) ∧ Below w.heap.size w w' := by
  have HL0 := Lib.hid w0
  have HN0 := Lib.hid e0
  clear w0 e0
  have HL2 := Lib.hid w2
  have HN2 := Lib.hid e2
  clear w2 e2
  by_cases hl0 : 1048576 < n0
  · have hi0 : (1048576 : Int) < (n0 : Int) := by omega
    go_enter Try.func9, Try.ntmps9
    go_wp2
    go_ret
    exact ⟨rfl, Below.refl _ _⟩
  have hn0 : n0 ≤ 1048576 := by omega
  have hi0 : ¬ (1048576 : Int) < (n0 : Int) := by omega
  clear hl0
  by_cases hl2 : 1048576 < n2
  · have hi2 : (1048576 : Int) < (n2 : Int) := by omega
    go_enter Try.func9, Try.ntmps9
    go_wp2
    go_ret
    exact ⟨rfl, Below.refl _ _⟩
  have hn2 : n2 ≤ 1048576 := by omega
  have hi2 : ¬ (1048576 : Int) < (n2 : Int) := by omega
  clear hl2
  go_enter Try.func9, Try.ntmps9
  have hb0 : Below w.heap.size w w := Below.refl _ _
  have BL := Lib.hid hb0
  have z0 := BL.out.size
  go_wp2_with fail
  refine (toIntS_any _ a0 n0 k0 L0 (HL0.out.on BL.out) HN0.out hn0).mono ?_
  rintro e w1 ⟨b_s0, rfl, _, q_s0, k1⟩
  have z1 := k1.size
  replace BL := Lib.hid (step BL.out k1)
  have s0 := Lib.hid q_s0
  have lo_s0 : Hid (∀ k, ((Value.slice (some ⟨b_s0, 0, none⟩) n0 n0).ownBlock = some k) → w.heap.size ≤ k ∧ k < w1.heap.size) := fun k hk => s0.out.lt k hk
  clear k1
  go_wp2_with fail
  refine (toIntS_any _ a2 n2 k2 L2 (HL2.out.on BL.out) HN2.out hn2).mono ?_
  rintro e w2 ⟨b_s2, rfl, _, q_s2, k2⟩
  have z2 := k2.size
  replace BL := Lib.hid (step BL.out k2)
  replace s0 := Lib.hid (s0.out.on k2)
  have s2 := Lib.hid q_s2
  have lo_s2 : Hid (∀ k, ((Value.slice (some ⟨b_s2, 0, none⟩) n2 n2).ownBlock = some k) → w1.heap.size ≤ k ∧ k < w2.heap.size) := fun k hk => s2.out.lt k hk
  clear k2
  go_wp2_with fail
  refine (spec_LoadingValid _ _ _ _ _ s0.out.nums HN0.out hn0 _ _ _ _ s2.out.nums HN2.out hn2 a1).mono ?_
  rintro e w3 ⟨rfl, k3⟩
  have z3 := k3.size
  replace BL := Lib.hid (step BL.out k3)
  replace s0 := Lib.hid (s0.out.on k3)
  replace s2 := Lib.hid (s2.out.on k3)
  clear k3
  clear s0 lo_s0
  clear s2 lo_s2
  go_wp2_with fail
  refine (toIntS_any _ a0 n0 k0 L0 (HL0.out.on BL.out) HN0.out hn0).mono ?_
  rintro e w4 ⟨b_x0, rfl, _, q_x0, k4⟩
  have z4 := k4.size
  replace BL := Lib.hid (step BL.out k4)
  have x0 := Lib.hid q_x0
  have lo_x0 : Hid (∀ k, ((Value.slice (some ⟨b_x0, 0, none⟩) n0 n0).ownBlock = some k) → w3.heap.size ≤ k ∧ k < w4.heap.size) := fun k hk => x0.out.lt k hk
  clear k4
  go_wp2_with fail
  refine (toIntS_any _ a2 n2 k2 L2 (HL2.out.on BL.out) HN2.out hn2).mono ?_
  rintro e w5 ⟨b_x2, rfl, _, q_x2, k5⟩
  have z5 := k5.size
  replace BL := Lib.hid (step BL.out k5)
  replace x0 := Lib.hid (x0.out.on k5)
  have x2 := Lib.hid q_x2
  have lo_x2 : Hid (∀ k, ((Value.slice (some ⟨b_x2, 0, none⟩) n2 n2).ownBlock = some k) → w4.heap.size ≤ k ∧ k < w5.heap.size) := fun k hk => x2.out.lt k hk
  clear k5
  go_wp2_with fail
  refine (impl_LoadingValid _ _ _ _ _ x0.out.nums HN0.out hn0 _ _ _ _ x2.out.nums HN2.out hn2 a1).mono ?_
  rintro e w6 ⟨rfl, k6⟩
  have z6 := k6.size
  replace BL := Lib.hid (step BL.out k6)
  replace x0 := Lib.hid (x0.out.on k6)
  replace x2 := Lib.hid (x2.out.on k6)
  clear k6
  go_wp2_with fail
  refine (toIntS_any _ a0 n0 k0 L0 (HL0.out.on BL.out) HN0.out hn0).mono ?_
  rintro e w7 ⟨b_cx0, rfl, _, q_cx0, k7⟩
  have z7 := k7.size
  replace BL := Lib.hid (step BL.out k7)
  replace x0 := Lib.hid (x0.out.on k7)
  replace x2 := Lib.hid (x2.out.on k7)
  have cx0 := Lib.hid q_cx0
  have lo_cx0 : Hid (∀ k, ((Value.slice (some ⟨b_cx0, 0, none⟩) n0 n0).ownBlock = some k) → w6.heap.size ≤ k ∧ k < w7.heap.size) := fun k hk => cx0.out.lt k hk
  clear k7
  go_wp2_with fail
  refine (eqIntS_row _ _ _ _ _ _ x0.out cx0.out (by rw [HN0.out]; exact hn0)).mono ?_
  rintro e w8 ⟨rfl, k8⟩
  have z8 := k8.size
  replace BL := Lib.hid (step BL.out k8)
  replace x0 := Lib.hid (x0.out.on k8)
  replace x2 := Lib.hid (x2.out.on k8)
  replace cx0 := Lib.hid (cx0.out.on k8)
  clear k8
  clear cx0 lo_cx0
  go_wp2_with fail
  refine (toIntS_any _ a2 n2 k2 L2 (HL2.out.on BL.out) HN2.out hn2).mono ?_
  rintro e w9 ⟨b_cx2, rfl, _, q_cx2, k9⟩
  have z9 := k9.size
  replace BL := Lib.hid (step BL.out k9)
  replace x0 := Lib.hid (x0.out.on k9)
  replace x2 := Lib.hid (x2.out.on k9)
  have cx2 := Lib.hid q_cx2
  have lo_cx2 : Hid (∀ k, ((Value.slice (some ⟨b_cx2, 0, none⟩) n2 n2).ownBlock = some k) → w8.heap.size ≤ k ∧ k < w9.heap.size) := fun k hk => cx2.out.lt k hk
  clear k9
  go_wp2_with fail
  refine (eqIntS_row _ _ _ _ _ _ x2.out cx2.out (by rw [HN2.out]; exact hn2)).mono ?_
  rintro e w10 ⟨rfl, k10⟩
  have z10 := k10.size
  replace BL := Lib.hid (step BL.out k10)
  replace x0 := Lib.hid (x0.out.on k10)
  replace x2 := Lib.hid (x2.out.on k10)
  replace cx2 := Lib.hid (cx2.out.on k10)
  clear k10
  clear cx2 lo_cx2
  go_wp2
  go_ret
  exact ⟨rfl, BL.out⟩

set_option maxRecDepth 100000 in
theorem lifted (os : Os) (started : os.Started) (H : Type) (enc : TypeId × Value → H) :
    ReturnsInHanded {} Try.checked os 9 .any (Rows.fnExactLoadingValidSpec.pre6 enc Try.prog Try.f9 Rows.fnExactLoadingValidRow.domain false) (Rows.fnExactLoadingValidSpec.post enc Try.prog Try.f9 false true false false) := by
  refine returnsInHanded_of_change (C := Try.checked) own started (by kernel_rfl) Try.func9
    (ChangeSpec.witness6 (enc := enc) (C := Try.checked) false ⟨#[], #[.slice none 0 0, .int .i64 0, .slice none 0 0], []⟩ 8 (by kernel_rfl) (by kernel_rfl) (by kernel_rfl) (by kernel_rfl)) ?_
  intro W base args ds gs before hval0 hW hcnd _
  have hval : ∀ (j : Nat) t v, Try.f9.params[j]? = some t → args[j]? = some v → Value.okWide Try.prog W .any base t v := hval0
  have hW' := hW
  obtain ⟨p, q, hA0, hV, rfl, hfz, hnd⟩ := hW
  have hA : DataW.TrodAll enc Try.prog W 0 (fun _ => true) true Try.f9.params.toList args.toList ds p := hA0
  rw [Try.params9] at hA hval
  obtain ⟨v0, vs0, d0, ds0, p0, q0, hargs, rfl, rfl, h0, r0⟩ := trodAll_cons hA
  obtain ⟨v1, vs1, d1, ds1, p1, q1, rfl, rfl, rfl, h1, r1⟩ := trodAll_cons r0
  obtain ⟨v2, vs2, d2, ds2, p2, q2, rfl, rfl, rfl, h2, r2⟩ := trodAll_cons r1
  obtain ⟨rfl, rfl, rfl⟩ := trodAll_nil r2
  obtain rfl : args = #[v0, v1, v2] := by cases args; simp_all
  obtain ⟨rfl, rfl⟩ := trodVars_none hV
  have g0 := h0
  have lt0 : ∀ x ∈ p0, x.block < W.heap.size := by obtain ⟨m, hm⟩ := g0; exact DataW.trod_lt m _ _ _ hm
  have g1 := h1
  have lt1 : ∀ x ∈ p1, x.block < W.heap.size := by obtain ⟨m, hm⟩ := g1; exact DataW.trod_lt m _ _ _ hm
  have g2 := h2
  have lt2 : ∀ x ∈ p2, x.block < W.heap.size := by obtain ⟨m, hm⟩ := g2; exact DataW.trod_lt m _ _ _ hm
  obtain ⟨a0, n0, k0, rfl⟩ := okWide_slice Try.underlying24 (hval 0 24 v0 rfl rfl)
  obtain ⟨L0, w0, e0⟩ : ∃ L, Nums W a0 L ∧ L.length = n0 := by
    obtain ⟨fuel, hf⟩ := h0
    exact open_nums hf
  obtain ⟨a1, rfl, _, _, w1⟩ := open_int Try.underlying3 (hval 1 3 v1 rfl rfl) h1
  obtain ⟨a2, n2, k2, rfl⟩ := okWide_slice Try.underlying24 (hval 2 24 v2 rfl rfl)
  obtain ⟨L2, w2, e2⟩ : ∃ L, Nums W a2 L ∧ L.length = n2 := by
    obtain ⟨fuel, hf⟩ := h2
    exact open_nums hf
  clear hA0 hval0
  refine (walk W a0 n0 k0 L0 w0 e0 a1 w1 a2 n2 k2 L2 w2 e2).mono fun e W' ⟨he, bel⟩ => ?_
  subst he
  exact ⟨_, rfl, _, _, _, [], _, [], hW', trodAll_mk1 (shut_bool Try.underlying4 _), (trodAll_cons_mk (Below.trod laidOut (by kernel_rfl) (of_decide_eq_true (by kernel_rfl)) g0 bel lt0) (trodAll_cons_mk (Below.trod laidOut (by kernel_rfl) (of_decide_eq_true (by kernel_rfl)) g1 bel lt1) (trodAll_cons_mk (Below.trod laidOut (by kernel_rfl) (of_decide_eq_true (by kernel_rfl)) g2 bel lt2) trodAll_mk0))), rfl, bel.frame _, fun h => by cases h⟩

theorem proved : Rows.FnExactLoadingValidSaid :=
  OpenClaim.holds_of_wide 9 Try.f9 rfl rfl rfl rfl rfl rfl rfl ⟨rfl, rfl, rfl, rfl, rfl⟩ rfl rfl rfl rfl rfl (by kernel_rfl) Try.func9 (by kernel_rfl)
    (of_decide_eq_true (by kernel_rfl)) (by unfold Func.isWrapper; first | (rw [if_pos (by decide +kernel)]; kernel_rfl) | (rw [if_neg (by decide +kernel)]; exact ⟨rfl, rfl⟩))
    (fun os started H enc _ => lifted os started H enc)
#print axioms proved
end Go.Proofs.Ytmjdjakalkjkhaa.fnExactLoadingValid
