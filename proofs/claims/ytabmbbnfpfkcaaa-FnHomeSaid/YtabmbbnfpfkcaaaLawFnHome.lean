/-
  For every slice of bytes, laws.FnHome returns true.
-/
import Derived.Test.YtabmbbnfpfkcaaaRows
import Derived.Test.YtabmbbnfpfkcaaaDrawNet
import Derived.Test.YtabmbbnfpfkcaaaHomeA
import Derived.BigQuiet
import Derived.IntWalk
import Derived.WalkKit
import Derived.ProofKit
import Derived.OpenShut
import Derived.ShutString
import Derived.ChangeOld
import Derived.Below
import Derived.Handy
import Derived.Lib.Hide
namespace Go.Proofs.Ytabmbbnfpfkcaaa.fnHome
open Go.ChangeShapes Go.WideShapes Go.ChangeAt Go.RowKit
open Go.ChangeMaps (open_string shut_string)
open Go.PlainAid (bt get_bt bt_nonneg bt_le)
set_option linter.unusedVariables false

theorem own : ownKnob Try.prog.godebug = none := by kernel_rfl
theorem laidOut : laidOutB Try.prog = true := by kernel_rfl

set_option maxHeartbeats 40000000 in
set_option maxRecDepth 100000 in
theorem walk (w : World) (a0 : Option Addr) (l0 k0 : Nat) (z0 : List Int) (w0 : IsRow .u8 w a0 l0 k0 z0) :
    Calls Try.prog 7 #[.slice a0 l0 k0] w fun e w' => e = .returned (.bool true) ∧ Below w.heap.size w w' := by
  by_cases hl : 1048576 < l0
  · go_enter Try.func7, Try.ntmps7
    go_wp2
    go_ret
    exact ⟨rfl, Below.refl _ _⟩
  go_enter Try.func7, Try.ntmps7
  go_wp2_with fail
  refine (DrawHomeOf_any a0 l0 k0 z0 w w0).mono ?_
  rintro e u ⟨v, s, t, rfl, hs, ht, a, n, c, NM, RL, rfl, nt, fi, hn8, hl40, bl⟩
  have NT := Lib.hid nt
  have FI := Lib.hid fi
  have BL := Lib.hid bl
  have hsm : s.size ≤ maxLen := by unfold maxLen; omega
  have htm : t.size ≤ maxLen := by unfold maxLen; omega
  have hn2 : n ≤ 1048576 := by omega
  have HLL : Hid (∀ i, i < n → (RL i).length ≤ 1048576) := fun i hi => by have := hl40 i hi; omega
  clear nt fi bl hl40
  obtain ⟨P, q, hR⟩ : ∃ P q, M.routeP n NM RL s t = (P, q) := ⟨_, _, rfl⟩
  have HR : Hid (∀ X, Nts X a n NM RL → Calls Try.prog 22 #[.slice a n c, .string s, .string t] X (PathIs X P q)) := fun X hw => by
    have := impl_RoutePath X a n c NM RL hw FI.out hn2 s t hsm htm
    rw [hR] at this
    exact this
  have HRS : Hid (∀ X, Nts X a n NM RL → Calls Try.prog 23 #[.slice a n c, .string s, .string t] X (PathIs X P q)) := fun X hw => by
    have := spec_RoutePath X a n c NM RL hw FI.out hn2 HLL.out s t htm
    rw [hR] at this
    exact this
  have HI : Hid (∀ X x, Nts X a n NM RL → x.size ≤ maxLen → Calls Try.prog 27 #[.slice a n c, .string x, .string t] X fun e w' => e = .returned (lkV (M.homeOf n NM RL x t)) ∧ Below X.heap.size X w') := fun X x hw hx => impl_HomeOf X a n c NM RL hw FI.out hn2 x t hx htm
  have HS := Lib.hid (fun X hw => spec_HomeOf X a n c NM RL hw FI.out hn2 HLL.out s t htm)
  cases hh : M.homeOf n NM RL s t with
  | none =>
    have hq : q ≠ 0 := by have := M.homeOf_none hh; rw [hR] at this; exact this
    have HH := Lib.hid hh
    clear hh hR
    go_wp2_with fail
    refine (HI.out _ s NT.out hsm).mono ?_
    rw [HH.out]
    rw [lkV_none]
    rintro e v1 ⟨rfl, k1⟩
    replace BL := Lib.hid (step BL.out k1)
    replace NT := Lib.hid (NT.out.on k1)
    clear k1
    go_wp2_with fail
    refine (HS.out _ NT.out).mono ?_
    rw [HH.out]
    rw [lkV_none]
    rintro e v2 ⟨rfl, k2⟩
    replace BL := Lib.hid (step BL.out k2)
    replace NT := Lib.hid (NT.out.on k2)
    clear k2
    go_wp2_with fail
    refine (HR.out _ NT.out).mono ?_
    rintro e v3 ⟨p, rfl, r1, k3⟩
    replace BL := Lib.hid (step BL.out k3)
    replace NT := Lib.hid (NT.out.on k3)
    clear k3
    have hq1 : (q != 0) = true := by rw [bne_iff_ne]; exact hq
    have hq2 : (q == 0) = false := by rw [beq_eq_false_iff_ne]; exact hq
    clear hq r1
    go_wp2
    go_ret
    exact ⟨rfl, BL.out⟩
  | some x =>
    obtain ⟨rfl, hx, hl1, hl20, hag, hxm⟩ := M.home_law hh hR FI.out
    have HH := Lib.hid hh
    have HA := Lib.hid hag
    have HX := Lib.hid hx
    clear hh hR hag hx
    go_wp2_with fail
    refine (HI.out _ s NT.out hsm).mono ?_
    rw [HH.out]
    rw [lkV_some]
    rintro e v1 ⟨rfl, k1⟩
    replace BL := Lib.hid (step BL.out k1)
    replace NT := Lib.hid (NT.out.on k1)
    clear k1
    go_wp2_with fail
    refine (HS.out _ NT.out).mono ?_
    rw [HH.out]
    rw [lkV_some]
    rintro e v2 ⟨rfl, k2⟩
    replace BL := Lib.hid (step BL.out k2)
    replace NT := Lib.hid (NT.out.on k2)
    clear k2
    go_wp2_with fail
    refine (HR.out _ NT.out).mono ?_
    rintro e v3 ⟨p, rfl, r1, k3⟩
    replace BL := Lib.hid (step BL.out k3)
    replace NT := Lib.hid (NT.out.on k3)
    have R1 := Lib.hid (SR.mk r1)
    clear k3
    clear r1
    go_wp2_with fail
    refine (HI.out _ x NT.out hxm).mono ?_
    rw [HA.out]
    rw [lkV_some]
    rintro e v4 ⟨rfl, k4⟩
    replace BL := Lib.hid (step BL.out k4)
    replace NT := Lib.hid (NT.out.on k4)
    replace R1 := Lib.hid (R1.out.on k4)
    clear k4
    obtain ⟨j, hj⟩ : ∃ j, j + 1 = P.length := ⟨P.length - 1, by omega⟩
    obtain ⟨b, k', rfl, hc⟩ := R1.out.row.last hj
    rw [← HX.out] at hc
    have hjw : IntKind.i64.wrap ((P.length : Int) - 1) = (j : Int) := by rw [IntWalk.i64_in _ (by omega)]; omega
    have hj2 : (P.length : Int) - 1 = (j : Int) := by omega
    have hj0 : (0 : Int) ≤ (j : Int) := by omega
    have hj1 : (j : Int) < (P.length : Int) := by omega
    have hj3 : j < P.length := by omega
    have hd : (x.toList == x.toList) = true := by simp
    clear hj R1
    go_wp2
    go_ret
    exact ⟨rfl, BL.out⟩

set_option maxRecDepth 100000 in
theorem lifted (os : Os) (started : os.Started) (H : Type) (enc : TypeId × Value → H) :
    ReturnsInHanded {} Try.checked os 7 .any (Rows.fnHomeSpec.pre6 enc Try.prog Try.f7 Rows.fnHomeRow.domain false) (Rows.fnHomeSpec.post enc Try.prog Try.f7 false true false false) := by
  refine returnsInHanded_of_change (C := Try.checked) own started (by kernel_rfl) Try.func7
    (ChangeSpec.witness6 (enc := enc) (C := Try.checked) false ⟨#[], #[.slice none 0 0], []⟩ 8 (by kernel_rfl) (by kernel_rfl) (by kernel_rfl) (by kernel_rfl)) ?_
  intro W base args ds gs before hval0 hW hcnd _
  have hval : ∀ (j : Nat) t v, Try.f7.params[j]? = some t → args[j]? = some v → Value.okWide Try.prog W .any base t v := hval0
  have hW' := hW
  obtain ⟨p, q, hA0, hV, rfl, hfz, hnd⟩ := hW
  have hA : DataW.TrodAll enc Try.prog W 0 (fun _ => true) true Try.f7.params.toList args.toList ds p := hA0
  rw [Try.params7] at hA hval
  obtain ⟨v0, vs0, d0, ds0, p0, q0, hargs, rfl, rfl, h0, r0⟩ := trodAll_cons hA
  obtain ⟨rfl, rfl, rfl⟩ := trodAll_nil r0
  obtain rfl : args = #[v0] := by cases args; simp_all
  obtain ⟨rfl, rfl⟩ := trodVars_none hV
  have g0 := h0
  have lt0 : ∀ x ∈ p0, x.block < W.heap.size := by obtain ⟨m, hm⟩ := g0; exact DataW.trod_lt m _ _ _ hm
  obtain ⟨a0, l0, k0, rfl⟩ := okWide_slice Try.underlying22 (hval 0 22 v0 rfl rfl)
  obtain ⟨z0, w0⟩ : ∃ zs, IsRow .u8 W a0 l0 k0 zs := by
    obtain ⟨fuel, hf⟩ := h0
    rcases open_ints Try.underlying22 Try.underlying5 (by kernel_rfl) hf with ⟨hcs, _⟩ | ⟨x, l, c, zs, hcs, _, hl, hm, hz, _, hcell, hwz⟩
    · simp [Value.cells] at hcs
      obtain ⟨rfl, rfl, rfl⟩ := hcs
      exact ⟨[], .inl ⟨rfl, rfl, rfl, rfl⟩⟩
    · simp [Value.cells] at hcs
      obtain ⟨rfl, rfl, rfl⟩ := hcs
      exact ⟨zs, .inr ⟨_, rfl, hl, hm, by simpa using hz, hcell, hwz⟩⟩
  clear hA0 hval0
  refine (walk W a0 l0 k0 z0 w0).mono fun e W' ⟨he, bel⟩ => ?_
  subst he
  exact ⟨_, rfl, _, _, _, [], _, [], hW', trodAll_mk1 (shut_bool Try.underlying4 _), (trodAll_cons_mk (Below.trod laidOut (by kernel_rfl) (of_decide_eq_true (by kernel_rfl)) g0 bel lt0) trodAll_mk0), rfl, bel.frame _, fun h => by cases h⟩

theorem proved : Rows.FnHomeSaid :=
  OpenClaim.holds_of_wide 7 Try.f7 rfl rfl rfl rfl rfl rfl rfl ⟨rfl, rfl, rfl, rfl, rfl⟩ rfl rfl rfl rfl rfl (by kernel_rfl) Try.func7 (by kernel_rfl)
    (of_decide_eq_true (by kernel_rfl)) (by unfold Func.isWrapper; first | (rw [if_pos (by decide +kernel)]; kernel_rfl) | (rw [if_neg (by decide +kernel)]; exact ⟨rfl, rfl⟩))
    (fun os started H enc _ => lifted os started H enc)
#print axioms proved
end Go.Proofs.Ytabmbbnfpfkcaaa.fnHome
