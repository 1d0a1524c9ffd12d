/-
  For every slice of bytes, laws.FnResolveStep returns true.
-/
import Derived.Test.YtbfbbpmddgfeiaaRows
import Derived.Test.YtbfbbpmddgfeiaaDrawF2
import Derived.Test.YtbfbbpmddgfeiaaWayM
import Derived.WalkKit
import Derived.ProofKit
import Derived.OpenShut
import Derived.ShutString
import Derived.ChangeOld
import Derived.Below
import Derived.Handy
import Derived.Lib.Hide
namespace Go.Proofs.Ytbfbbpmddgfeiaa.fnResolveStep
open Go.ChangeShapes Go.WideShapes Go.ChangeAt Go.RowKit
open Go.ChangeMaps (open_string shut_string)
open Go.PlainAid (bt get_bt bt_nonneg bt_le)
set_option linter.unusedVariables false

theorem own : ownKnob Try.prog.godebug = none := by kernel_rfl
theorem laidOut : laidOutB Try.prog = true := by kernel_rfl

set_option maxHeartbeats 4000000 in
set_option maxRecDepth 100000 in
theorem walk (w : World) (a0 : Option Addr) (l0 k0 : Nat) (z0 : List Int) (w0 : IsRow .u8 w a0 l0 k0 z0) :
    Calls Try.prog 5 #[.slice a0 l0 k0] w fun e w' => e = .returned (.bool true) ∧ Below w.heap.size w w' := by
  by_cases hl : 1048576 < l0
  · go_enter Try.func5, Try.ntmps5
    go_wp2
    go_ret
    exact ⟨rfl, Below.refl _ _⟩
  go_enter Try.func5, Try.ntmps5
  go_wp2_with fail
  refine (DrawResolveCode_any a0 l0 k0 z0 w w0).mono ?_
  rintro e u ⟨v, s, rfl, hs, a, n, c, F, T, rfl, lt, fi, hn, bl⟩
  have LT := Lib.hid lt
  have FI := Lib.hid fi
  have BL := Lib.hid bl
  clear lt fi bl
  have hn2 : n ≤ 1048576 := by omega
  have hsm : s.size ≤ maxLen := by unfold maxLen; omega
  cases hok : M.fwd n F T
  · have HV : Hid (resV (M.resCode F T n s) = .tuple #[.string ⟨#[]⟩, .int .i64 0, .bool false]) := by rw [Hid, M.resCode_no hok]; rfl
    have HN : Hid (nxV (M.nextCode F T n s) = .tuple #[.string ⟨#[]⟩, .bool false]) := by rw [Hid, M.nextCode_no hok]; rfl
    clear hok
    go_wp2_with fail
    refine (impl_ResolveCode _ _ _ _ _ _ LT.out FI.out s hsm).mono ?_
    rw [HV.out]
    rintro e v1 ⟨rfl, k1⟩
    replace LT := Lib.hid (LT.out.on k1)
    replace BL := Lib.hid (step BL.out k1)
    clear k1
    go_wp2_with fail
    refine (spec_ResolveCode _ _ _ _ _ _ LT.out FI.out hn2 s hsm).mono ?_
    rw [HV.out]
    rintro e v2 ⟨rfl, rfl⟩
    go_wp2_with fail
    refine (impl_NextCode _ _ _ _ _ _ LT.out FI.out s hsm).mono ?_
    rw [HN.out]
    rintro e v3 ⟨rfl, k3⟩
    replace LT := Lib.hid (LT.out.on k3)
    replace BL := Lib.hid (step BL.out k3)
    clear k3
    go_wp2
    go_ret
    exact ⟨rfl, BL.out⟩
  · cases hc : M.code s
    · have hn0 : M.nextOf F T n s = none := by
        cases e : M.nextOf F T n s with
        | none => rfl
        | some d => rw [(M.next_code hok e).1] at hc; cases hc
      have HV : Hid (resV (M.resCode F T n s) = .tuple #[.string ⟨#[]⟩, .int .i64 0, .bool false]) := by rw [Hid, M.resCode_bad hc]; rfl
      have HN : Hid (nxV (M.nextCode F T n s) = .tuple #[.string ⟨#[]⟩, .bool false]) := by rw [Hid, M.nextCode_yes hok, hn0]; rfl
      clear hok hc hn0
      go_wp2_with fail
      refine (impl_ResolveCode _ _ _ _ _ _ LT.out FI.out s hsm).mono ?_
      rw [HV.out]
      rintro e v1 ⟨rfl, k1⟩
      replace LT := Lib.hid (LT.out.on k1)
      replace BL := Lib.hid (step BL.out k1)
      clear k1
      go_wp2_with fail
      refine (spec_ResolveCode _ _ _ _ _ _ LT.out FI.out hn2 s hsm).mono ?_
      rw [HV.out]
      rintro e v2 ⟨rfl, rfl⟩
      go_wp2_with fail
      refine (impl_NextCode _ _ _ _ _ _ LT.out FI.out s hsm).mono ?_
      rw [HN.out]
      rintro e v3 ⟨rfl, k3⟩
      replace LT := Lib.hid (LT.out.on k3)
      replace BL := Lib.hid (step BL.out k3)
      clear k3
      go_wp2
      go_ret
      exact ⟨rfl, BL.out⟩
    · obtain ⟨x, hn0⟩ : ∃ x, M.nextOf F T n s = x := ⟨_, rfl⟩
      cases x with
      | none =>
        have HV : Hid (resV (M.resCode F T n s) = .tuple #[.string s, .int .i64 0, .bool true]) := by rw [Hid, M.resCode_yes hok hc, M.res_here hn0]; rfl
        have HN : Hid (nxV (M.nextCode F T n s) = .tuple #[.string ⟨#[]⟩, .bool false]) := by rw [Hid, M.nextCode_yes hok, hn0]; rfl
        have hd : (s.toList == s.toList) = true := by simp
        clear hok hc hn0
        go_wp2_with fail
        refine (impl_ResolveCode _ _ _ _ _ _ LT.out FI.out s hsm).mono ?_
        rw [HV.out]
        rintro e v1 ⟨rfl, k1⟩
        replace LT := Lib.hid (LT.out.on k1)
        replace BL := Lib.hid (step BL.out k1)
        clear k1
        go_wp2_with fail
        refine (spec_ResolveCode _ _ _ _ _ _ LT.out FI.out hn2 s hsm).mono ?_
        rw [HV.out]
        rintro e v2 ⟨rfl, rfl⟩
        go_wp2_with fail
        refine (impl_NextCode _ _ _ _ _ _ LT.out FI.out s hsm).mono ?_
        rw [HN.out]
        rintro e v3 ⟨rfl, k3⟩
        replace LT := Lib.hid (LT.out.on k3)
        replace BL := Lib.hid (step BL.out k3)
        clear k3
        go_wp2
        go_ret
        exact ⟨rfl, BL.out⟩
      | some d =>
        obtain ⟨r, hr⟩ : ∃ r, M.res F T n s = r := ⟨_, rfl⟩
        cases r with
        | none =>
          have hcd := (M.next_code hok hn0).2
          have hdz := M.code_size hcd
          have HV : Hid (resV (M.resCode F T n s) = .tuple #[.string ⟨#[]⟩, .int .i64 0, .bool false]) := by rw [Hid, M.resCode_yes hok hc, hr]; rfl
          have HN : Hid (nxV (M.nextCode F T n s) = .tuple #[.string d, .bool true]) := by rw [Hid, M.nextCode_yes hok, hn0]; rfl
          have HV2 : Hid (resV (M.resCode F T n d) = .tuple #[.string ⟨#[]⟩, .int .i64 0, .bool false]) := by rw [Hid, M.resCode_yes hok hcd, M.res_lost hn0 hr]; rfl
          clear hok hc hn0 hr
          go_wp2_with fail
          refine (impl_ResolveCode _ _ _ _ _ _ LT.out FI.out s hsm).mono ?_
          rw [HV.out]
          rintro e v1 ⟨rfl, k1⟩
          replace LT := Lib.hid (LT.out.on k1)
          replace BL := Lib.hid (step BL.out k1)
          clear k1
          go_wp2_with fail
          refine (spec_ResolveCode _ _ _ _ _ _ LT.out FI.out hn2 s hsm).mono ?_
          rw [HV.out]
          rintro e v2 ⟨rfl, rfl⟩
          go_wp2_with fail
          refine (impl_NextCode _ _ _ _ _ _ LT.out FI.out s hsm).mono ?_
          rw [HN.out]
          rintro e v3 ⟨rfl, k3⟩
          replace LT := Lib.hid (LT.out.on k3)
          replace BL := Lib.hid (step BL.out k3)
          clear k3
          go_wp2_with fail
          refine (impl_ResolveCode _ _ _ _ _ _ LT.out FI.out d hdz).mono ?_
          rw [HV2.out]
          rintro e v4 ⟨rfl, k4⟩
          replace LT := Lib.hid (LT.out.on k4)
          replace BL := Lib.hid (step BL.out k4)
          clear k4
          go_wp2
          go_ret
          exact ⟨rfl, BL.out⟩
        | some p =>
          have hcd := (M.next_code hok hn0).2
          have hdz := M.code_size hcd
          obtain ⟨e', t⟩ := p
          obtain ⟨ht, hr2⟩ := M.res_on hn0 hr
          obtain ⟨t, rfl⟩ : ∃ q, t = q + 1 := ⟨t - 1, by omega⟩
          rw [Nat.add_sub_cancel] at hr2
          have htn := (M.res_some hr).1
          have HV : Hid (resV (M.resCode F T n s) = .tuple #[.string e', .int .i64 ((t + 1 : Nat) : Int), .bool true]) := by rw [Hid, M.resCode_yes hok hc, hr]; rfl
          have HN : Hid (nxV (M.nextCode F T n s) = .tuple #[.string d, .bool true]) := by rw [Hid, M.nextCode_yes hok, hn0]; rfl
          have HV2 : Hid (resV (M.resCode F T n d) = .tuple #[.string e', .int .i64 (t : Int), .bool true]) := by rw [Hid, M.resCode_yes hok hcd, hr2]; rfl
          have hd : (e'.toList == e'.toList) = true := by simp
          clear hok hc hn0 hr hr2
          go_wp2_with fail
          refine (impl_ResolveCode _ _ _ _ _ _ LT.out FI.out s hsm).mono ?_
          rw [HV.out]
          rintro e v1 ⟨rfl, k1⟩
          replace LT := Lib.hid (LT.out.on k1)
          replace BL := Lib.hid (step BL.out k1)
          clear k1
          go_wp2_with fail
          refine (spec_ResolveCode _ _ _ _ _ _ LT.out FI.out hn2 s hsm).mono ?_
          rw [HV.out]
          rintro e v2 ⟨rfl, rfl⟩
          go_wp2_with fail
          refine (impl_NextCode _ _ _ _ _ _ LT.out FI.out s hsm).mono ?_
          rw [HN.out]
          rintro e v3 ⟨rfl, k3⟩
          replace LT := Lib.hid (LT.out.on k3)
          replace BL := Lib.hid (step BL.out k3)
          clear k3
          go_wp2_with fail
          refine (impl_ResolveCode _ _ _ _ _ _ LT.out FI.out d hdz).mono ?_
          rw [HV2.out]
          rintro e v4 ⟨rfl, k4⟩
          replace LT := Lib.hid (LT.out.on k4)
          replace BL := Lib.hid (step BL.out k4)
          clear k4
          go_wp2
          go_ret
          exact ⟨rfl, BL.out⟩

set_option maxRecDepth 100000 in
theorem lifted (os : Os) (started : os.Started) (H : Type) (enc : TypeId × Value → H) :
    ReturnsInHanded {} Try.checked os 5 .any (Rows.fnResolveStepSpec.pre6 enc Try.prog Try.f5 Rows.fnResolveStepRow.domain false) (Rows.fnResolveStepSpec.post enc Try.prog Try.f5 false true false false) := by
  refine returnsInHanded_of_change (C := Try.checked) own started (by kernel_rfl) Try.func5
    (ChangeSpec.witness6 (enc := enc) (C := Try.checked) false ⟨#[], #[.slice none 0 0], []⟩ 8 (by kernel_rfl) (by kernel_rfl) (by kernel_rfl) (by kernel_rfl)) ?_
  intro W base args ds gs before hval0 hW hcnd _
  have hval : ∀ (j : Nat) t v, Try.f5.params[j]? = some t → args[j]? = some v → Value.okWide Try.prog W .any base t v := hval0
  have hW' := hW
  obtain ⟨p, q, hA0, hV, rfl, hfz, hnd⟩ := hW
  have hA : DataW.TrodAll enc Try.prog W 0 (fun _ => true) true Try.f5.params.toList args.toList ds p := hA0
  rw [Try.params5] at hA hval
  obtain ⟨v0, vs0, d0, ds0, p0, q0, hargs, rfl, rfl, h0, r0⟩ := trodAll_cons hA
  obtain ⟨rfl, rfl, rfl⟩ := trodAll_nil r0
  obtain rfl : args = #[v0] := by cases args; simp_all
  obtain ⟨rfl, rfl⟩ := trodVars_none hV
  have g0 := h0
  have lt0 : ∀ x ∈ p0, x.block < W.heap.size := by obtain ⟨m, hm⟩ := g0; exact DataW.trod_lt m _ _ _ hm
  obtain ⟨a0, l0, k0, rfl⟩ := okWide_slice Try.underlying22 (hval 0 22 v0 rfl rfl)
  obtain ⟨z0, w0⟩ : ∃ zs, IsRow .u8 W a0 l0 k0 zs := by
    obtain ⟨fuel, hf⟩ := h0
    rcases open_ints Try.underlying22 Try.underlying5 (by kernel_rfl) hf with ⟨hcs, _⟩ | ⟨x, l, c, zs, hcs, _, hl, hm, hz, _, hcell, hwz⟩
    · simp [Value.cells] at hcs
      obtain ⟨rfl, rfl, rfl⟩ := hcs
      exact ⟨[], .inl ⟨rfl, rfl, rfl, rfl⟩⟩
    · simp [Value.cells] at hcs
      obtain ⟨rfl, rfl, rfl⟩ := hcs
      exact ⟨zs, .inr ⟨_, rfl, hl, hm, by simpa using hz, hcell, hwz⟩⟩
  clear hA0 hval0
  refine (walk W a0 l0 k0 z0 w0).mono fun e W' ⟨he, bel⟩ => ?_
  subst he
  exact ⟨_, rfl, _, _, _, [], _, [], hW', trodAll_mk1 (shut_bool Try.underlying4 _), (trodAll_cons_mk (Below.trod laidOut (by kernel_rfl) (of_decide_eq_true (by kernel_rfl)) g0 bel lt0) trodAll_mk0), rfl, bel.frame _, fun h => by cases h⟩

theorem proved : Rows.FnResolveStepSaid :=
  OpenClaim.holds_of_wide 5 Try.f5 rfl rfl rfl rfl rfl rfl rfl ⟨rfl, rfl, rfl, rfl, rfl⟩ rfl rfl rfl rfl rfl (by kernel_rfl) Try.func5 (by kernel_rfl)
    (of_decide_eq_true (by kernel_rfl)) (by unfold Func.isWrapper; first | (rw [if_pos (by decide +kernel)]; kernel_rfl) | (rw [if_neg (by decide +kernel)]; exact ⟨rfl, rfl⟩))
    (fun os started H enc _ => lifted os started H enc)
#print axioms proved
end Go.Proofs.Ytbfbbpmddgfeiaa.fnResolveStep
