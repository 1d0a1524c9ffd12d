/-
  For every slice of bytes, laws.FnResolve returns true.
-/
import Derived.Test.YtbfbbpmddgfeiaaRows
import Derived.Test.YtbfbbpmddgfeiaaDrawF2
import Derived.Test.YtbfbbpmddgfeiaaWayM
import Derived.WalkKit
import Derived.ProofKit
import Derived.OpenShut
import Derived.ShutString
import Derived.ChangeOld
import Derived.Below
import Derived.Handy
import Derived.Lib.Hide
namespace Go.Proofs.Ytbfbbpmddgfeiaa.fnResolve
open Go.ChangeShapes Go.WideShapes Go.ChangeAt Go.RowKit
open Go.ChangeMaps (open_string shut_string)
open Go.PlainAid (bt get_bt bt_nonneg bt_le)
set_option linter.unusedVariables false

theorem own : ownKnob Try.prog.godebug = none := by kernel_rfl
theorem laidOut : laidOutB Try.prog = true := by kernel_rfl

set_option maxHeartbeats 4000000 in
set_option maxRecDepth 100000 in
theorem walk (w : World) (a0 : Option Addr) (l0 k0 : Nat) (z0 : List Int) (w0 : IsRow .u8 w a0 l0 k0 z0) :
    Calls Try.prog 4 #[.slice a0 l0 k0] w fun e w' => e = .returned (.bool true) ∧ Below w.heap.size w w' := by
  by_cases hl : 1048576 < l0
  · go_enter Try.func4, Try.ntmps4
    go_wp2
    go_ret
    exact ⟨rfl, Below.refl _ _⟩
  go_enter Try.func4, Try.ntmps4
  go_wp2_with fail
  refine (DrawResolveCode_any a0 l0 k0 z0 w w0).mono ?_
  rintro e u ⟨v, s, rfl, hs, a, n, c, F, T, rfl, lt, fi, hn, bl⟩
  have LT := Lib.hid lt
  have FI := Lib.hid fi
  have BL := Lib.hid bl
  clear lt fi bl
  have hn2 : n ≤ 1048576 := by omega
  have hsm : s.size ≤ maxLen := by unfold maxLen; omega
  cases hok : M.fwd n F T
  · have HV : Hid (resV (M.resCode F T n s) = .tuple #[.string ⟨#[]⟩, .int .i64 0, .bool false]) := by rw [Hid, M.resCode_no hok]; rfl
    have HO := Lib.hid hok
    clear hok
    go_wp2_with fail
    refine (impl_ResolveCode _ _ _ _ _ _ LT.out FI.out s hsm).mono ?_
    rw [HV.out]
    rintro e v1 ⟨rfl, k1⟩
    replace LT := Lib.hid (LT.out.on k1)
    replace BL := Lib.hid (step BL.out k1)
    clear k1
    go_wp2_with fail
    refine (spec_ResolveCode _ _ _ _ _ _ LT.out FI.out hn2 s hsm).mono ?_
    rw [HV.out]
    rintro e v2 ⟨rfl, rfl⟩
    go_wp2_with fail
    refine (impl_ForwardsValid _ _ _ _ _ _ LT.out FI.out).mono ?_
    rw [HO.out]
    rintro e v3 ⟨rfl, k3⟩
    replace LT := Lib.hid (LT.out.on k3)
    replace BL := Lib.hid (step BL.out k3)
    clear k3
    go_wp2
    go_ret
    exact ⟨rfl, BL.out⟩
  · cases hc : M.code s
    · have HV : Hid (resV (M.resCode F T n s) = .tuple #[.string ⟨#[]⟩, .int .i64 0, .bool false]) := by rw [Hid, M.resCode_bad hc]; rfl
      have HO := Lib.hid hok
      have HC := Lib.hid hc
      clear hc
      clear hok
      go_wp2_with fail
      refine (impl_ResolveCode _ _ _ _ _ _ LT.out FI.out s hsm).mono ?_
      rw [HV.out]
      rintro e v1 ⟨rfl, k1⟩
      replace LT := Lib.hid (LT.out.on k1)
      replace BL := Lib.hid (step BL.out k1)
      clear k1
      go_wp2_with fail
      refine (spec_ResolveCode _ _ _ _ _ _ LT.out FI.out hn2 s hsm).mono ?_
      rw [HV.out]
      rintro e v2 ⟨rfl, rfl⟩
      go_wp2_with fail
      refine (impl_ForwardsValid _ _ _ _ _ _ LT.out FI.out).mono ?_
      rw [HO.out]
      rintro e v3 ⟨rfl, k3⟩
      replace LT := Lib.hid (LT.out.on k3)
      replace BL := Lib.hid (step BL.out k3)
      clear k3
      go_wp2_with fail
      refine (impl_CodeValid _ _ hsm).mono ?_
      rw [HC.out]
      rintro e v4 ⟨rfl, k4⟩
      replace k4 := k4.below
      replace LT := Lib.hid (LT.out.on k4)
      replace BL := Lib.hid (step BL.out k4)
      clear k4
      go_wp2
      go_ret
      exact ⟨rfl, BL.out⟩
    · obtain ⟨r, hr⟩ : ∃ r, M.res F T n s = r := ⟨_, rfl⟩
      cases r with
      | none =>
        obtain ⟨_, _, _, hall⟩ := M.res_none hr
        have HALL := Lib.hid hall
        have HV : Hid (resV (M.resCode F T n s) = .tuple #[.string ⟨#[]⟩, .int .i64 0, .bool false]) := by rw [Hid, M.resCode_yes hok hc, hr]; rfl
        have HO := Lib.hid hok
        have HC := Lib.hid hc
        clear hc hall hr
        clear hok
        go_wp2_with fail
        refine (impl_ResolveCode _ _ _ _ _ _ LT.out FI.out s hsm).mono ?_
        rw [HV.out]
        rintro e v1 ⟨rfl, k1⟩
        replace LT := Lib.hid (LT.out.on k1)
        replace BL := Lib.hid (step BL.out k1)
        clear k1
        go_wp2_with fail
        refine (spec_ResolveCode _ _ _ _ _ _ LT.out FI.out hn2 s hsm).mono ?_
        rw [HV.out]
        rintro e v2 ⟨rfl, rfl⟩
        go_wp2_with fail
        refine (impl_ForwardsValid _ _ _ _ _ _ LT.out FI.out).mono ?_
        rw [HO.out]
        rintro e v3 ⟨rfl, k3⟩
        replace LT := Lib.hid (LT.out.on k3)
        replace BL := Lib.hid (step BL.out k3)
        clear k3
        go_wp2_with fail
        refine (impl_CodeValid _ _ hsm).mono ?_
        rw [HC.out]
        rintro e v4 ⟨rfl, k4⟩
        replace k4 := k4.below
        replace LT := Lib.hid (LT.out.on k4)
        replace BL := Lib.hid (step BL.out k4)
        clear k4
        go_wp2
        go_loopw [11, 12] (fun q i wr => ∃ (j : Nat) (x : ByteArray), j ≤ n + 1 ∧ i = .int .i64 j ∧ q = .string x ∧ Hid (M.iter (M.nextOf F T n) j s = some x) ∧ Hid (Fws wr a n F T) ∧ Hid (Below w.heap.size w wr)) (fun _ i _ => n + 1 - (intOf i).toNat)
        case atStart => exact ⟨0, s, Nat.zero_le _, rfl, rfl, rfl, LT, BL⟩
        case round =>
          obtain ⟨j, x, hj, rfl, rfl, hx, LT, BL⟩ := hrel
          have hcx := M.code_size (M.iter_code' HO.out HC.out hx.out)
          by_cases hlt : j ≤ n
          · obtain ⟨y, hny, hy1⟩ := iter_more hx.out (HALL.out _)
            have HY := Lib.hid hy1
            have HN : Hid (nxV (M.nextCode F T n x) = .tuple #[.string y, .bool true]) := by rw [Hid, M.nextCode_yes HO.out, hny]; rfl
            clear hny hy1
            go_wp2_with (go_at_call 16; refine (impl_NextCode _ _ _ _ _ _ LT.out FI.out x hcx).mono ?_; rw [HN.out]; rintro e v9 ⟨rfl, k9⟩; have LT9 := Lib.hid (LT.out.on k9); have BL9 := Lib.hid (step BL.out k9); clear k9)
            go_roundw
            case rel => exact ⟨j + 1, y, by omega, by go_num, rfl, HY, LT9, BL9⟩
            case measure => simp [intOf]; omega
          · obtain rfl : j = n + 1 := by omega
            go_wp2
            go_ret
            exact ⟨rfl, BL.out⟩
      | some p =>
        obtain ⟨d, t⟩ := p
        obtain ⟨ht, hit, hnd⟩ := M.res_some hr
        have HIT := Lib.hid hit
        have HND := Lib.hid hnd
        have HV : Hid (resV (M.resCode F T n s) = .tuple #[.string d, .int .i64 t, .bool true]) := by rw [Hid, M.resCode_yes hok hc, hr]; rfl
        have HO := Lib.hid hok
        have HC := Lib.hid hc
        clear hc hit hnd hr
        clear hok
        go_wp2_with fail
        refine (impl_ResolveCode _ _ _ _ _ _ LT.out FI.out s hsm).mono ?_
        rw [HV.out]
        rintro e v1 ⟨rfl, k1⟩
        replace LT := Lib.hid (LT.out.on k1)
        replace BL := Lib.hid (step BL.out k1)
        clear k1
        go_wp2_with fail
        refine (spec_ResolveCode _ _ _ _ _ _ LT.out FI.out hn2 s hsm).mono ?_
        rw [HV.out]
        rintro e v2 ⟨rfl, rfl⟩
        go_wp2_with fail
        refine (impl_ForwardsValid _ _ _ _ _ _ LT.out FI.out).mono ?_
        rw [HO.out]
        rintro e v3 ⟨rfl, k3⟩
        replace LT := Lib.hid (LT.out.on k3)
        replace BL := Lib.hid (step BL.out k3)
        clear k3
        go_wp2_with fail
        refine (impl_CodeValid _ _ hsm).mono ?_
        rw [HC.out]
        rintro e v4 ⟨rfl, k4⟩
        replace k4 := k4.below
        replace LT := Lib.hid (LT.out.on k4)
        replace BL := Lib.hid (step BL.out k4)
        clear k4
        go_wp2
        go_loopw [11, 12] (fun q i wr => ∃ (j : Nat) (x : ByteArray), j ≤ n + 1 ∧ i = .int .i64 j ∧ q = .string x ∧ j ≤ t ∧ Hid (M.iter (M.nextOf F T n) j s = some x) ∧ Hid (Fws wr a n F T) ∧ Hid (Below w.heap.size w wr)) (fun _ i _ => n + 1 - (intOf i).toNat)
        case atStart => exact ⟨0, s, Nat.zero_le _, rfl, rfl, Nat.zero_le _, rfl, LT, BL⟩
        case round =>
          obtain ⟨j, x, hj, rfl, rfl, hjt, hx, LT, BL⟩ := hrel
          have hcx := M.code_size (M.iter_code' HO.out HC.out hx.out)
          by_cases hlt : j < t
          · obtain ⟨y, hny, hy1⟩ := iter_more hx.out (M.iter_le (t := t) (by omega) (by rw [HIT.out]; rfl))
            have HY := Lib.hid hy1
            have HN : Hid (nxV (M.nextCode F T n x) = .tuple #[.string y, .bool true]) := by rw [Hid, M.nextCode_yes HO.out, hny]; rfl
            clear hny hy1
            go_wp2_with (go_at_call 16; refine (impl_NextCode _ _ _ _ _ _ LT.out FI.out x hcx).mono ?_; rw [HN.out]; rintro e v9 ⟨rfl, k9⟩; have LT9 := Lib.hid (LT.out.on k9); have BL9 := Lib.hid (step BL.out k9); clear k9)
            go_roundw
            case rel => exact ⟨j + 1, y, by omega, by go_num, rfl, by omega, HY, LT9, BL9⟩
            case measure => simp [intOf]; omega
          · obtain rfl : j = t := by omega
            have hxd : x = d := Option.some.inj (hx.out.symm.trans HIT.out)
            subst hxd
            have HN : Hid (nxV (M.nextCode F T n x) = .tuple #[.string ⟨#[]⟩, .bool false]) := by rw [Hid, M.nextCode_yes HO.out, HND.out]; rfl
            have hd2 : (x.toList == x.toList) = true := by simp
            go_wp2_with fail
            refine (impl_NextCode _ _ _ _ _ _ LT.out FI.out x hcx).mono ?_
            rw [HN.out]
            rintro e v9 ⟨rfl, k9⟩
            replace LT := Lib.hid (LT.out.on k9)
            replace BL := Lib.hid (step BL.out k9)
            clear k9
            go_wp2_with fail
            refine (impl_NextCode _ _ _ _ _ _ LT.out FI.out x hcx).mono ?_
            rw [HN.out]
            rintro e v9 ⟨rfl, k9⟩
            replace BL := Lib.hid (step BL.out k9)
            clear k9
            go_wp2
            go_ret
            exact ⟨rfl, BL.out⟩

set_option maxRecDepth 100000 in
theorem lifted (os : Os) (started : os.Started) (H : Type) (enc : TypeId × Value → H) :
    ReturnsInHanded {} Try.checked os 4 .any (Rows.fnResolveSpec.pre6 enc Try.prog Try.f4 Rows.fnResolveRow.domain false) (Rows.fnResolveSpec.post enc Try.prog Try.f4 false true false false) := by
  refine returnsInHanded_of_change (C := Try.checked) own started (by kernel_rfl) Try.func4
    (ChangeSpec.witness6 (enc := enc) (C := Try.checked) false ⟨#[], #[.slice none 0 0], []⟩ 8 (by kernel_rfl) (by kernel_rfl) (by kernel_rfl) (by kernel_rfl)) ?_
  intro W base args ds gs before hval0 hW hcnd _
  have hval : ∀ (j : Nat) t v, Try.f4.params[j]? = some t → args[j]? = some v → Value.okWide Try.prog W .any base t v := hval0
  have hW' := hW
  obtain ⟨p, q, hA0, hV, rfl, hfz, hnd⟩ := hW
  have hA : DataW.TrodAll enc Try.prog W 0 (fun _ => true) true Try.f4.params.toList args.toList ds p := hA0
  rw [Try.params4] at hA hval
  obtain ⟨v0, vs0, d0, ds0, p0, q0, hargs, rfl, rfl, h0, r0⟩ := trodAll_cons hA
  obtain ⟨rfl, rfl, rfl⟩ := trodAll_nil r0
  obtain rfl : args = #[v0] := by cases args; simp_all
  obtain ⟨rfl, rfl⟩ := trodVars_none hV
  have g0 := h0
  have lt0 : ∀ x ∈ p0, x.block < W.heap.size := by obtain ⟨m, hm⟩ := g0; exact DataW.trod_lt m _ _ _ hm
  obtain ⟨a0, l0, k0, rfl⟩ := okWide_slice Try.underlying22 (hval 0 22 v0 rfl rfl)
  obtain ⟨z0, w0⟩ : ∃ zs, IsRow .u8 W a0 l0 k0 zs := by
    obtain ⟨fuel, hf⟩ := h0
    rcases open_ints Try.underlying22 Try.underlying5 (by kernel_rfl) hf with ⟨hcs, _⟩ | ⟨x, l, c, zs, hcs, _, hl, hm, hz, _, hcell, hwz⟩
    · simp [Value.cells] at hcs
      obtain ⟨rfl, rfl, rfl⟩ := hcs
      exact ⟨[], .inl ⟨rfl, rfl, rfl, rfl⟩⟩
    · simp [Value.cells] at hcs
      obtain ⟨rfl, rfl, rfl⟩ := hcs
      exact ⟨zs, .inr ⟨_, rfl, hl, hm, by simpa using hz, hcell, hwz⟩⟩
  clear hA0 hval0
  refine (walk W a0 l0 k0 z0 w0).mono fun e W' ⟨he, bel⟩ => ?_
  subst he
  exact ⟨_, rfl, _, _, _, [], _, [], hW', trodAll_mk1 (shut_bool Try.underlying4 _), (trodAll_cons_mk (Below.trod laidOut (by kernel_rfl) (of_decide_eq_true (by kernel_rfl)) g0 bel lt0) trodAll_mk0), rfl, bel.frame _, fun h => by cases h⟩

theorem proved : Rows.FnResolveSaid :=
  OpenClaim.holds_of_wide 4 Try.f4 rfl rfl rfl rfl rfl rfl rfl ⟨rfl, rfl, rfl, rfl, rfl⟩ rfl rfl rfl rfl rfl (by kernel_rfl) Try.func4 (by kernel_rfl)
    (of_decide_eq_true (by kernel_rfl)) (by unfold Func.isWrapper; first | (rw [if_pos (by decide +kernel)]; kernel_rfl) | (rw [if_neg (by decide +kernel)]; exact ⟨rfl, rfl⟩))
    (fun os started H enc _ => lifted os started H enc)
#print axioms proved
end Go.Proofs.Ytbfbbpmddgfeiaa.fnResolve
