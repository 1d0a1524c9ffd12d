/-
  For every slice of bytes, laws.FnNextCode returns true.
-/
import Derived.Test.YtbfbbpmddgfeiaaRows
import Derived.Test.YtbfbbpmddgfeiaaDrawF2
import Derived.Test.YtbfbbpmddgfeiaaWayM
import Derived.WalkKit
import Derived.ProofKit
import Derived.OpenShut
import Derived.ShutString
import Derived.ChangeOld
import Derived.Below
import Derived.Handy
import Derived.Lib.Hide
namespace Go.Proofs.Ytbfbbpmddgfeiaa.fnNextCode
open Go.ChangeShapes Go.WideShapes Go.ChangeAt Go.RowKit
open Go.ChangeMaps (open_string shut_string)
open Go.PlainAid (bt get_bt bt_nonneg bt_le)
set_option linter.unusedVariables false

theorem own : ownKnob Try.prog.godebug = none := by kernel_rfl
theorem laidOut : laidOutB Try.prog = true := by kernel_rfl

set_option maxHeartbeats 4000000 in
set_option maxRecDepth 100000 in
theorem walk (w : World) (a0 : Option Addr) (l0 k0 : Nat) (z0 : List Int) (w0 : IsRow .u8 w a0 l0 k0 z0) :
    Calls Try.prog 3 #[.slice a0 l0 k0] w fun e w' => e = .returned (.bool true) ∧ Below w.heap.size w w' := by
  by_cases hl : 1048576 < l0
  · go_enter Try.func3, Try.ntmps3
    go_wp2
    go_ret
    exact ⟨rfl, Below.refl _ _⟩
  go_enter Try.func3, Try.ntmps3
  go_wp2_with fail
  refine (DrawNextCode_any a0 l0 k0 z0 w w0).mono ?_
  rintro e u ⟨v, s, rfl, hs, a, n, c, F, T, rfl, lt, fi, hn, bl⟩
  have LT := Lib.hid lt
  have FI := Lib.hid fi
  have BL := Lib.hid bl
  clear lt fi bl
  have hn2 : n ≤ 1048576 := by omega
  have hsm : s.size ≤ maxLen := by unfold maxLen; omega
  cases hok : M.fwd n F T
  · have HV : Hid (nxV (M.nextCode F T n s) = .tuple #[.string ⟨#[]⟩, .bool false]) := by rw [Hid, M.nextCode_no hok]; rfl
    have HO := Lib.hid hok
    clear hok
    go_wp2_with fail
    refine (impl_NextCode _ _ _ _ _ _ LT.out FI.out s hsm).mono ?_
    rw [HV.out]
    rintro e v1 ⟨rfl, k1⟩
    replace LT := Lib.hid (LT.out.on k1)
    replace BL := Lib.hid (step BL.out k1)
    clear k1
    go_wp2_with fail
    refine (spec_NextCode _ _ _ _ _ _ LT.out FI.out hn2 s).mono ?_
    rw [HV.out]
    rintro e v2 ⟨rfl, rfl⟩
    go_wp2_with fail
    refine (impl_ForwardsValid _ _ _ _ _ _ LT.out FI.out).mono ?_
    rw [HO.out]
    rintro e v3 ⟨rfl, k3⟩
    replace LT := Lib.hid (LT.out.on k3)
    replace BL := Lib.hid (step BL.out k3)
    clear k3
    go_wp2_with fail
    refine (impl_ForwardsValid _ _ _ _ _ _ LT.out FI.out).mono ?_
    rw [HO.out]
    rintro e v4 ⟨rfl, k4⟩
    replace LT := Lib.hid (LT.out.on k4)
    replace BL := Lib.hid (step BL.out k4)
    clear k4
    go_wp2
    go_ret
    exact ⟨rfl, BL.out⟩
  · rcases M.rank_cases F s n with ⟨hr, hno⟩ | ⟨k, hk, hFk, hno, hr⟩
    · have HV : Hid (nxV (M.nextCode F T n s) = .tuple #[.string ⟨#[]⟩, .bool false]) := by rw [Hid, M.nextCode_yes hok, M.nextOf_none (by omega)]; rfl
      have HO := Lib.hid hok
      clear hok
      go_wp2_with fail
      refine (impl_NextCode _ _ _ _ _ _ LT.out FI.out s hsm).mono ?_
      rw [HV.out]
      rintro e v1 ⟨rfl, k1⟩
      replace LT := Lib.hid (LT.out.on k1)
      replace BL := Lib.hid (step BL.out k1)
      clear k1
      go_wp2_with fail
      refine (spec_NextCode _ _ _ _ _ _ LT.out FI.out hn2 s).mono ?_
      rw [HV.out]
      rintro e v2 ⟨rfl, rfl⟩
      go_wp2_with fail
      refine (impl_ForwardsValid _ _ _ _ _ _ LT.out FI.out).mono ?_
      rw [HO.out]
      rintro e v3 ⟨rfl, k3⟩
      replace LT := Lib.hid (LT.out.on k3)
      replace BL := Lib.hid (step BL.out k3)
      clear k3
      have HNO := Lib.hid hno
      clear hno hr
      go_wp2
      go_loop [9, 10] (fun q i => ∃ j : Nat, j ≤ n ∧ i = .int .i64 j ∧ q = .int .i64 0) (fun _ i => n - (intOf i).toNat)
      case atStart => exact ⟨0, Nat.zero_le _, rfl, rfl⟩
      case round =>
        obtain ⟨j, hj, rfl, rfl⟩ := hrel
        by_cases hlt : j < n
        · obtain ⟨b, o, rfl, c0, c1⟩ := LT.out j hlt
          have hd : ((F j).toList == s.toList) = false := neq_list0 (HNO.out j hlt)
          go_wp2
          go_round
          case rel => exact ⟨j + 1, by omega, by go_num, rfl⟩
          case measure => simp [intOf]; omega
        · obtain rfl : j = n := by omega
          go_wp2
          go_ret
          exact ⟨rfl, BL.out⟩
    · have HV : Hid (nxV (M.nextCode F T n s) = .tuple #[.string (T k), .bool true]) := by rw [Hid, M.nextCode_yes hok, M.nextOf_some hr]; rfl
      have HO := Lib.hid hok
      have HD := Lib.hid (M.fwd_yes hok).2
      clear hok
      go_wp2_with fail
      refine (impl_NextCode _ _ _ _ _ _ LT.out FI.out s hsm).mono ?_
      rw [HV.out]
      rintro e v1 ⟨rfl, k1⟩
      replace LT := Lib.hid (LT.out.on k1)
      replace BL := Lib.hid (step BL.out k1)
      clear k1
      go_wp2_with fail
      refine (spec_NextCode _ _ _ _ _ _ LT.out FI.out hn2 s).mono ?_
      rw [HV.out]
      rintro e v2 ⟨rfl, rfl⟩
      go_wp2_with fail
      refine (impl_ForwardsValid _ _ _ _ _ _ LT.out FI.out).mono ?_
      rw [HO.out]
      rintro e v3 ⟨rfl, k3⟩
      replace LT := Lib.hid (LT.out.on k3)
      replace BL := Lib.hid (step BL.out k3)
      clear k3
      have HFK := Lib.hid hFk
      clear hFk hno hr
      go_wp2
      go_loop [9, 10] (fun q i => ∃ (j m : Nat), j ≤ n ∧ i = .int .i64 j ∧ q = .int .i64 m ∧ (k < j → m = 1) ∧ (j ≤ k → m = 0)) (fun _ i => n - (intOf i).toNat)
      case atStart => exact ⟨0, 0, Nat.zero_le _, rfl, rfl, fun h => by omega, fun _ => rfl⟩
      case round =>
        obtain ⟨j, m, hj, rfl, rfl, m1, m0⟩ := hrel
        by_cases hlt : j < n
        · obtain ⟨b, o, rfl, c0, c1⟩ := LT.out j hlt
          by_cases he : j = k
          · subst he
            have hm := m0 (Nat.le_refl _)
            subst hm
            have hd : ((F j).toList == s.toList) = true := by rw [HFK.out]; simp
            have hd2 : ((T j).toList == (T j).toList) = true := by simp
            go_wp2
            go_round
            case rel => exact ⟨j + 1, 1, by omega, by go_num, rfl, fun _ => rfl, fun h => by omega⟩
            case measure => simp [intOf]; omega
          · have hne : F j ≠ s := fun e => by
              rcases Nat.lt_or_gt_of_ne he with h | h
              · exact (HD.out k hk).2.2 j h (e.trans HFK.out.symm)
              · exact (HD.out j hlt).2.2 k h (HFK.out.trans e.symm)
            have hd : ((F j).toList == s.toList) = false := neq_list0 hne
            go_wp2
            go_round
            case rel => exact ⟨j + 1, m, by omega, by go_num, rfl, fun h => m1 (by omega), fun h => m0 (by omega)⟩
            case measure => simp [intOf]; omega
        · obtain rfl : j = n := by omega
          have hm := m1 hk
          subst hm
          go_wp2
          go_ret
          exact ⟨rfl, BL.out⟩

set_option maxRecDepth 100000 in
theorem lifted (os : Os) (started : os.Started) (H : Type) (enc : TypeId × Value → H) :
    ReturnsInHanded {} Try.checked os 3 .any (Rows.fnNextCodeSpec.pre6 enc Try.prog Try.f3 Rows.fnNextCodeRow.domain false) (Rows.fnNextCodeSpec.post enc Try.prog Try.f3 false true false false) := by
  refine returnsInHanded_of_change (C := Try.checked) own started (by kernel_rfl) Try.func3
    (ChangeSpec.witness6 (enc := enc) (C := Try.checked) false ⟨#[], #[.slice none 0 0], []⟩ 8 (by kernel_rfl) (by kernel_rfl) (by kernel_rfl) (by kernel_rfl)) ?_
  intro W base args ds gs before hval0 hW hcnd _
  have hval : ∀ (j : Nat) t v, Try.f3.params[j]? = some t → args[j]? = some v → Value.okWide Try.prog W .any base t v := hval0
  have hW' := hW
  obtain ⟨p, q, hA0, hV, rfl, hfz, hnd⟩ := hW
  have hA : DataW.TrodAll enc Try.prog W 0 (fun _ => true) true Try.f3.params.toList args.toList ds p := hA0
  rw [Try.params3] at hA hval
  obtain ⟨v0, vs0, d0, ds0, p0, q0, hargs, rfl, rfl, h0, r0⟩ := trodAll_cons hA
  obtain ⟨rfl, rfl, rfl⟩ := trodAll_nil r0
  obtain rfl : args = #[v0] := by cases args; simp_all
  obtain ⟨rfl, rfl⟩ := trodVars_none hV
  have g0 := h0
  have lt0 : ∀ x ∈ p0, x.block < W.heap.size := by obtain ⟨m, hm⟩ := g0; exact DataW.trod_lt m _ _ _ hm
  obtain ⟨a0, l0, k0, rfl⟩ := okWide_slice Try.underlying22 (hval 0 22 v0 rfl rfl)
  obtain ⟨z0, w0⟩ : ∃ zs, IsRow .u8 W a0 l0 k0 zs := by
    obtain ⟨fuel, hf⟩ := h0
    rcases open_ints Try.underlying22 Try.underlying5 (by kernel_rfl) hf with ⟨hcs, _⟩ | ⟨x, l, c, zs, hcs, _, hl, hm, hz, _, hcell, hwz⟩
    · simp [Value.cells] at hcs
      obtain ⟨rfl, rfl, rfl⟩ := hcs
      exact ⟨[], .inl ⟨rfl, rfl, rfl, rfl⟩⟩
    · simp [Value.cells] at hcs
      obtain ⟨rfl, rfl, rfl⟩ := hcs
      exact ⟨zs, .inr ⟨_, rfl, hl, hm, by simpa using hz, hcell, hwz⟩⟩
  clear hA0 hval0
  refine (walk W a0 l0 k0 z0 w0).mono fun e W' ⟨he, bel⟩ => ?_
  subst he
  exact ⟨_, rfl, _, _, _, [], _, [], hW', trodAll_mk1 (shut_bool Try.underlying4 _), (trodAll_cons_mk (Below.trod laidOut (by kernel_rfl) (of_decide_eq_true (by kernel_rfl)) g0 bel lt0) trodAll_mk0), rfl, bel.frame _, fun h => by cases h⟩

theorem proved : Rows.FnNextCodeSaid :=
  OpenClaim.holds_of_wide 3 Try.f3 rfl rfl rfl rfl rfl rfl rfl ⟨rfl, rfl, rfl, rfl, rfl⟩ rfl rfl rfl rfl rfl (by kernel_rfl) Try.func3 (by kernel_rfl)
    (of_decide_eq_true (by kernel_rfl)) (by unfold Func.isWrapper; first | (rw [if_pos (by decide +kernel)]; kernel_rfl) | (rw [if_neg (by decide +kernel)]; exact ⟨rfl, rfl⟩))
    (fun os started H enc _ => lifted os started H enc)
#print axioms proved
end Go.Proofs.Ytbfbbpmddgfeiaa.fnNextCode
