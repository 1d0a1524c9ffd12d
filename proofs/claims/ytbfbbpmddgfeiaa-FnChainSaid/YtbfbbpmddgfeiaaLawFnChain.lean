/-
  For every slice of bytes, laws.FnChain returns true.
-/
import Derived.Test.YtbfbbpmddgfeiaaRows
import Derived.Test.YtbfbbpmddgfeiaaDrawF2
import Derived.Test.YtbfbbpmddgfeiaaWayM
import Derived.WalkKit
import Derived.ProofKit
import Derived.OpenShut
import Derived.ShutString
import Derived.ChangeOld
import Derived.Below
import Derived.Handy
import Derived.Lib.Hide
namespace Go.Proofs.Ytbfbbpmddgfeiaa.fnChain
open Go.ChangeShapes Go.WideShapes Go.ChangeAt Go.RowKit
open Go.ChangeMaps (open_string shut_string)
open Go.PlainAid (bt get_bt bt_nonneg bt_le)
set_option linter.unusedVariables false

theorem own : ownKnob Try.prog.godebug = none := by kernel_rfl
theorem laidOut : laidOutB Try.prog = true := by kernel_rfl

set_option maxHeartbeats 4000000 in
set_option maxRecDepth 100000 in
theorem walk (w : World) (a0 : Option Addr) (l0 k0 : Nat) (z0 : List Int) (w0 : IsRow .u8 w a0 l0 k0 z0) :
    Calls Try.prog 12 #[.slice a0 l0 k0] w fun e w' => e = .returned (.bool true) ∧ Below w.heap.size w w' := by
  by_cases hl : 1048576 < l0
  · go_enter Try.func12, Try.ntmps12
    go_wp2
    go_ret
    exact ⟨rfl, Below.refl _ _⟩
  go_enter Try.func12, Try.ntmps12
  go_wp2_with fail
  refine (DrawLongestChain_any a0 l0 k0 z0 w w0).mono ?_
  rintro e u ⟨v, rfl, a, n, c, F, T, rfl, lt, fi, hn, bl⟩
  have LT := Lib.hid lt
  have FI := Lib.hid fi
  have BL := Lib.hid bl
  clear lt fi bl
  have hn2 : n ≤ 1048576 := by omega
  cases hok : M.fwd n F T
  · have HV : Hid (M.longest F T n = -1) := M.longest_no hok
    clear hok
    go_wp2_with fail
    refine (impl_LongestChain _ _ _ _ _ _ LT.out FI.out).mono ?_
    rw [HV.out]
    rintro e v1 ⟨rfl, k1⟩
    replace LT := Lib.hid (LT.out.on k1)
    replace BL := Lib.hid (step BL.out k1)
    clear k1
    go_wp2_with fail
    refine (spec_LongestChain _ _ _ _ _ _ LT.out FI.out hn2).mono ?_
    rw [HV.out]
    rintro e v2 ⟨rfl, rfl⟩
    go_wp2_with fail
    refine (spec_LongestChain _ _ _ _ _ _ LT.out FI.out hn2).mono ?_
    rw [HV.out]
    rintro e v3 ⟨rfl, rfl⟩
    go_wp2
    go_ret
    exact ⟨rfl, BL.out⟩
  · obtain ⟨L, hL⟩ : ∃ L, M.longTo F T n n = L := ⟨_, rfl⟩
    have HV : Hid (M.longest F T n = (L : Int)) := (M.longest_yes hok).trans (by rw [hL])
    have hLn : L ≤ n := hL ▸ M.long_le F T n n
    have HLE : Hid (∀ j, j < n → M.cntOf (M.res F T n (F j)) ≤ L) := fun j hj => hL ▸ M.long_le_to hj
    have HEND : Hid (M.someTo F T n L n = true) := hL ▸ M.someTo_long n
    have HD := Lib.hid (M.fwd_yes hok).2
    have HO := Lib.hid hok
    clear hok hL
    go_wp2_with fail
    refine (impl_LongestChain _ _ _ _ _ _ LT.out FI.out).mono ?_
    rw [HV.out]
    rintro e v1 ⟨rfl, k1⟩
    replace LT := Lib.hid (LT.out.on k1)
    replace BL := Lib.hid (step BL.out k1)
    clear k1
    go_wp2_with fail
    refine (spec_LongestChain _ _ _ _ _ _ LT.out FI.out hn2).mono ?_
    rw [HV.out]
    rintro e v2 ⟨rfl, rfl⟩
    go_wp2
    go_loopw [5, 6] (fun q i wr => ∃ j : Nat, j ≤ n ∧ i = .int .i64 j ∧ q = .bool (M.someTo F T n L j) ∧ Hid (Fws wr a n F T) ∧ Hid (Below w.heap.size w wr)) (fun _ i _ => n - (intOf i).toNat)
    case atStart => exact ⟨0, Nat.zero_le _, rfl, congrArg Value.bool (M.natbeq L 0), LT, BL⟩
    case round =>
      obtain ⟨j, hj, rfl, rfl, LT, BL⟩ := hrel
      by_cases hlt : j < n
      · obtain ⟨b, o, rfl, c0, c1⟩ := LT.out j hlt
        have hcc := (HD.out j hlt).1
        have hcz := M.code_size hcc
        have hle := HLE.out j hlt
        have hr := resV_eq (M.res F T n (F j))
        rw [← M.resCode_yes HO.out hcc] at hr
        have hstep : M.someTo F T n L (j + 1) = (M.someTo F T n L j || ((M.res F T n (F j)).isSome && decide (M.cntOf (M.res F T n (F j)) = L))) := rfl
        rw [← M.resCode_yes HO.out hcc] at hle hstep
        obtain ⟨s, hs⟩ : ∃ s, M.endS (M.resCode F T n (F j)) = s := ⟨_, rfl⟩
        obtain ⟨t, ht⟩ : ∃ t, M.cntOf (M.resCode F T n (F j)) = t := ⟨_, rfl⟩
        rw [hs, ht] at hr
        rw [ht] at hle hstep
        have HR := Lib.hid hr
        clear hs ht hr hcc
        cases hy : (M.resCode F T n (F j)).isSome
        all_goals
          rw [hy] at HR hstep
          cases hso : M.someTo F T n L j
          all_goals
            rw [hso] at hstep
            by_cases htl : t = L
            all_goals
              have HS := Lib.hid hstep
              have htl' := htl
              clear hy hso hstep
              go_wp2_with (go_at_call 20; refine (impl_ResolveCode _ _ _ _ _ _ LT.out FI.out (F j) hcz).mono ?_; rw [HR.out]; rintro e v9 ⟨rfl, k9⟩; have LT9 := Lib.hid (LT.out.on k9); have BL9 := Lib.hid (step BL.out k9); clear k9)
              go_roundw
              case rel => exact ⟨j + 1, by omega, by go_num, by rw [HS.out]; first | rfl | (rw [M.natbeq]; rfl) | (subst htl; simp), LT9, BL9⟩
              case measure => simp [intOf]; omega
      · obtain rfl : j = n := by omega
        rw [HEND.out]
        go_wp2
        go_ret
        exact ⟨rfl, BL.out⟩

set_option maxRecDepth 100000 in
theorem lifted (os : Os) (started : os.Started) (H : Type) (enc : TypeId × Value → H) :
    ReturnsInHanded {} Try.checked os 12 .any (Rows.fnChainSpec.pre6 enc Try.prog Try.f12 Rows.fnChainRow.domain false) (Rows.fnChainSpec.post enc Try.prog Try.f12 false true false false) := by
  refine returnsInHanded_of_change (C := Try.checked) own started (by kernel_rfl) Try.func12
    (ChangeSpec.witness6 (enc := enc) (C := Try.checked) false ⟨#[], #[.slice none 0 0], []⟩ 8 (by kernel_rfl) (by kernel_rfl) (by kernel_rfl) (by kernel_rfl)) ?_
  intro W base args ds gs before hval0 hW hcnd _
  have hval : ∀ (j : Nat) t v, Try.f12.params[j]? = some t → args[j]? = some v → Value.okWide Try.prog W .any base t v := hval0
  have hW' := hW
  obtain ⟨p, q, hA0, hV, rfl, hfz, hnd⟩ := hW
  have hA : DataW.TrodAll enc Try.prog W 0 (fun _ => true) true Try.f12.params.toList args.toList ds p := hA0
  rw [Try.params12] at hA hval
  obtain ⟨v0, vs0, d0, ds0, p0, q0, hargs, rfl, rfl, h0, r0⟩ := trodAll_cons hA
  obtain ⟨rfl, rfl, rfl⟩ := trodAll_nil r0
  obtain rfl : args = #[v0] := by cases args; simp_all
  obtain ⟨rfl, rfl⟩ := trodVars_none hV
  have g0 := h0
  have lt0 : ∀ x ∈ p0, x.block < W.heap.size := by obtain ⟨m, hm⟩ := g0; exact DataW.trod_lt m _ _ _ hm
  obtain ⟨a0, l0, k0, rfl⟩ := okWide_slice Try.underlying22 (hval 0 22 v0 rfl rfl)
  obtain ⟨z0, w0⟩ : ∃ zs, IsRow .u8 W a0 l0 k0 zs := by
    obtain ⟨fuel, hf⟩ := h0
    rcases open_ints Try.underlying22 Try.underlying5 (by kernel_rfl) hf with ⟨hcs, _⟩ | ⟨x, l, c, zs, hcs, _, hl, hm, hz, _, hcell, hwz⟩
    · simp [Value.cells] at hcs
      obtain ⟨rfl, rfl, rfl⟩ := hcs
      exact ⟨[], .inl ⟨rfl, rfl, rfl, rfl⟩⟩
    · simp [Value.cells] at hcs
      obtain ⟨rfl, rfl, rfl⟩ := hcs
      exact ⟨zs, .inr ⟨_, rfl, hl, hm, by simpa using hz, hcell, hwz⟩⟩
  clear hA0 hval0
  refine (walk W a0 l0 k0 z0 w0).mono fun e W' ⟨he, bel⟩ => ?_
  subst he
  exact ⟨_, rfl, _, _, _, [], _, [], hW', trodAll_mk1 (shut_bool Try.underlying4 _), (trodAll_cons_mk (Below.trod laidOut (by kernel_rfl) (of_decide_eq_true (by kernel_rfl)) g0 bel lt0) trodAll_mk0), rfl, bel.frame _, fun h => by cases h⟩

theorem proved : Rows.FnChainSaid :=
  OpenClaim.holds_of_wide 12 Try.f12 rfl rfl rfl rfl rfl rfl rfl ⟨rfl, rfl, rfl, rfl, rfl⟩ rfl rfl rfl rfl rfl (by kernel_rfl) Try.func12 (by kernel_rfl)
    (of_decide_eq_true (by kernel_rfl)) (by unfold Func.isWrapper; first | (rw [if_pos (by decide +kernel)]; kernel_rfl) | (rw [if_neg (by decide +kernel)]; exact ⟨rfl, rfl⟩))
    (fun os started H enc _ => lifted os started H enc)
#print axioms proved
end Go.Proofs.Ytbfbbpmddgfeiaa.fnChain
