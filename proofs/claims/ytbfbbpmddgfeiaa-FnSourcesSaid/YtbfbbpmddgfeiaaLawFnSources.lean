/-
  For every slice of bytes, laws.FnSources returns true.
-/
import Derived.Test.YtbfbbpmddgfeiaaRows
import Derived.Test.YtbfbbpmddgfeiaaDrawF2
import Derived.Test.YtbfbbpmddgfeiaaSrcM
import Derived.Test.YtbfbbpmddgfeiaaSoT
import Derived.Test.YtbfbbpmddgfeiaaDir2
import Derived.WalkKit
import Derived.ProofKit
import Derived.OpenShut
import Derived.ShutString
import Derived.ChangeOld
import Derived.Below
import Derived.Handy
import Derived.Lib.Hide
namespace Go.Proofs.Ytbfbbpmddgfeiaa.fnSources
open Go.ChangeShapes Go.WideShapes Go.ChangeAt Go.RowKit
open Go.ChangeMaps (open_string shut_string)
open Go.PlainAid (bt get_bt bt_nonneg bt_le)
set_option linter.unusedVariables false

theorem own : ownKnob Try.prog.godebug = none := by kernel_rfl
theorem laidOut : laidOutB Try.prog = true := by kernel_rfl

set_option maxHeartbeats 4000000 in
set_option maxRecDepth 100000 in
theorem walk (w : World) (a0 : Option Addr) (l0 k0 : Nat) (z0 : List Int) (w0 : IsRow .u8 w a0 l0 k0 z0) :
    Calls Try.prog 11 #[.slice a0 l0 k0] w fun e w' => e = .returned (.bool true) ∧ Below w.heap.size w w' := by
  by_cases hl : 1048576 < l0
  · go_enter Try.func11, Try.ntmps11
    go_wp2
    go_ret
    exact ⟨rfl, Below.refl _ _⟩
  go_enter Try.func11, Try.ntmps11
  go_wp2_with fail
  refine (DrawSourcesOf_any a0 l0 k0 z0 w w0).mono ?_
  rintro e u ⟨v, s, rfl, hs, a, n, c, F, T, rfl, lt, fi, hn, bl⟩
  have LT := Lib.hid lt
  have FI := Lib.hid fi
  have BL := Lib.hid bl
  clear lt fi bl
  have hn2 : n ≤ 1048576 := by omega
  have hsm : s.size ≤ maxLen := by unfold maxLen; omega
  cases hok : M.fwd n F T
  · obtain ⟨L, hL⟩ : ∃ L, M.srcs F T n s = L := ⟨_, rfl⟩
    have hl1 : L.length ≤ 1048576 := hL ▸ M.srcs_small F T n s hn2
    have HO := Lib.hid hok
    go_wp2_with fail
    refine (impl_SourcesOf _ _ _ _ _ _ LT.out FI.out hn2 s).mono ?_
    rw [hL]
    rintro e v1 ⟨v1, rfl, r1, k1⟩
    replace LT := Lib.hid (LT.out.on k1)
    replace BL := Lib.hid (step BL.out k1)
    have R1 := Lib.hid r1
    clear r1
    clear k1
    go_wp2_with fail
    refine (spec_SourcesOf _ _ _ _ _ _ LT.out FI.out hn2 s).mono ?_
    rw [hL]
    rintro e v2 ⟨v2, rfl, r2, k2⟩
    replace LT := Lib.hid (LT.out.on k2)
    replace BL := Lib.hid (step BL.out k2)
    replace R1 := Lib.hid (R1.out.on k2)
    have R2 := Lib.hid r2
    clear r2
    clear k2
    go_wp2_with fail
    refine (soTexts_row _ _ _ _ _ _ R1.out R2.out hl1).mono ?_
    rintro e v3 ⟨rfl, k3⟩
    replace LT := Lib.hid (LT.out.on k3)
    replace BL := Lib.hid (step BL.out k3)
    replace R1 := Lib.hid (R1.out.on k3)
    replace R2 := Lib.hid (R2.out.on k3)
    clear k3
    go_wp2_with fail
    refine (impl_ForwardsValid _ _ _ _ _ _ LT.out FI.out).mono ?_
    rw [HO.out]
    rintro e v4 ⟨rfl, k4⟩
    replace LT := Lib.hid (LT.out.on k4)
    replace BL := Lib.hid (step BL.out k4)
    replace R1 := Lib.hid (R1.out.on k4)
    replace R2 := Lib.hid (R2.out.on k4)
    clear k4
    go_wp2_with fail
    refine (spec_SourcesOf _ _ _ _ _ _ LT.out FI.out hn2 s).mono ?_
    rw [hL]
    rintro e v5 ⟨v3, rfl, r3, k5⟩
    replace LT := Lib.hid (LT.out.on k5)
    replace BL := Lib.hid (step BL.out k5)
    replace R1 := Lib.hid (R1.out.on k5)
    replace R2 := Lib.hid (R2.out.on k5)
    have R3 := Lib.hid r3
    clear r3
    clear k5
    go_wp2_with fail
    refine (soTexts_row _ _ _ _ _ _ R1.out R3.out hl1).mono ?_
    rintro e v6 ⟨rfl, k6⟩
    replace LT := Lib.hid (LT.out.on k6)
    replace BL := Lib.hid (step BL.out k6)
    replace R1 := Lib.hid (R1.out.on k6)
    replace R2 := Lib.hid (R2.out.on k6)
    replace R3 := Lib.hid (R3.out.on k6)
    clear k6
    go_wp2
    go_ret
    exact ⟨rfl, BL.out⟩
  · obtain ⟨L, hL⟩ : ∃ L, M.srcs F T n s = L := ⟨_, rfl⟩
    have hl1 : L.length ≤ 1048576 := hL ▸ M.srcs_small F T n s hn2
    have HO := Lib.hid hok
    have HM : Hid (∀ j, j < n → M.has (F j) L = decide (M.endOf F T n (F j) = some s)) := fun j hj => hL ▸ M.srcs_mem hok hj
    have HD := Lib.hid (M.fwd_yes hok).2
    have HSENT : Hid (∀ d, M.nextOf F T n s = some d → L = []) := fun d hd => hL ▸ M.srcs_sent hok hd
    go_wp2_with fail
    refine (impl_SourcesOf _ _ _ _ _ _ LT.out FI.out hn2 s).mono ?_
    rw [hL]
    rintro e v1 ⟨v1, rfl, r1, k1⟩
    replace LT := Lib.hid (LT.out.on k1)
    replace BL := Lib.hid (step BL.out k1)
    have R1 := Lib.hid r1
    clear r1
    clear k1
    go_wp2_with fail
    refine (spec_SourcesOf _ _ _ _ _ _ LT.out FI.out hn2 s).mono ?_
    rw [hL]
    rintro e v2 ⟨v2, rfl, r2, k2⟩
    replace LT := Lib.hid (LT.out.on k2)
    replace BL := Lib.hid (step BL.out k2)
    replace R1 := Lib.hid (R1.out.on k2)
    have R2 := Lib.hid r2
    clear r2
    clear k2
    go_wp2_with fail
    refine (soTexts_row _ _ _ _ _ _ R1.out R2.out hl1).mono ?_
    rintro e v3 ⟨rfl, k3⟩
    replace LT := Lib.hid (LT.out.on k3)
    replace BL := Lib.hid (step BL.out k3)
    replace R1 := Lib.hid (R1.out.on k3)
    replace R2 := Lib.hid (R2.out.on k3)
    clear k3
    go_wp2_with fail
    refine (impl_ForwardsValid _ _ _ _ _ _ LT.out FI.out).mono ?_
    rw [HO.out]
    rintro e v4 ⟨rfl, k4⟩
    replace LT := Lib.hid (LT.out.on k4)
    replace BL := Lib.hid (step BL.out k4)
    replace R1 := Lib.hid (R1.out.on k4)
    replace R2 := Lib.hid (R2.out.on k4)
    clear k4
    clear R2 hok hL
    go_wp2
    go_loopw [6] (fun i wr => ∃ j : Nat, j ≤ n ∧ i = .int .i64 j ∧ Hid (Fws wr a n F T) ∧ Hid (SRow wr u.heap.size v1 L) ∧ Hid (Below w.heap.size w wr)) (fun i _ => n - (intOf i).toNat)
    case atStart => exact ⟨0, Nat.zero_le _, rfl, LT, R1, BL⟩
    case round =>
      obtain ⟨j, hj, rfl, LT, R1, BL⟩ := hrel
      by_cases hlt : j < n
      · obtain ⟨b, o, rfl, c0, c1⟩ := LT.out j hlt
        have hcc := (HD.out j hlt).1
        have hcz := M.code_size hcc
        have hm := HM.out j hlt
        cases hr : M.res F T n (F j) with
        | none =>
          have HR : Hid (resV (M.resCode F T n (F j)) = .tuple #[.string ⟨#[]⟩, .int .i64 0, .bool false]) := by rw [Hid, M.resCode_yes HO.out hcc, hr]; rfl
          have HQ : Hid (M.has (F j) L = false) := by rw [Hid, hm, M.endOf_no hr]; rfl
          clear hr hm hcc
          go_wp2_with (first
            | (go_at_call 20; refine (impl_ResolveCode _ _ _ _ _ _ LT.out FI.out (F j) hcz).mono ?_; rw [HR.out]; rintro e v9 ⟨rfl, k9⟩; have LT9 := Lib.hid (LT.out.on k9); have BL9 := Lib.hid (step BL.out k9); have R9 := Lib.hid (R1.out.on k9); have d0 := (k9.cell (p := ⟨b, o + j * 2, none⟩) (World.block_lt_of_cell? _ _ c0)).trans c0; clear k9)
            | (go_at_call 27; refine (soHas_any _ _ _ _ R9.out hl1 (F j)).mono ?_; rw [HQ.out]; rintro e v8 ⟨rfl, rfl⟩))
          go_roundw
          case rel => exact ⟨j + 1, by omega, by go_num, LT9, R9, BL9⟩
          case measure => simp [intOf]; omega
        | some p =>
          obtain ⟨d, t⟩ := p
          have HR : Hid (resV (M.resCode F T n (F j)) = .tuple #[.string d, .int .i64 t, .bool true]) := by rw [Hid, M.resCode_yes HO.out hcc, hr]; rfl
          by_cases he : d = s
          all_goals
            have HQ : Hid (M.has (F j) L = decide (d = s)) := by
              rw [Hid, hm, M.endOf_yes hr]
              by_cases e : d = s
              · rw [decide_eq_true e, e]; exact decide_eq_true rfl
              · rw [decide_eq_false e]; exact decide_eq_false fun e2 => e (Option.some.inj e2)
            have hd : (d.toList == s.toList) = decide (d = s) := M.list_eq d s
            first | rw [decide_eq_true he] at HQ hd | rw [decide_eq_false he] at HQ hd
            clear hr hm hcc he
            go_wp2_with (first
              | (go_at_call 20; refine (impl_ResolveCode _ _ _ _ _ _ LT.out FI.out (F j) hcz).mono ?_; rw [HR.out]; rintro e v9 ⟨rfl, k9⟩; have LT9 := Lib.hid (LT.out.on k9); have BL9 := Lib.hid (step BL.out k9); have R9 := Lib.hid (R1.out.on k9); have d0 := (k9.cell (p := ⟨b, o + j * 2, none⟩) (World.block_lt_of_cell? _ _ c0)).trans c0; clear k9)
              | (go_at_call 27; refine (soHas_any _ _ _ _ R9.out hl1 (F j)).mono ?_; rw [HQ.out]; rintro e v8 ⟨rfl, rfl⟩))
            go_roundw
            case rel => exact ⟨j + 1, by omega, by go_num, LT9, R9, BL9⟩
            case measure => simp [intOf]; omega
      · obtain rfl : j = n := by omega
        obtain ⟨x, hx⟩ : ∃ x, M.nextOf F T j s = x := ⟨_, rfl⟩
        cases x with
        | none =>
          have HN : Hid (nxV (M.nextCode F T j s) = .tuple #[.string ⟨#[]⟩, .bool false]) := by rw [Hid, M.nextCode_yes HO.out, hx]; rfl
          clear hx
          go_wp2_with (go_at_call 16; refine (impl_NextCode _ _ _ _ _ _ LT.out FI.out s hsm).mono ?_; rw [HN.out]; rintro e v9 ⟨rfl, k9⟩; have BL9 := Lib.hid (step BL.out k9); clear k9)
          go_ret
          exact ⟨rfl, BL9.out⟩
        | some d =>
          have HN : Hid (nxV (M.nextCode F T j s) = .tuple #[.string d, .bool true]) := by rw [Hid, M.nextCode_yes HO.out, hx]; rfl
          have hnil := HSENT.out d hx
          subst hnil
          obtain ⟨a1, c1, hv1, _, _⟩ := R1.out.form
          subst hv1
          clear hx
          go_wp2_with (go_at_call 16; refine (impl_NextCode _ _ _ _ _ _ LT.out FI.out s hsm).mono ?_; rw [HN.out]; rintro e v9 ⟨rfl, k9⟩; have BL9 := Lib.hid (step BL.out k9); clear k9)
          go_ret
          exact ⟨rfl, BL9.out⟩

set_option maxRecDepth 100000 in
theorem lifted (os : Os) (started : os.Started) (H : Type) (enc : TypeId × Value → H) :
    ReturnsInHanded {} Try.checked os 11 .any (Rows.fnSourcesSpec.pre6 enc Try.prog Try.f11 Rows.fnSourcesRow.domain false) (Rows.fnSourcesSpec.post enc Try.prog Try.f11 false true false false) := by
  refine returnsInHanded_of_change (C := Try.checked) own started (by kernel_rfl) Try.func11
    (ChangeSpec.witness6 (enc := enc) (C := Try.checked) false ⟨#[], #[.slice none 0 0], []⟩ 8 (by kernel_rfl) (by kernel_rfl) (by kernel_rfl) (by kernel_rfl)) ?_
  intro W base args ds gs before hval0 hW hcnd _
  have hval : ∀ (j : Nat) t v, Try.f11.params[j]? = some t → args[j]? = some v → Value.okWide Try.prog W .any base t v := hval0
  have hW' := hW
  obtain ⟨p, q, hA0, hV, rfl, hfz, hnd⟩ := hW
  have hA : DataW.TrodAll enc Try.prog W 0 (fun _ => true) true Try.f11.params.toList args.toList ds p := hA0
  rw [Try.params11] at hA hval
  obtain ⟨v0, vs0, d0, ds0, p0, q0, hargs, rfl, rfl, h0, r0⟩ := trodAll_cons hA
  obtain ⟨rfl, rfl, rfl⟩ := trodAll_nil r0
  obtain rfl : args = #[v0] := by cases args; simp_all
  obtain ⟨rfl, rfl⟩ := trodVars_none hV
  have g0 := h0
  have lt0 : ∀ x ∈ p0, x.block < W.heap.size := by obtain ⟨m, hm⟩ := g0; exact DataW.trod_lt m _ _ _ hm
  obtain ⟨a0, l0, k0, rfl⟩ := okWide_slice Try.underlying22 (hval 0 22 v0 rfl rfl)
  obtain ⟨z0, w0⟩ : ∃ zs, IsRow .u8 W a0 l0 k0 zs := by
    obtain ⟨fuel, hf⟩ := h0
    rcases open_ints Try.underlying22 Try.underlying5 (by kernel_rfl) hf with ⟨hcs, _⟩ | ⟨x, l, c, zs, hcs, _, hl, hm, hz, _, hcell, hwz⟩
    · simp [Value.cells] at hcs
      obtain ⟨rfl, rfl, rfl⟩ := hcs
      exact ⟨[], .inl ⟨rfl, rfl, rfl, rfl⟩⟩
    · simp [Value.cells] at hcs
      obtain ⟨rfl, rfl, rfl⟩ := hcs
      exact ⟨zs, .inr ⟨_, rfl, hl, hm, by simpa using hz, hcell, hwz⟩⟩
  clear hA0 hval0
  refine (walk W a0 l0 k0 z0 w0).mono fun e W' ⟨he, bel⟩ => ?_
  subst he
  exact ⟨_, rfl, _, _, _, [], _, [], hW', trodAll_mk1 (shut_bool Try.underlying4 _), (trodAll_cons_mk (Below.trod laidOut (by kernel_rfl) (of_decide_eq_true (by kernel_rfl)) g0 bel lt0) trodAll_mk0), rfl, bel.frame _, fun h => by cases h⟩

theorem proved : Rows.FnSourcesSaid :=
  OpenClaim.holds_of_wide 11 Try.f11 rfl rfl rfl rfl rfl rfl rfl ⟨rfl, rfl, rfl, rfl, rfl⟩ rfl rfl rfl rfl rfl (by kernel_rfl) Try.func11 (by kernel_rfl)
    (of_decide_eq_true (by kernel_rfl)) (by unfold Func.isWrapper; first | (rw [if_pos (by decide +kernel)]; kernel_rfl) | (rw [if_neg (by decide +kernel)]; exact ⟨rfl, rfl⟩))
    (fun os started H enc _ => lifted os started H enc)
#print axioms proved
end Go.Proofs.Ytbfbbpmddgfeiaa.fnSources
