/-
  For every slice of bytes, laws.FnTrayOf returns true.
-/
import Derived.Test.YtihbpalhbbingaaRows
import Derived.Test.YtihbpalhbbingaaDrawTz
import Derived.Test.YtihbpalhbbingaaTyR
import Derived.Test.YtihbpalhbbingaaTryN
import Derived.BigQuiet
import Derived.IntWalk
import Derived.WalkKit
import Derived.ProofKit
import Derived.OpenShut
import Derived.ShutString
import Derived.ChangeOld
import Derived.Below
import Derived.Handy
import Derived.Lib.Hide
namespace Go.Proofs.Ytihbpalhbbingaa.fnTrayOf
open Go.ChangeShapes Go.WideShapes Go.ChangeAt Go.RowKit
open Go.ChangeMaps (open_string shut_string)
open Go.PlainAid (bt get_bt bt_nonneg bt_le)
set_option linter.unusedVariables false

theorem own : ownKnob Try.prog.godebug = none := by kernel_rfl
theorem laidOut : laidOutB Try.prog = true := by kernel_rfl

set_option maxHeartbeats 8000000 in
set_option maxRecDepth 100000 in
theorem walk (w : World) (a0 : Option Addr) (l0 k0 : Nat) (z0 : List Int) (w0 : IsRow .u8 w a0 l0 k0 z0) :
    Calls Try.prog 4 #[.slice a0 l0 k0] w fun e w' => e = .returned (.bool true) ∧ Below w.heap.size w w' := by
  by_cases hl : 1048576 < l0
  · go_enter Try.func4, Try.ntmps4
    go_wp2
    go_ret
    exact ⟨rfl, Below.refl _ _⟩
  go_enter Try.func4, Try.ntmps4
  go_wp2_with fail
  refine (DrawTrayOf_any a0 l0 k0 z0 w w0).mono ?_
  rintro e u ⟨v, x, rfl, hx, n, base, V, MM, hm, hn, hl, bl⟩
  obtain ⟨ua, uc, rfl⟩ := mat_slice_r hm
  have HM := Lib.hid hm
  have HZ := Lib.hid (sz_of (by omega) hl)
  have BL := Lib.hid bl
  have hn2 : n ≤ 1048576 := by omega
  clear hm bl
  cases hok : traysOk n MM 20
  · have HTO := Lib.hid (trayOf_no (x := x) hok)
    have HOK := Lib.hid hok
    clear hok
    go_wp2_with fail
    refine (impl_TrayOf_r _ base _ n V MM HM.out HZ.out x).mono ?_
    rw [HTO.out]
    rintro e v1 ⟨rfl, k1⟩
    replace HM := Lib.hid (HM.out.on k1)
    replace BL := Lib.hid (step BL.out k1)
    clear k1
    go_wp2_with fail
    refine (spec_TrayOf_r _ base _ n V MM HM.out HZ.out x).mono ?_
    rw [HTO.out]
    rintro e v2 ⟨rfl, k2⟩
    replace HM := Lib.hid (HM.out.on k2)
    replace BL := Lib.hid (step BL.out k2)
    clear k2
    go_wp2_with fail
    refine (impl_TraysValid_r _ base _ n V MM HM.out HZ.out 20).mono ?_
    rw [HOK.out]
    rintro e v3 ⟨rfl, k3⟩
    replace HM := Lib.hid (HM.out.on k3)
    replace BL := Lib.hid (step BL.out k3)
    clear k3
    go_wp2_with fail
    refine (spec_TrayOf_r _ base _ n V MM HM.out HZ.out x).mono ?_
    rw [HTO.out]
    rintro e v4 ⟨rfl, k4⟩
    replace HM := Lib.hid (HM.out.on k4)
    replace BL := Lib.hid (step BL.out k4)
    clear k4
    go_wp2_with fail
    refine (impl_TraysValid_r _ base _ n V MM HM.out HZ.out 20).mono ?_
    rw [HOK.out]
    rintro e v5 ⟨rfl, k5⟩
    replace HM := Lib.hid (HM.out.on k5)
    replace BL := Lib.hid (step BL.out k5)
    clear k5
    go_wp2
    go_ret
    exact ⟨rfl, BL.out⟩
  · obtain ⟨hlaw, hlast⟩ := tray_law hok x
    have HOK := Lib.hid hok
    have HEM := Lib.hid (empty_yes hok)
    have HFB := Lib.hid (flat_batch hok).fits
    have HLW := Lib.hid hlaw
    have HLA := Lib.hid hlast
    obtain ⟨K, hK⟩ : ∃ K, trayOf n MM x = K := ⟨_, rfl⟩
    rw [hK] at HLW HLA
    have HTO := Lib.hid hK
    clear hok hlaw hlast hK
    go_wp2_with fail
    refine (impl_TrayOf_r _ base _ n V MM HM.out HZ.out x).mono ?_
    rw [HTO.out]
    rintro e v1 ⟨rfl, k1⟩
    replace HM := Lib.hid (HM.out.on k1)
    replace BL := Lib.hid (step BL.out k1)
    clear k1
    go_wp2_with fail
    refine (spec_TrayOf_r _ base _ n V MM HM.out HZ.out x).mono ?_
    rw [HTO.out]
    rintro e v2 ⟨rfl, k2⟩
    replace HM := Lib.hid (HM.out.on k2)
    replace BL := Lib.hid (step BL.out k2)
    clear k2
    go_wp2_with fail
    refine (impl_TraysValid_r _ base _ n V MM HM.out HZ.out 20).mono ?_
    rw [HOK.out]
    rintro e v3 ⟨rfl, k3⟩
    replace HM := Lib.hid (HM.out.on k3)
    replace BL := Lib.hid (step BL.out k3)
    clear k3
    go_wp2
    go_loopw [6] (fun i wr => ∃ j : Nat, j ≤ n ∧ i = .int .i64 j ∧ Hid (Below v3.heap.size v3 wr)) (fun i _ => n - (intOf i).toNat)
    case atStart => exact ⟨0, Nat.zero_le _, rfl, Below.refl _ _⟩
    case round =>
      obtain ⟨j, hj, rfl, hbl⟩ := hrel
      by_cases hlt : j < n
      · have hji : (j : Int) < (n : Int) := by omega
        obtain ⟨g, a, d, rfl, c0, hlts⟩ := mat_at_r (HM.out.on hbl.out) hlt
        have HLT := Lib.hid hlts
        have HFI := Lib.hid (HZ.out.one hlt).2
        obtain ⟨f, hf⟩ : ∃ f, M.findLetter (MM j).length (nI (MM j)) (nC (MM j)) x = f := ⟨_, rfl⟩
        have HFF := Lib.hid hf
        have hcase := HLW.out j hlt
        rw [hf] at hcase
        have hc2 : (0 ≤ f ∧ ((j : Int) == K) = true) ∨ (¬ 0 ≤ f ∧ ((j : Int) == K) = false) := by
          rcases hcase with ⟨h1, h2⟩ | ⟨h1, h2⟩
          · exact Or.inl ⟨h1, by rw [beq_iff_eq]; exact h2⟩
          · exact Or.inr ⟨by omega, by rw [beq_eq_false_iff_ne]; exact h2⟩
        clear hf hcase hlts
        rcases hc2 with ⟨hf0, hjk⟩ | ⟨hf0, hjk⟩
        all_goals
          go_wp2_with fail
          refine (soPlace_any _ _ _ _ _ _ HLT.out HFI.out x).mono ?_
          rw [HFF.out]
          rintro e w5 ⟨rfl, k5⟩
          have B5 := Lib.hid (sstep hbl.out k5)
          clear k5 HLT c0
          go_wp2
          go_roundw
          case rel => exact ⟨j + 1, by omega, by go_num, B5⟩
          case measure => simp [intOf]; omega
      · obtain rfl : j = n := by omega
        replace HM := Lib.hid (HM.out.on hbl.out)
        replace BL := Lib.hid (step BL.out hbl.out)
        clear hbl
        obtain ⟨f, hf⟩ : ∃ f, M.findLetter (M.flat MM j).length (nI (M.flat MM j)) (nC (M.flat MM j)) x = f := ⟨_, rfl⟩
        have HFF := Lib.hid hf
        have hcase := HLA.out
        rw [hf] at hcase
        clear hf
        go_wp2_with fail
        refine (impl_EmptyTrays_r _ base _ j V MM HM.out HZ.out).mono ?_
        rw [HOK.out, HEM.out]
        rintro e v8 ⟨p, rfl, r8, k8⟩
        replace BL := Lib.hid (step BL.out k8)
        obtain ⟨a1, c1, hv1, _, t1⟩ := r8.form
        subst hv1
        have T1 := Lib.hid t1
        clear t1 r8 k8
        have hc2 : (K ≥ 0 ∧ 0 ≤ f ∧ 0 ≤ K) ∨ (¬ K ≥ 0 ∧ ¬ 0 ≤ f ∧ ¬ 0 ≤ K) := by
          rcases hcase with ⟨h1, h2⟩ | ⟨h1, h2⟩
          · exact Or.inl ⟨h1, h2, h1⟩
          · exact Or.inr ⟨by omega, by omega, by omega⟩
        clear hcase
        rcases hc2 with ⟨hK1, hf0, hK0⟩ | ⟨hK1, hf0, hK0⟩
        all_goals
          have hd : (decide (0 ≤ K) == decide (0 ≤ f)) = true := by simp [hK0, hf0]
          go_wp2_with fail
          refine (soPlace_any _ _ _ _ _ _ T1.out HFB.out x).mono ?_
          rw [HFF.out]
          rintro e w9 ⟨rfl, k9⟩
          replace BL := Lib.hid (step BL.out k9)
          clear k9
          go_wp2
          go_ret
          exact ⟨rfl, BL.out⟩

set_option maxRecDepth 100000 in
theorem lifted (os : Os) (started : os.Started) (H : Type) (enc : TypeId × Value → H) :
    ReturnsInHanded {} Try.checked os 4 .any (Rows.fnTrayOfSpec.pre6 enc Try.prog Try.f4 Rows.fnTrayOfRow.domain false) (Rows.fnTrayOfSpec.post enc Try.prog Try.f4 false true false false) := by
  refine returnsInHanded_of_change (C := Try.checked) own started (by kernel_rfl) Try.func4
    (ChangeSpec.witness6 (enc := enc) (C := Try.checked) false ⟨#[], #[.slice none 0 0], []⟩ 8 (by kernel_rfl) (by kernel_rfl) (by kernel_rfl) (by kernel_rfl)) ?_
  intro W base args ds gs before hval0 hW hcnd _
  have hval : ∀ (j : Nat) t v, Try.f4.params[j]? = some t → args[j]? = some v → Value.okWide Try.prog W .any base t v := hval0
  have hW' := hW
  obtain ⟨p, q, hA0, hV, rfl, hfz, hnd⟩ := hW
  have hA : DataW.TrodAll enc Try.prog W 0 (fun _ => true) true Try.f4.params.toList args.toList ds p := hA0
  rw [Try.params4] at hA hval
  obtain ⟨v0, vs0, d0, ds0, p0, q0, hargs, rfl, rfl, h0, r0⟩ := trodAll_cons hA
  obtain ⟨rfl, rfl, rfl⟩ := trodAll_nil r0
  obtain rfl : args = #[v0] := by cases args; simp_all
  obtain ⟨rfl, rfl⟩ := trodVars_none hV
  have g0 := h0
  have lt0 : ∀ x ∈ p0, x.block < W.heap.size := by obtain ⟨m, hm⟩ := g0; exact DataW.trod_lt m _ _ _ hm
  obtain ⟨a0, l0, k0, rfl⟩ := okWide_slice Try.underlying22 (hval 0 22 v0 rfl rfl)
  obtain ⟨z0, w0⟩ : ∃ zs, IsRow .u8 W a0 l0 k0 zs := by
    obtain ⟨fuel, hf⟩ := h0
    rcases open_ints Try.underlying22 Try.underlying5 (by kernel_rfl) hf with ⟨hcs, _⟩ | ⟨x, l, c, zs, hcs, _, hl, hm, hz, _, hcell, hwz⟩
    · simp [Value.cells] at hcs
      obtain ⟨rfl, rfl, rfl⟩ := hcs
      exact ⟨[], .inl ⟨rfl, rfl, rfl, rfl⟩⟩
    · simp [Value.cells] at hcs
      obtain ⟨rfl, rfl, rfl⟩ := hcs
      exact ⟨zs, .inr ⟨_, rfl, hl, hm, by simpa using hz, hcell, hwz⟩⟩
  clear hA0 hval0
  refine (walk W a0 l0 k0 z0 w0).mono fun e W' ⟨he, bel⟩ => ?_
  subst he
  exact ⟨_, rfl, _, _, _, [], _, [], hW', trodAll_mk1 (shut_bool Try.underlying4 _), (trodAll_cons_mk (Below.trod laidOut (by kernel_rfl) (of_decide_eq_true (by kernel_rfl)) g0 bel lt0) trodAll_mk0), rfl, bel.frame _, fun h => by cases h⟩

theorem proved : Rows.FnTrayOfSaid :=
  OpenClaim.holds_of_wide 4 Try.f4 rfl rfl rfl rfl rfl rfl rfl ⟨rfl, rfl, rfl, rfl, rfl⟩ rfl rfl rfl rfl rfl (by kernel_rfl) Try.func4 (by kernel_rfl)
    (of_decide_eq_true (by kernel_rfl)) (by unfold Func.isWrapper; first | (rw [if_pos (by decide +kernel)]; kernel_rfl) | (rw [if_neg (by decide +kernel)]; exact ⟨rfl, rfl⟩))
    (fun os started H enc _ => lifted os started H enc)
#print axioms proved
end Go.Proofs.Ytihbpalhbbingaa.fnTrayOf
