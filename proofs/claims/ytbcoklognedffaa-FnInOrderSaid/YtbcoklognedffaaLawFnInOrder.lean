/-
  For every slice of bytes, laws.FnInOrder returns true.
-/
import Derived.Test.YtbcoklognedffaaRows
import Derived.Test.YtbcoklognedffaaDrawX
import Derived.Test.YtbcoklognedffaaRadN
import Derived.Test.YtbcoklognedffaaSoAny
import Derived.WalkKit
import Derived.ProofKit
import Derived.OpenShut
import Derived.ShutString
import Derived.ChangeOld
import Derived.Below
import Derived.Handy
import Derived.Lib.Hide
namespace Go.Proofs.Ytbcoklognedffaa.fnInOrder
open Go.ChangeShapes Go.WideShapes Go.ChangeAt Go.RowKit
open Go.ChangeMaps (open_string shut_string)
open Go.PlainAid (bt get_bt bt_nonneg bt_le)
set_option linter.unusedVariables false

theorem own : ownKnob Try.prog.godebug = none := by kernel_rfl
theorem laidOut : laidOutB Try.prog = true := by kernel_rfl

set_option maxHeartbeats 4000000 in
set_option maxRecDepth 100000 in
theorem walk (w : World) (a0 : Option Addr) (l0 k0 : Nat) (z0 : List Int) (w0 : IsRow .u8 w a0 l0 k0 z0) :
    Calls Try.prog 5 #[.slice a0 l0 k0] w fun e w' => e = .returned (.bool true) ∧ Below w.heap.size w w' := by
  by_cases hl : 1048576 < l0
  · go_enter Try.func5, Try.ntmps5
    go_wp2
    go_ret
    exact ⟨rfl, Below.refl _ _⟩
  go_enter Try.func5, Try.ntmps5
  go_wp2_with fail
  refine (DrawInOrder_any a0 l0 k0 z0 w w0).mono ?_
  rintro e u ⟨b, p, a, n, c, S, a2, m, c2, I, C, rfl, hpl, bl⟩
  have ba := below_alloc0 u (.cells #[.int .i64 b, .int .i64 p, .slice a n c] 25)
  have PL := Lib.hid (hpl.on ba)
  have X := Lib.hid (tri_made u (.int .i64 b) (.int .i64 p) (.slice a n c) 25)
  have BL := Lib.hid (step bl ba)
  obtain ⟨v0, hv0⟩ : ∃ v0, u.alloc (.cells #[.int .i64 b, .int .i64 p, .slice a n c] 25) = v0 := ⟨_, rfl⟩
  rw [hv0] at PL X BL
  have HV0 := Lib.hid hv0
  have hn := PL.out.pn
  have hm := PL.out.ln
  have hn2 : n ≤ 1048576 := by omega
  have hm2 : m ≤ 1048576 := by omega
  clear hpl bl ba hv0
  obtain ⟨o, ho⟩ : ∃ o, M.inOrder b p n S m I C = o := ⟨_, rfl⟩
  have HO := Lib.hid ho
  cases hok : runOk b p n S m I C
  · have HOK := Lib.hid hok
    rw [inOrder_not hok] at ho
    subst ho
    clear hok
    obtain ⟨⟨d0, d1, d2⟩, g0, g1, g2⟩ := X.out
    have lx := X.out.lt
    go_wp2_with fail
    rw [HV0.out]
    refine (impl_InOrder _ b p a n c S PL.out.ps PL.out.pf hn2 a2 m c2 I C PL.out.ls PL.out.lf).mono ?_
    rw [HO.out]
    rintro e v1 ⟨rfl, k1⟩
    clear d0 d1 d2 g0 g1 g2 lx
    replace BL := Lib.hid (step BL.out k1)
    replace PL := Lib.hid (PL.out.on k1)
    replace X := Lib.hid (X.out.on k1)
    clear k1
    obtain ⟨⟨d0, d1, d2⟩, g0, g1, g2⟩ := X.out
    have lx := X.out.lt
    go_wp2_with fail
    refine (spec_InOrder _ b p a n c S PL.out.ps PL.out.pf hn2 a2 m c2 I C PL.out.ls PL.out.lf hm2).mono ?_
    rw [HO.out]
    rintro e v2 ⟨rfl, k2⟩
    clear d0 d1 d2 g0 g1 g2 lx
    replace BL := Lib.hid (step BL.out k2)
    replace PL := Lib.hid (PL.out.on k2)
    replace X := Lib.hid (X.out.on k2)
    clear k2
    obtain ⟨⟨d0, d1, d2⟩, g0, g1, g2⟩ := X.out
    have lx := X.out.lt
    go_wp2_with fail
    refine (impl_RunPlan _ b p a n c S PL.out.ps PL.out.pf hn2 a2 m c2 I C PL.out.ls PL.out.lf hm2).mono ?_
    rw [HOK.out]
    rintro e v3 ⟨p1, p2, rfl, _, _, _, k3⟩
    clear d0 d1 d2 g0 g1 g2 lx
    replace BL := Lib.hid (step BL.out k3)
    replace PL := Lib.hid (PL.out.on k3)
    replace X := Lib.hid (X.out.on k3)
    clear k3
    obtain ⟨⟨d0, d1, d2⟩, g0, g1, g2⟩ := X.out
    have lx := X.out.lt
    go_wp2
    go_ret
    exact ⟨rfl, BL.out⟩
  · have HOK := Lib.hid hok
    have hio := inOrder_iff hok
    rw [ho] at hio
    have HIO := Lib.hid hio
    have HL1 := Lib.hid (runList_srt hok)
    have HL2 := Lib.hid (runRest_filter hok)
    have hr60 := (run_len b p n S m I C).2
    have hr61 := (run_len b p n S m I C).1
    obtain ⟨L1, hL1⟩ : ∃ L, srt n S (M.lst I C m) = L := ⟨_, rfl⟩
    obtain ⟨L2, hL2⟩ : ∃ L, ((M.lst I C m).filter fun y => !hasR n S y) = L := ⟨_, rfl⟩
    rw [hL1] at HL1 HIO
    rw [hL2] at HL2 HIO
    rw [HL1.out] at hr61
    rw [HL2.out] at hr60
    clear hok hL1 hL2 ho hio
    obtain ⟨⟨d0, d1, d2⟩, g0, g1, g2⟩ := X.out
    have lx := X.out.lt
    go_wp2_with fail
    rw [HV0.out]
    refine (impl_InOrder _ b p a n c S PL.out.ps PL.out.pf hn2 a2 m c2 I C PL.out.ls PL.out.lf).mono ?_
    rw [HO.out]
    rintro e v1 ⟨rfl, k1⟩
    clear d0 d1 d2 g0 g1 g2 lx
    replace BL := Lib.hid (step BL.out k1)
    replace PL := Lib.hid (PL.out.on k1)
    replace X := Lib.hid (X.out.on k1)
    clear k1
    obtain ⟨⟨d0, d1, d2⟩, g0, g1, g2⟩ := X.out
    have lx := X.out.lt
    go_wp2_with fail
    refine (spec_InOrder _ b p a n c S PL.out.ps PL.out.pf hn2 a2 m c2 I C PL.out.ls PL.out.lf hm2).mono ?_
    rw [HO.out]
    rintro e v2 ⟨rfl, k2⟩
    clear d0 d1 d2 g0 g1 g2 lx
    replace BL := Lib.hid (step BL.out k2)
    replace PL := Lib.hid (PL.out.on k2)
    replace X := Lib.hid (X.out.on k2)
    clear k2
    obtain ⟨⟨d0, d1, d2⟩, g0, g1, g2⟩ := X.out
    have lx := X.out.lt
    go_wp2_with fail
    refine (impl_RunPlan _ b p a n c S PL.out.ps PL.out.pf hn2 a2 m c2 I C PL.out.ls PL.out.lf hm2).mono ?_
    rw [HOK.out]
    rw [HL1.out]
    rw [HL2.out]
    rintro e v3 ⟨p1, p2, rfl, r1, r2, _, k3⟩
    obtain ⟨a4, c4, rfl, _, _⟩ := r1.form
    obtain ⟨a5, c5, rfl, _, _⟩ := r2.form
    clear r2
    clear d0 d1 d2 g0 g1 g2 lx
    replace BL := Lib.hid (step BL.out k3)
    replace PL := Lib.hid (PL.out.on k3)
    replace X := Lib.hid (X.out.on k3)
    have R1 := Lib.hid (r1)
    clear k3
    clear r1
    by_cases hz : L2.length = 0
    · have hnil : L2 = [] := List.eq_nil_of_length_eq_zero hz
      have hob : o = decide (L1 = M.lst I C m) := by rw [HIO.out, hnil, decide_eq_true rfl, Bool.true_and]
      have hzz : ((L2.length : Int) == 0) = true := by rw [beq_iff_eq]; omega
      have LR : Hid (Lts v3 a4 L1.length (nI L1) (nC L1)) := by
        obtain ⟨a9, c9, e9, _, l9⟩ := R1.out.form
        injection e9 with q1 q2 q3 <;> (subst q1; exact l9)
      have HOB : Hid (decide (M.lst (nI L1) (nC L1) L1.length = M.lst I C m) = o) := by unfold Hid; rw [lst_nI, hob]
      clear hnil hob HIO
      obtain ⟨⟨d0, d1, d2⟩, g0, g1, g2⟩ := X.out
      have lx := X.out.lt
      go_wp2_with fail
      refine (soBatch_any _ a4 a2 _ m _ _ _ _ _ _ LR.out PL.out.ls (by omega)).mono ?_
      rw [HOB.out]
      rintro e v4 ⟨rfl, k4⟩
      clear d0 d1 d2 g0 g1 g2 lx
      replace BL := Lib.hid (step BL.out k4)
      replace PL := Lib.hid (PL.out.on k4)
      replace X := Lib.hid (X.out.on k4)
      replace R1 := Lib.hid (R1.out.on k4)
      clear k4
      cases o
      all_goals
        obtain ⟨⟨d0, d1, d2⟩, g0, g1, g2⟩ := X.out
        have lx := X.out.lt
        go_wp2
        go_ret
        exact ⟨rfl, BL.out⟩
    · have hob : o = false := by
        rw [HIO.out, decide_eq_false (fun e => hz (by rw [e]; rfl)), Bool.false_and]
      have hzz : ((L2.length : Int) == 0) = false := by rw [beq_eq_false_iff_ne]; omega
      subst hob
      clear HIO
      obtain ⟨⟨d0, d1, d2⟩, g0, g1, g2⟩ := X.out
      have lx := X.out.lt
      go_wp2
      go_ret
      exact ⟨rfl, BL.out⟩

set_option maxRecDepth 100000 in
theorem lifted (os : Os) (started : os.Started) (H : Type) (enc : TypeId × Value → H) :
    ReturnsInHanded {} Try.checked os 5 .any (Rows.fnInOrderSpec.pre6 enc Try.prog Try.f5 Rows.fnInOrderRow.domain false) (Rows.fnInOrderSpec.post enc Try.prog Try.f5 false true false false) := by
  refine returnsInHanded_of_change (C := Try.checked) own started (by kernel_rfl) Try.func5
    (ChangeSpec.witness6 (enc := enc) (C := Try.checked) false ⟨#[], #[.slice none 0 0], []⟩ 8 (by kernel_rfl) (by kernel_rfl) (by kernel_rfl) (by kernel_rfl)) ?_
  intro W base args ds gs before hval0 hW hcnd _
  have hval : ∀ (j : Nat) t v, Try.f5.params[j]? = some t → args[j]? = some v → Value.okWide Try.prog W .any base t v := hval0
  have hW' := hW
  obtain ⟨p, q, hA0, hV, rfl, hfz, hnd⟩ := hW
  have hA : DataW.TrodAll enc Try.prog W 0 (fun _ => true) true Try.f5.params.toList args.toList ds p := hA0
  rw [Try.params5] at hA hval
  obtain ⟨v0, vs0, d0, ds0, p0, q0, hargs, rfl, rfl, h0, r0⟩ := trodAll_cons hA
  obtain ⟨rfl, rfl, rfl⟩ := trodAll_nil r0
  obtain rfl : args = #[v0] := by cases args; simp_all
  obtain ⟨rfl, rfl⟩ := trodVars_none hV
  have g0 := h0
  have lt0 : ∀ x ∈ p0, x.block < W.heap.size := by obtain ⟨m, hm⟩ := g0; exact DataW.trod_lt m _ _ _ hm
  obtain ⟨a0, l0, k0, rfl⟩ := okWide_slice Try.underlying22 (hval 0 22 v0 rfl rfl)
  obtain ⟨z0, w0⟩ : ∃ zs, IsRow .u8 W a0 l0 k0 zs := by
    obtain ⟨fuel, hf⟩ := h0
    rcases open_ints Try.underlying22 Try.underlying5 (by kernel_rfl) hf with ⟨hcs, _⟩ | ⟨x, l, c, zs, hcs, _, hl, hm, hz, _, hcell, hwz⟩
    · simp [Value.cells] at hcs
      obtain ⟨rfl, rfl, rfl⟩ := hcs
      exact ⟨[], .inl ⟨rfl, rfl, rfl, rfl⟩⟩
    · simp [Value.cells] at hcs
      obtain ⟨rfl, rfl, rfl⟩ := hcs
      exact ⟨zs, .inr ⟨_, rfl, hl, hm, by simpa using hz, hcell, hwz⟩⟩
  clear hA0 hval0
  refine (walk W a0 l0 k0 z0 w0).mono fun e W' ⟨he, bel⟩ => ?_
  subst he
  exact ⟨_, rfl, _, _, _, [], _, [], hW', trodAll_mk1 (shut_bool Try.underlying4 _), (trodAll_cons_mk (Below.trod laidOut (by kernel_rfl) (of_decide_eq_true (by kernel_rfl)) g0 bel lt0) trodAll_mk0), rfl, bel.frame _, fun h => by cases h⟩

theorem proved : Rows.FnInOrderSaid :=
  OpenClaim.holds_of_wide 5 Try.f5 rfl rfl rfl rfl rfl rfl rfl ⟨rfl, rfl, rfl, rfl, rfl⟩ rfl rfl rfl rfl rfl (by kernel_rfl) Try.func5 (by kernel_rfl)
    (of_decide_eq_true (by kernel_rfl)) (by unfold Func.isWrapper; first | (rw [if_pos (by decide +kernel)]; kernel_rfl) | (rw [if_neg (by decide +kernel)]; exact ⟨rfl, rfl⟩))
    (fun os started H enc _ => lifted os started H enc)
#print axioms proved
end Go.Proofs.Ytbcoklognedffaa.fnInOrder
