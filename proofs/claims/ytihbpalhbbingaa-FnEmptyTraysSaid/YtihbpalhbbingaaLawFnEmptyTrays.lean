/-
  For every slice of bytes, laws.FnEmptyTrays returns true.
-/
import Derived.Test.YtihbpalhbbingaaRows
import Derived.Test.YtihbpalhbbingaaDrawTz
import Derived.Test.YtihbpalhbbingaaTyR
import Derived.Test.YtihbpalhbbingaaTryN
import Derived.Test.YtihbpalhbbingaaSo
import Derived.BigQuiet
import Derived.IntWalk
import Derived.WalkKit
import Derived.ProofKit
import Derived.OpenShut
import Derived.ShutString
import Derived.ChangeOld
import Derived.Below
import Derived.Handy
import Derived.Lib.Hide
namespace Go.Proofs.Ytihbpalhbbingaa.fnEmptyTrays
open Go.ChangeShapes Go.WideShapes Go.ChangeAt Go.RowKit
open Go.ChangeMaps (open_string shut_string)
open Go.PlainAid (bt get_bt bt_nonneg bt_le)
set_option linter.unusedVariables false

theorem own : ownKnob Try.prog.godebug = none := by kernel_rfl
theorem laidOut : laidOutB Try.prog = true := by kernel_rfl

set_option maxHeartbeats 8000000 in
set_option maxRecDepth 100000 in
theorem walk (w : World) (a0 : Option Addr) (l0 k0 : Nat) (z0 : List Int) (w0 : IsRow .u8 w a0 l0 k0 z0) :
    Calls Try.prog 5 #[.slice a0 l0 k0] w fun e w' => e = .returned (.bool true) ∧ Below w.heap.size w w' := by
  by_cases hl : 1048576 < l0
  · go_enter Try.func5, Try.ntmps5
    go_wp2
    go_ret
    exact ⟨rfl, Below.refl _ _⟩
  go_enter Try.func5, Try.ntmps5
  go_wp2_with fail
  refine (DrawEmptyTrays_any a0 l0 k0 z0 w w0).mono ?_
  rintro e u ⟨v, rfl, n, base, V, MM, hm, hn, hl, bl⟩
  obtain ⟨ua, uc, rfl⟩ := mat_slice_r hm
  have HM := Lib.hid hm
  have HZ := Lib.hid (sz_of (by omega) hl)
  have BL := Lib.hid bl
  have hn2 : n ≤ 1048576 := by omega
  clear hm bl
  have HE60 : Hid ((empty n MM).length ≤ 1048576) := by have := empty_le (n := n) (MM := MM); show _ ≤ _; omega
  have hlaw := fun h => flat_batch (n := n) (MM := MM) (s := 20) h
  have hyes := fun h => empty_yes (n := n) (MM := MM) h
  obtain ⟨E, hE⟩ : ∃ E, empty n MM = E := ⟨_, rfl⟩
  have HEM := Lib.hid hE
  rw [hE] at HE60 hyes
  clear hE
  cases hok : traysOk n MM 20
  · have HOK := Lib.hid hok
    clear hok hlaw hyes
    go_wp2_with fail
    refine (impl_EmptyTrays_r _ base _ n V MM HM.out HZ.out).mono ?_
    rw [HOK.out]
    rw [HEM.out]
    rintro e v1 ⟨p, rfl, r1, k1⟩
    replace HM := Lib.hid (HM.out.on k1)
    replace BL := Lib.hid (step BL.out k1)
    have R1 := Lib.hid r1
    clear r1
    clear k1
    go_wp2_with fail
    refine (spec_EmptyTrays_r _ base _ n V MM HM.out HZ.out).mono ?_
    rw [HOK.out]
    rw [HEM.out]
    rintro e v2 ⟨q, rfl, r2, k2⟩
    replace HM := Lib.hid (HM.out.on k2)
    replace BL := Lib.hid (step BL.out k2)
    replace R1 := Lib.hid (R1.out.on k2)
    have R2 := Lib.hid r2
    clear r2
    clear k2
    go_wp2_with fail
    refine (soBatch_row _ _ _ _ _ _ R1.out R2.out HE60.out).mono ?_
    rintro e v3 ⟨rfl, k3⟩
    replace HM := Lib.hid (HM.out.on k3)
    replace BL := Lib.hid (step BL.out k3)
    replace R1 := Lib.hid (R1.out.on k3)
    replace R2 := Lib.hid (R2.out.on k3)
    clear k3
    go_wp2_with fail
    refine (impl_TraysValid_r _ base _ n V MM HM.out HZ.out 20).mono ?_
    rw [HOK.out]
    rintro e v4 ⟨rfl, k4⟩
    replace HM := Lib.hid (HM.out.on k4)
    replace BL := Lib.hid (step BL.out k4)
    replace R1 := Lib.hid (R1.out.on k4)
    replace R2 := Lib.hid (R2.out.on k4)
    clear k4
    go_wp2_with fail
    refine (soBatch_row _ _ _ _ _ _ R1.out R2.out HE60.out).mono ?_
    rintro e v5 ⟨rfl, k5⟩
    replace HM := Lib.hid (HM.out.on k5)
    replace BL := Lib.hid (step BL.out k5)
    replace R1 := Lib.hid (R1.out.on k5)
    replace R2 := Lib.hid (R2.out.on k5)
    clear k5
    go_wp2_with fail
    refine (impl_TraysValid_r _ base _ n V MM HM.out HZ.out 20).mono ?_
    rw [HOK.out]
    rintro e v6 ⟨rfl, k6⟩
    replace HM := Lib.hid (HM.out.on k6)
    replace BL := Lib.hid (step BL.out k6)
    replace R1 := Lib.hid (R1.out.on k6)
    replace R2 := Lib.hid (R2.out.on k6)
    clear k6
    go_wp2
    go_ret
    exact ⟨rfl, BL.out⟩
  · have HOK := Lib.hid hok
    have hB := hlaw hok
    have hf := hyes hok
    clear hlaw hyes hok
    rw [← hf] at hB
    have HB := Lib.hid ((batchL_list _).2 hB)
    have HFI := Lib.hid hB.fits
    have HFL := Lib.hid hf
    clear hB hf
    go_wp2_with fail
    refine (impl_EmptyTrays_r _ base _ n V MM HM.out HZ.out).mono ?_
    rw [HOK.out]
    rw [HEM.out]
    rintro e v1 ⟨p, rfl, r1, k1⟩
    replace HM := Lib.hid (HM.out.on k1)
    replace BL := Lib.hid (step BL.out k1)
    have R1 := Lib.hid r1
    clear r1
    clear k1
    go_wp2_with fail
    refine (spec_EmptyTrays_r _ base _ n V MM HM.out HZ.out).mono ?_
    rw [HOK.out]
    rw [HEM.out]
    rintro e v2 ⟨q, rfl, r2, k2⟩
    replace HM := Lib.hid (HM.out.on k2)
    replace BL := Lib.hid (step BL.out k2)
    replace R1 := Lib.hid (R1.out.on k2)
    have R2 := Lib.hid r2
    clear r2
    clear k2
    go_wp2_with fail
    refine (soBatch_row _ _ _ _ _ _ R1.out R2.out HE60.out).mono ?_
    rintro e v3 ⟨rfl, k3⟩
    replace HM := Lib.hid (HM.out.on k3)
    replace BL := Lib.hid (step BL.out k3)
    replace R1 := Lib.hid (R1.out.on k3)
    replace R2 := Lib.hid (R2.out.on k3)
    clear k3
    go_wp2_with fail
    refine (impl_TraysValid_r _ base _ n V MM HM.out HZ.out 20).mono ?_
    rw [HOK.out]
    rintro e v4 ⟨rfl, k4⟩
    replace HM := Lib.hid (HM.out.on k4)
    replace BL := Lib.hid (step BL.out k4)
    replace R1 := Lib.hid (R1.out.on k4)
    replace R2 := Lib.hid (R2.out.on k4)
    clear k4
    obtain ⟨a1, c1, hv1, _, t1⟩ := R1.out.form
    subst hv1
    have T1 := Lib.hid t1
    clear t1 R2
    go_wp2_with fail
    refine (impl_BatchValid _ _ _ _ _ _ T1.out HFI.out).mono ?_
    rw [HB.out]
    rintro e v5 ⟨rfl, k5⟩
    replace HM := Lib.hid (HM.out.on k5)
    replace BL := Lib.hid (step BL.out k5)
    replace R1 := Lib.hid (R1.out.on k5)
    clear k5
    go_wp2_with fail
    refine (soTrays_r _ base _ n V MM HM.out HZ.out.1 HZ.out.2.1).mono ?_
    rw [← HFL.out]
    rintro e v6 ⟨p6, rfl, r6, k6⟩
    replace HM := Lib.hid (HM.out.on k6)
    replace BL := Lib.hid (step BL.out k6)
    replace R1 := Lib.hid (R1.out.on k6)
    have R6 := Lib.hid r6
    clear r6
    clear k6
    go_wp2_with fail
    refine (soBatch_row _ _ _ _ _ _ R6.out R1.out HE60.out).mono ?_
    rintro e v7 ⟨rfl, k7⟩
    replace HM := Lib.hid (HM.out.on k7)
    replace BL := Lib.hid (step BL.out k7)
    replace R1 := Lib.hid (R1.out.on k7)
    clear k7
    go_wp2
    go_ret
    exact ⟨rfl, BL.out⟩

set_option maxRecDepth 100000 in
theorem lifted (os : Os) (started : os.Started) (H : Type) (enc : TypeId × Value → H) :
    ReturnsInHanded {} Try.checked os 5 .any (Rows.fnEmptyTraysSpec.pre6 enc Try.prog Try.f5 Rows.fnEmptyTraysRow.domain false) (Rows.fnEmptyTraysSpec.post enc Try.prog Try.f5 false true false false) := by
  refine returnsInHanded_of_change (C := Try.checked) own started (by kernel_rfl) Try.func5
    (ChangeSpec.witness6 (enc := enc) (C := Try.checked) false ⟨#[], #[.slice none 0 0], []⟩ 8 (by kernel_rfl) (by kernel_rfl) (by kernel_rfl) (by kernel_rfl)) ?_
  intro W base args ds gs before hval0 hW hcnd _
  have hval : ∀ (j : Nat) t v, Try.f5.params[j]? = some t → args[j]? = some v → Value.okWide Try.prog W .any base t v := hval0
  have hW' := hW
  obtain ⟨p, q, hA0, hV, rfl, hfz, hnd⟩ := hW
  have hA : DataW.TrodAll enc Try.prog W 0 (fun _ => true) true Try.f5.params.toList args.toList ds p := hA0
  rw [Try.params5] at hA hval
  obtain ⟨v0, vs0, d0, ds0, p0, q0, hargs, rfl, rfl, h0, r0⟩ := trodAll_cons hA
  obtain ⟨rfl, rfl, rfl⟩ := trodAll_nil r0
  obtain rfl : args = #[v0] := by cases args; simp_all
  obtain ⟨rfl, rfl⟩ := trodVars_none hV
  have g0 := h0
  have lt0 : ∀ x ∈ p0, x.block < W.heap.size := by obtain ⟨m, hm⟩ := g0; exact DataW.trod_lt m _ _ _ hm
  obtain ⟨a0, l0, k0, rfl⟩ := okWide_slice Try.underlying22 (hval 0 22 v0 rfl rfl)
  obtain ⟨z0, w0⟩ : ∃ zs, IsRow .u8 W a0 l0 k0 zs := by
    obtain ⟨fuel, hf⟩ := h0
    rcases open_ints Try.underlying22 Try.underlying5 (by kernel_rfl) hf with ⟨hcs, _⟩ | ⟨x, l, c, zs, hcs, _, hl, hm, hz, _, hcell, hwz⟩
    · simp [Value.cells] at hcs
      obtain ⟨rfl, rfl, rfl⟩ := hcs
      exact ⟨[], .inl ⟨rfl, rfl, rfl, rfl⟩⟩
    · simp [Value.cells] at hcs
      obtain ⟨rfl, rfl, rfl⟩ := hcs
      exact ⟨zs, .inr ⟨_, rfl, hl, hm, by simpa using hz, hcell, hwz⟩⟩
  clear hA0 hval0
  refine (walk W a0 l0 k0 z0 w0).mono fun e W' ⟨he, bel⟩ => ?_
  subst he
  exact ⟨_, rfl, _, _, _, [], _, [], hW', trodAll_mk1 (shut_bool Try.underlying4 _), (trodAll_cons_mk (Below.trod laidOut (by kernel_rfl) (of_decide_eq_true (by kernel_rfl)) g0 bel lt0) trodAll_mk0), rfl, bel.frame _, fun h => by cases h⟩

theorem proved : Rows.FnEmptyTraysSaid :=
  OpenClaim.holds_of_wide 5 Try.f5 rfl rfl rfl rfl rfl rfl rfl ⟨rfl, rfl, rfl, rfl, rfl⟩ rfl rfl rfl rfl rfl (by kernel_rfl) Try.func5 (by kernel_rfl)
    (of_decide_eq_true (by kernel_rfl)) (by unfold Func.isWrapper; first | (rw [if_pos (by decide +kernel)]; kernel_rfl) | (rw [if_neg (by decide +kernel)]; exact ⟨rfl, rfl⟩))
    (fun os started H enc _ => lifted os started H enc)
#print axioms proved
end Go.Proofs.Ytihbpalhbbingaa.fnEmptyTrays
