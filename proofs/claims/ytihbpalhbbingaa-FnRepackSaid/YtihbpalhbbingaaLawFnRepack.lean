/-
  For every slice of bytes, laws.FnRepack returns true.
-/
import Derived.Test.YtihbpalhbbingaaRows
import Derived.Test.YtihbpalhbbingaaDrawTz
import Derived.Test.YtihbpalhbbingaaRepA
import Derived.Test.YtihbpalhbbingaaTyR
import Derived.Test.YtihbpalhbbingaaRepKA
import Derived.Test.YtihbpalhbbingaaSmpA
import Derived.BigQuiet
import Derived.IntWalk
import Derived.WalkKit
import Derived.ProofKit
import Derived.OpenShut
import Derived.ShutString
import Derived.ChangeOld
import Derived.Below
import Derived.Handy
import Derived.Lib.Hide
namespace Go.Proofs.Ytihbpalhbbingaa.fnRepack
open Go.ChangeShapes Go.WideShapes Go.ChangeAt Go.RowKit
open Go.ChangeMaps (open_string shut_string)
open Go.PlainAid (bt get_bt bt_nonneg bt_le)
set_option linter.unusedVariables false

theorem own : ownKnob Try.prog.godebug = none := by kernel_rfl
theorem laidOut : laidOutB Try.prog = true := by kernel_rfl

set_option maxHeartbeats 8000000 in
set_option maxRecDepth 100000 in
theorem walk (w : World) (a0 : Option Addr) (l0 k0 : Nat) (z0 : List Int) (w0 : IsRow .u8 w a0 l0 k0 z0) :
    Calls Try.prog 6 #[.slice a0 l0 k0] w fun e w' => e = .returned (.bool true) ∧ Below w.heap.size w w' := by
  by_cases hl : 1048576 < l0
  · go_enter Try.func6, Try.ntmps6
    go_wp2
    go_ret
    exact ⟨rfl, Below.refl _ _⟩
  go_enter Try.func6, Try.ntmps6
  go_wp2_with fail
  refine (DrawRepackTrays_any a0 l0 k0 z0 w w0).mono ?_
  rintro e u ⟨v, x, rfl, hx, n, base, V, MM, hm, hn, hl, bl⟩
  obtain ⟨ua, uc, rfl⟩ := mat_slice_r hm
  have HM := Lib.hid hm
  have HZ := Lib.hid (sz_of (by omega) hl)
  have BL := Lib.hid bl
  have hn2 : n ≤ 1048576 := by omega
  clear hm bl
  have hN60 := (rep_le (n := n) (MM := MM) (s := x)).1
  have hL60 := (rep_le (n := n) (MM := MM) (s := x)).2
  have hno := fun h => repN_no (n := n) (MM := MM) (s := x) h
  have HLAW := fun h => rep_law (n := n) (MM := MM) (s := x) h
  have HI := Lib.hid (fun X (h : MatR X base (.slice ua n uc) n V MM) => impl_RepackTrays_r X base _ n V MM h HZ.out x)
  have HS := Lib.hid (fun X (h : MatR X base (.slice ua n uc) n V MM) => spec_RepackTrays_r X base _ n V MM h HZ.out x)
  obtain ⟨N, hN⟩ : ∃ N, repN n MM x = N := ⟨_, rfl⟩
  obtain ⟨Y, hY⟩ : ∃ Y, repM n MM x = Y := ⟨_, rfl⟩
  obtain ⟨ok, hok⟩ : ∃ ok, repOk n MM x = ok := ⟨_, rfl⟩
  rw [hN, hY, hok] at HI HS HLAW
  rw [hN] at hN60 hL60 hno
  rw [hY] at hL60
  rw [hok] at hno
  have hn9 : N ≤ 1048576 := by omega
  have HZL : Hid (∀ i, i < N → (Y i).length ≤ 1048576) := fun i hi => by have := hL60 i hi; omega
  clear hN hY hok hL60
  cases ok
  · clear HLAW hno
    go_wp2_with fail
    refine (HI.out _ HM.out).mono ?_
    rintro e v1 ⟨p1, V1, rfl, m1, k1⟩
    replace HM := Lib.hid (HM.out.on k1)
    replace BL := Lib.hid (step BL.out k1)
    have HM1 := Lib.hid m1
    clear m1
    clear k1
    obtain ⟨G1, C1, hp1⟩ : ∃ g c, p1 = .slice g N c := by
      rcases HM1.out.form with ⟨rfl, h⟩ | ⟨g, c, rfl, _⟩
      · exact ⟨_, _, by first | rfl | (rw [h])⟩
      · exact ⟨_, _, rfl⟩
    subst hp1
    go_wp2_with fail
    refine (HS.out _ HM.out).mono ?_
    rintro e v2 ⟨p2, V2, rfl, m2, k2⟩
    replace HM := Lib.hid (HM.out.on k2)
    replace BL := Lib.hid (step BL.out k2)
    replace HM1 := Lib.hid (HM1.out.on k2)
    have HM2 := Lib.hid m2
    clear m2
    clear k2
    go_wp2_with fail
    refine (soBins_mat _ _ _ _ p2 N V1 V2 Y HM1.out HM2.out hn9 HZL.out).mono ?_
    rintro e v3 ⟨rfl, k3⟩
    replace HM := Lib.hid (HM.out.on k3)
    replace BL := Lib.hid (step BL.out k3)
    replace HM1 := Lib.hid (HM1.out.on k3)
    replace HM2 := Lib.hid (HM2.out.on k3)
    clear k3
    go_wp2_with fail
    refine (soBins_mat _ _ _ _ p2 N V1 V2 Y HM1.out HM2.out hn9 HZL.out).mono ?_
    rintro e v4 ⟨rfl, k4⟩
    replace HM := Lib.hid (HM.out.on k4)
    replace BL := Lib.hid (step BL.out k4)
    clear k4
    go_wp2
    go_ret
    exact ⟨rfl, BL.out⟩
  · obtain ⟨L, hL, hB, ro, rN, rM, fo, fn, fm, hfl, hsz, hmore⟩ := HLAW rfl
    have HSZ2 := Lib.hid hsz
    have HI2 : Hid (∀ X b v V', Mat X b v N V' Y → Calls Try.prog 22 #[v, .int .i64 x] X (BinsRes X true N Y)) := fun X b v V' h => by
      have := impl_RepackTrays_r X b v N V' Y h.r HSZ2.out x
      rw [ro, rN, rM] at this
      exact this
    have HFT : Hid (∀ X a c, Lts X a L.length (nI L) (nC L) → Calls Try.prog 25 #[.slice a L.length c, .int .i64 x] X (BinsRes X true N Y)) := fun X a c h => by
      have := impl_FillTrays X a L.length c _ _ h hB.fits x
      rw [fo, fn, fm] at this
      exact this
    have HST : Hid (∀ X, MatR X base (.slice ua n uc) n V MM → Calls Try.prog 20 #[.slice ua n uc] X (RowOut X L)) := fun X h => by
      have := soTrays_r X base _ n V MM h HZ.out.1 HZ.out.2.1
      rw [hL] at this
      exact this
    have HSX : Hid (∀ X b v V', Mat X b v N V' Y → Calls Try.prog 20 #[v] X (RowOut X L)) := fun X b v V' h => by
      have := soTrays_r X b v N V' Y h.r HSZ2.out.1 HSZ2.out.2.1
      rw [hfl] at this
      exact this
    have hL9 : L.length ≤ 1048576 := by have := hB.2.2; omega
    have HMO : Hid (traysOk n MM x = false ∨ (traysOk n MM x = true ∧ N ≤ n)) := by
      cases ht : traysOk n MM x
      · exact Or.inl rfl
      · exact Or.inr ⟨rfl, hmore ht⟩
    clear HLAW hno hL hB ro rN rM fo fn fm hfl hsz hmore
    go_wp2_with fail
    refine (HI.out _ HM.out).mono ?_
    rintro e v1 ⟨p1, V1, rfl, m1, k1⟩
    replace HM := Lib.hid (HM.out.on k1)
    replace BL := Lib.hid (step BL.out k1)
    have HM1 := Lib.hid m1
    clear m1
    clear k1
    obtain ⟨G1, C1, hp1⟩ : ∃ g c, p1 = .slice g N c := by
      rcases HM1.out.form with ⟨rfl, h⟩ | ⟨g, c, rfl, _⟩
      · exact ⟨_, _, by first | rfl | (rw [h])⟩
      · exact ⟨_, _, rfl⟩
    subst hp1
    go_wp2_with fail
    refine (HS.out _ HM.out).mono ?_
    rintro e v2 ⟨p2, V2, rfl, m2, k2⟩
    replace HM := Lib.hid (HM.out.on k2)
    replace BL := Lib.hid (step BL.out k2)
    replace HM1 := Lib.hid (HM1.out.on k2)
    have HM2 := Lib.hid m2
    clear m2
    clear k2
    go_wp2_with fail
    refine (soBins_mat _ _ _ _ p2 N V1 V2 Y HM1.out HM2.out hn9 HZL.out).mono ?_
    rintro e v3 ⟨rfl, k3⟩
    replace HM := Lib.hid (HM.out.on k3)
    replace BL := Lib.hid (step BL.out k3)
    replace HM1 := Lib.hid (HM1.out.on k3)
    replace HM2 := Lib.hid (HM2.out.on k3)
    clear k3
    clear HM2 HI HS
    go_wp2_with fail
    refine (HI2.out _ _ _ _ HM1.out).mono ?_
    rintro e v4 ⟨p4, V4, rfl, m4, k4⟩
    replace HM := Lib.hid (HM.out.on k4)
    replace BL := Lib.hid (step BL.out k4)
    replace HM1 := Lib.hid (HM1.out.on k4)
    have HM4 := Lib.hid m4
    clear m4
    clear k4
    go_wp2_with fail
    refine (HST.out _ HM.out).mono ?_
    rintro e v5 ⟨p5, rfl, r5, k5⟩
    replace HM := Lib.hid (HM.out.on k5)
    replace BL := Lib.hid (step BL.out k5)
    replace HM1 := Lib.hid (HM1.out.on k5)
    replace HM4 := Lib.hid (HM4.out.on k5)
    clear k5
    obtain ⟨a5, c5, hv5, _, t5⟩ := r5.form
    subst hv5
    have T5 := Lib.hid t5
    clear t5 r5
    go_wp2_with fail
    refine (HFT.out _ _ _ T5.out).mono ?_
    rintro e v6 ⟨p6, V6, rfl, m6, k6⟩
    replace HM := Lib.hid (HM.out.on k6)
    replace BL := Lib.hid (step BL.out k6)
    replace HM1 := Lib.hid (HM1.out.on k6)
    replace HM4 := Lib.hid (HM4.out.on k6)
    have HM6 := Lib.hid m6
    clear m6
    clear k6
    go_wp2_with fail
    refine (soBins_mat _ _ _ _ _ N V4 V1 Y HM4.out HM1.out hn9 HZL.out).mono ?_
    rintro e v7 ⟨rfl, k7⟩
    replace HM := Lib.hid (HM.out.on k7)
    replace BL := Lib.hid (step BL.out k7)
    replace HM1 := Lib.hid (HM1.out.on k7)
    replace HM4 := Lib.hid (HM4.out.on k7)
    replace HM6 := Lib.hid (HM6.out.on k7)
    clear k7
    go_wp2_with fail
    refine (soBins_mat _ _ _ _ p6 N V1 V6 Y HM1.out HM6.out hn9 HZL.out).mono ?_
    rintro e v8 ⟨rfl, k8⟩
    replace HM := Lib.hid (HM.out.on k8)
    replace BL := Lib.hid (step BL.out k8)
    replace HM1 := Lib.hid (HM1.out.on k8)
    clear k8
    go_wp2_with fail
    refine (HSX.out _ _ _ _ HM1.out).mono ?_
    rintro e v9 ⟨p9, rfl, r9, k9⟩
    replace HM := Lib.hid (HM.out.on k9)
    replace BL := Lib.hid (step BL.out k9)
    replace HM1 := Lib.hid (HM1.out.on k9)
    have R9 := Lib.hid r9
    clear r9
    clear k9
    go_wp2_with fail
    refine (HST.out _ HM.out).mono ?_
    rintro e v10 ⟨p10, rfl, r10, k10⟩
    replace HM := Lib.hid (HM.out.on k10)
    replace BL := Lib.hid (step BL.out k10)
    replace R9 := Lib.hid (R9.out.on k10)
    have R10 := Lib.hid r10
    clear r10
    clear k10
    go_wp2_with fail
    refine (soBatch_row _ _ _ _ _ _ R9.out R10.out hL9).mono ?_
    rintro e v11 ⟨rfl, k11⟩
    replace HM := Lib.hid (HM.out.on k11)
    replace BL := Lib.hid (step BL.out k11)
    clear k11
    have HMO2 := HMO.out
    rcases HMO2 with ht | ⟨ht, hle⟩
    · have HTT := Lib.hid ht
      clear ht
      go_wp2_with fail
      refine (impl_TraysValid_r _ base _ n V MM HM.out HZ.out x).mono ?_
      rw [HTT.out]
      rintro e v12 ⟨rfl, k12⟩
      replace HM := Lib.hid (HM.out.on k12)
      replace BL := Lib.hid (step BL.out k12)
      clear k12
      go_wp2
      go_ret
      exact ⟨rfl, BL.out⟩
    · have HTT := Lib.hid ht
      have hlei : (N : Int) ≤ (n : Int) := by omega
      clear ht
      go_wp2_with fail
      refine (impl_TraysValid_r _ base _ n V MM HM.out HZ.out x).mono ?_
      rw [HTT.out]
      rintro e v12 ⟨rfl, k12⟩
      replace HM := Lib.hid (HM.out.on k12)
      replace BL := Lib.hid (step BL.out k12)
      clear k12
      go_wp2
      go_ret
      exact ⟨rfl, BL.out⟩

set_option maxRecDepth 100000 in
theorem lifted (os : Os) (started : os.Started) (H : Type) (enc : TypeId × Value → H) :
    ReturnsInHanded {} Try.checked os 6 .any (Rows.fnRepackSpec.pre6 enc Try.prog Try.f6 Rows.fnRepackRow.domain false) (Rows.fnRepackSpec.post enc Try.prog Try.f6 false true false false) := by
  refine returnsInHanded_of_change (C := Try.checked) own started (by kernel_rfl) Try.func6
    (ChangeSpec.witness6 (enc := enc) (C := Try.checked) false ⟨#[], #[.slice none 0 0], []⟩ 8 (by kernel_rfl) (by kernel_rfl) (by kernel_rfl) (by kernel_rfl)) ?_
  intro W base args ds gs before hval0 hW hcnd _
  have hval : ∀ (j : Nat) t v, Try.f6.params[j]? = some t → args[j]? = some v → Value.okWide Try.prog W .any base t v := hval0
  have hW' := hW
  obtain ⟨p, q, hA0, hV, rfl, hfz, hnd⟩ := hW
  have hA : DataW.TrodAll enc Try.prog W 0 (fun _ => true) true Try.f6.params.toList args.toList ds p := hA0
  rw [Try.params6] at hA hval
  obtain ⟨v0, vs0, d0, ds0, p0, q0, hargs, rfl, rfl, h0, r0⟩ := trodAll_cons hA
  obtain ⟨rfl, rfl, rfl⟩ := trodAll_nil r0
  obtain rfl : args = #[v0] := by cases args; simp_all
  obtain ⟨rfl, rfl⟩ := trodVars_none hV
  have g0 := h0
  have lt0 : ∀ x ∈ p0, x.block < W.heap.size := by obtain ⟨m, hm⟩ := g0; exact DataW.trod_lt m _ _ _ hm
  obtain ⟨a0, l0, k0, rfl⟩ := okWide_slice Try.underlying22 (hval 0 22 v0 rfl rfl)
  obtain ⟨z0, w0⟩ : ∃ zs, IsRow .u8 W a0 l0 k0 zs := by
    obtain ⟨fuel, hf⟩ := h0
    rcases open_ints Try.underlying22 Try.underlying5 (by kernel_rfl) hf with ⟨hcs, _⟩ | ⟨x, l, c, zs, hcs, _, hl, hm, hz, _, hcell, hwz⟩
    · simp [Value.cells] at hcs
      obtain ⟨rfl, rfl, rfl⟩ := hcs
      exact ⟨[], .inl ⟨rfl, rfl, rfl, rfl⟩⟩
    · simp [Value.cells] at hcs
      obtain ⟨rfl, rfl, rfl⟩ := hcs
      exact ⟨zs, .inr ⟨_, rfl, hl, hm, by simpa using hz, hcell, hwz⟩⟩
  clear hA0 hval0
  refine (walk W a0 l0 k0 z0 w0).mono fun e W' ⟨he, bel⟩ => ?_
  subst he
  exact ⟨_, rfl, _, _, _, [], _, [], hW', trodAll_mk1 (shut_bool Try.underlying4 _), (trodAll_cons_mk (Below.trod laidOut (by kernel_rfl) (of_decide_eq_true (by kernel_rfl)) g0 bel lt0) trodAll_mk0), rfl, bel.frame _, fun h => by cases h⟩

theorem proved : Rows.FnRepackSaid :=
  OpenClaim.holds_of_wide 6 Try.f6 rfl rfl rfl rfl rfl rfl rfl ⟨rfl, rfl, rfl, rfl, rfl⟩ rfl rfl rfl rfl rfl (by kernel_rfl) Try.func6 (by kernel_rfl)
    (of_decide_eq_true (by kernel_rfl)) (by unfold Func.isWrapper; first | (rw [if_pos (by decide +kernel)]; kernel_rfl) | (rw [if_neg (by decide +kernel)]; exact ⟨rfl, rfl⟩))
    (fun os started H enc _ => lifted os started H enc)
#print axioms proved
end Go.Proofs.Ytihbpalhbbingaa.fnRepack
