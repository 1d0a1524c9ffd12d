/-
  For every slice of bytes, laws.FnSame returns true.
-/
import Derived.Test.YtekkajgifgnklaaRows
import Derived.Test.YtekkajgifgnklaaDrawSf
import Derived.Test.YtekkajgifgnklaaSoTd
import Derived.Test.YtekkajgifgnklaaSmM
import Derived.BigQuiet
import Derived.IntWalk
import Derived.WalkKit
import Derived.ProofKit
import Derived.OpenShut
import Derived.ShutString
import Derived.ChangeOld
import Derived.Below
import Derived.Handy
import Derived.Lib.Hide
namespace Go.Proofs.Ytekkajgifgnklaa.fnSame
open Go.ChangeShapes Go.WideShapes Go.ChangeAt Go.RowKit
open Go.ChangeMaps (open_string shut_string)
open Go.PlainAid (bt get_bt bt_nonneg bt_le)
set_option linter.unusedVariables false

theorem own : ownKnob Try.prog.godebug = none := by kernel_rfl
theorem laidOut : laidOutB Try.prog = true := by kernel_rfl

set_option maxHeartbeats 8000000 in
set_option maxRecDepth 100000 in
theorem walk (w : World) (a0 : Option Addr) (l0 k0 : Nat) (z0 : List Int) (w0 : IsRow .u8 w a0 l0 k0 z0) :
    Calls Try.prog 4 #[.slice a0 l0 k0] w fun e w' => e = .returned (.bool true) ∧ Below w.heap.size w w' := by
  by_cases hl : 1048576 < l0
  · go_enter Try.func4, Try.ntmps4
    go_wp2
    go_ret
    exact ⟨rfl, Below.refl _ _⟩
  go_enter Try.func4, Try.ntmps4
  go_wp2_with fail
  refine (DrawSameForwards_any a0 l0 k0 z0 w w0).mono ?_
  rintro e u ⟨_, _, rfl, ⟨a, n, c, F, T, rfl, la, fa, hn, bl⟩, ⟨a2, n2, c2, F2, T2, rfl, lb, fb, hn2, _⟩⟩
  have LA := Lib.hid la
  have LB := Lib.hid lb
  have FA := Lib.hid fa
  have FB := Lib.hid fb
  have BL := Lib.hid bl
  clear la lb fa fb bl
  have HI := Lib.hid (fun X ha hb => impl_SameForwards X a n c F T ha FA.out a2 n2 c2 F2 T2 hb FB.out)
  have HS := Lib.hid (fun X ha hb => spec_SameForwards X a n c F T ha FA.out (by omega) a2 n2 c2 F2 T2 hb FB.out (by omega))
  have HVA := Lib.hid (fun X ha => impl_ForwardsValid X a n c F T ha FA.out)
  have HVB := Lib.hid (fun X hb => impl_ForwardsValid X a2 n2 c2 F2 T2 hb FB.out)
  obtain ⟨S, hS⟩ : ∃ S, M.same F T n F2 T2 n2 = S := ⟨_, rfl⟩
  rw [hS] at HI HS
  cases hok : M.fwd n F T
  · rw [M.same_no1 hok] at hS
    subst hS
    rw [hok] at HVA
    clear hok
    go_wp2_with fail
    refine (HI.out _ LA.out LB.out).mono ?_
    rintro e v1 ⟨rfl, k1⟩
    replace LA := Lib.hid (LA.out.on k1)
    replace LB := Lib.hid (LB.out.on k1)
    replace BL := Lib.hid (step BL.out k1)
    clear k1
    go_wp2_with fail
    refine (HS.out _ LA.out LB.out).mono ?_
    rintro e v2 ⟨rfl, k2⟩
    replace LA := Lib.hid (LA.out.on k2)
    replace LB := Lib.hid (LB.out.on k2)
    replace BL := Lib.hid (step BL.out k2)
    clear k2
    go_wp2_with fail
    refine (HVA.out _ LA.out).mono ?_
    rintro e v3 ⟨rfl, k3⟩
    replace LA := Lib.hid (LA.out.on k3)
    replace LB := Lib.hid (LB.out.on k3)
    replace BL := Lib.hid (step BL.out k3)
    clear k3
    go_wp2_with fail
    refine (HS.out _ LA.out LB.out).mono ?_
    rintro e v4 ⟨rfl, k4⟩
    replace LA := Lib.hid (LA.out.on k4)
    replace LB := Lib.hid (LB.out.on k4)
    replace BL := Lib.hid (step BL.out k4)
    clear k4
    go_wp2
    go_ret
    exact ⟨rfl, BL.out⟩
  cases hok2 : M.fwd n2 F2 T2
  · rw [M.same_no2 hok2] at hS
    subst hS
    rw [hok] at HVA
    rw [hok2] at HVB
    clear hok hok2
    go_wp2_with fail
    refine (HI.out _ LA.out LB.out).mono ?_
    rintro e v1 ⟨rfl, k1⟩
    replace LA := Lib.hid (LA.out.on k1)
    replace LB := Lib.hid (LB.out.on k1)
    replace BL := Lib.hid (step BL.out k1)
    clear k1
    go_wp2_with fail
    refine (HS.out _ LA.out LB.out).mono ?_
    rintro e v2 ⟨rfl, k2⟩
    replace LA := Lib.hid (LA.out.on k2)
    replace LB := Lib.hid (LB.out.on k2)
    replace BL := Lib.hid (step BL.out k2)
    clear k2
    go_wp2_with fail
    refine (HVA.out _ LA.out).mono ?_
    rintro e v3 ⟨rfl, k3⟩
    replace LA := Lib.hid (LA.out.on k3)
    replace LB := Lib.hid (LB.out.on k3)
    replace BL := Lib.hid (step BL.out k3)
    clear k3
    go_wp2_with fail
    refine (HVB.out _ LB.out).mono ?_
    rintro e v4 ⟨rfl, k4⟩
    replace LA := Lib.hid (LA.out.on k4)
    replace LB := Lib.hid (LB.out.on k4)
    replace BL := Lib.hid (step BL.out k4)
    clear k4
    go_wp2_with fail
    refine (HS.out _ LA.out LB.out).mono ?_
    rintro e v5 ⟨rfl, k5⟩
    replace LA := Lib.hid (LA.out.on k5)
    replace LB := Lib.hid (LB.out.on k5)
    replace BL := Lib.hid (step BL.out k5)
    clear k5
    go_wp2
    go_ret
    exact ⟨rfl, BL.out⟩
  · have HO := Lib.hid hok
    have HO2 := Lib.hid hok2
    have hall := M.asked_all hok hok2
    rw [hS] at hall
    have HALL := Lib.hid hall
    have hcm := M.same_comm hok hok2
    rw [hS] at hcm
    have hself := M.same_self hok
    rw [hok] at HVA
    rw [hok2] at HVB
    have HIB := Lib.hid (fun X ha hb => impl_SameForwards X a2 n2 c2 F2 T2 hb FB.out a n c F T ha FA.out)
    rw [hcm] at HIB
    have HIA := Lib.hid (fun X ha => impl_SameForwards X a n c F T ha FA.out a n c F T ha FA.out)
    rw [hself] at HIA
    have HEA := Lib.hid (fun X ha => impl_EndlessCodes X a n c F T ha FA.out)
    have HEB := Lib.hid (fun X hb => impl_EndlessCodes X a2 n2 c2 F2 T2 hb FB.out)
    have he1 := M.endless_le F T n
    have he2 := M.endless_le F2 T2 n2
    clear hok hok2 hall hcm hself hS
    go_wp2_with fail
    refine (HI.out _ LA.out LB.out).mono ?_
    rintro e v1 ⟨rfl, k1⟩
    replace LA := Lib.hid (LA.out.on k1)
    replace LB := Lib.hid (LB.out.on k1)
    replace BL := Lib.hid (step BL.out k1)
    clear k1
    go_wp2_with fail
    refine (HS.out _ LA.out LB.out).mono ?_
    rintro e v2 ⟨rfl, k2⟩
    replace LA := Lib.hid (LA.out.on k2)
    replace LB := Lib.hid (LB.out.on k2)
    replace BL := Lib.hid (step BL.out k2)
    clear k2
    go_wp2_with fail
    refine (HVA.out _ LA.out).mono ?_
    rintro e v3 ⟨rfl, k3⟩
    replace LA := Lib.hid (LA.out.on k3)
    replace LB := Lib.hid (LB.out.on k3)
    replace BL := Lib.hid (step BL.out k3)
    clear k3
    go_wp2_with fail
    refine (HVB.out _ LB.out).mono ?_
    rintro e v4 ⟨rfl, k4⟩
    replace LA := Lib.hid (LA.out.on k4)
    replace LB := Lib.hid (LB.out.on k4)
    replace BL := Lib.hid (step BL.out k4)
    clear k4
    have R0 := Lib.hid (one_frow v4)
    have K0 := Lib.hid (below_alloc0 v4 (.cells #[] 45))
    have hz0 := K0.out.size
    clear HI HS HVA HVB
    go_wp2_with (first
      | (at_builtin; refine wpList_append_fws _ rfl _ _ rfl v4.heap.size _ _ rfl R1.out a2 n2 c2 F2 T2 rfl (LB.out.on K1.out) (by rw [hl1]; omega) (by exact K1.out.size) ?_; intro u2 w3 r2 gr2 ho2; have R2 : Hid (FRow w3 v4.heap.size u2 (M.flst F T n ++ M.flst F2 T2 n2)) := r2; have K2 : Hid (Below v4.heap.size v4 w3) := K1.out.grown gr2 K1.out.size (fun q e => (R1.out.lt q e).1); clear r2 gr2 ho2)
      | (at_builtin; refine wpList_append_fws _ rfl _ _ rfl v4.heap.size _ [] rfl R0.out a n c F T rfl (LA.out.on K0.out) (by simp; omega) (by simp) ?_; intro u1 w2 r1 gr1 ho1; have R1 : Hid (FRow w2 v4.heap.size u1 (M.flst F T n)) := (by rw [List.nil_append] at r1; exact r1); have hl1 : (M.flst F T n).length = n := M.flst_length _ _ _; have K1 : Hid (Below v4.heap.size v4 w2) := K0.out.grown gr1 hz0 (fun q e => (R0.out.lt q e).1); clear r1 gr1 ho1))
    have hlen : (M.flst F T n ++ M.flst F2 T2 n2).length = n + n2 := by rw [List.length_append, M.flst_length, M.flst_length]
    obtain ⟨a3, c3, hv3, _, hw3⟩ := R2.out.form
    rw [hlen] at hv3 hw3
    subst hv3
    have HW := Lib.hid hw3
    replace LA := Lib.hid (LA.out.on K2.out)
    replace LB := Lib.hid (LB.out.on K2.out)
    replace BL := Lib.hid (step BL.out K2.out)
    clear hw3 hlen R0 R1 R2 K0 K1 K2 hl1 hz0
    go_wp2_with fail
    refine (HEA.out _ LA.out).mono ?_
    rintro e v5 ⟨p5, rfl, r5, k5⟩
    replace LA := Lib.hid (LA.out.on k5)
    replace LB := Lib.hid (LB.out.on k5)
    replace BL := Lib.hid (step BL.out k5)
    replace HW := Lib.hid (HW.out.on k5)
    have R5 := Lib.hid r5
    clear r5
    clear k5
    go_wp2_with fail
    refine (HEB.out _ LB.out).mono ?_
    rintro e v6 ⟨p6, rfl, r6, k6⟩
    replace LA := Lib.hid (LA.out.on k6)
    replace LB := Lib.hid (LB.out.on k6)
    replace BL := Lib.hid (step BL.out k6)
    replace HW := Lib.hid (HW.out.on k6)
    replace R5 := Lib.hid (R5.out.on k6)
    have R6 := Lib.hid r6
    clear r6
    clear k6
    go_wp2_with fail
    refine (soTexts_any _ _ _ _ _ _ _ R5.out R6.out (by omega) (by omega)).mono ?_
    rintro e v7 ⟨rfl, k7⟩
    replace LA := Lib.hid (LA.out.on k7)
    replace LB := Lib.hid (LB.out.on k7)
    replace BL := Lib.hid (step BL.out k7)
    replace HW := Lib.hid (HW.out.on k7)
    clear k7
    clear R5 R6 HEA HEB
    go_wp2
    go_loopw [7, 8] (fun q i wr => ∃ k : Nat, k ≤ n + n2 ∧ i = .int .i64 k ∧ q = .bool (M.asked F T n F2 T2 n2 k) ∧ Hid (Below v7.heap.size v7 wr)) (fun _ i _ => n + n2 - (intOf i).toNat)
    case atStart => exact ⟨0, Nat.zero_le _, rfl, rfl, Below.refl _ _⟩
    case round =>
      obtain ⟨k, hk, rfl, rfl, hbw⟩ := hrel
      by_cases hlt : k < n + n2
      · have hki : (k : Int) < ((n + n2 : Nat) : Int) := by omega
        have hk0 : (0 : Int) ≤ (k : Int) := by omega
        obtain ⟨b, o, rfl, c0, c1⟩ := (HW.out.on hbw.out) k hlt
        have hcd := M.allF_code HO.out HO2.out hlt
        have has : M.asked F T n F2 T2 n2 (k + 1) = (M.asked F T n F2 T2 n2 k && (decide ((M.res F T n (M.allF F T n F2 T2 n2 k)).isSome = (M.res F2 T2 n2 (M.allF F T n F2 T2 n2 k)).isSome) && M.sameAt F T n F2 T2 n2 (M.allF F T n F2 T2 n2 k))) := rfl
        obtain ⟨C, hC⟩ : ∃ C, M.allF F T n F2 T2 n2 k = C := ⟨_, rfl⟩
        rw [show nF (M.flst F T n ++ M.flst F2 T2 n2) k = C from hC] at c0
        rw [hC] at hcd has
        have HX := Lib.hid (impl_ResolveCode wr a n c F T (LA.out.on hbw.out) FA.out C (M.code_size hcd))
        have HX2 : Hid (∀ W, Below wr.heap.size wr W → Calls Try.prog 10 #[.slice a2 n2 c2, .string C] W fun e w' => e = .returned (resV (M.resCode F2 T2 n2 C)) ∧ Below W.heap.size W w') := fun W h => impl_ResolveCode W a2 n2 c2 F2 T2 ((LB.out.on hbw.out).on h) FB.out C (M.code_size hcd)
        rw [M.resCode_yes HO.out hcd, resV_eq] at HX
        rw [M.resCode_yes HO2.out hcd, resV_eq] at HX2
        have hsa : M.sameAt F T n F2 T2 n2 C = decide (M.endS (M.res F T n C) = M.endS (M.res F2 T2 n2 C)) := rfl
        rw [hsa] at has
        obtain ⟨s1, hs1⟩ : ∃ s, M.endS (M.res F T n C) = s := ⟨_, rfl⟩
        obtain ⟨s2, hs2⟩ : ∃ s, M.endS (M.res F2 T2 n2 C) = s := ⟨_, rfl⟩
        obtain ⟨y1, hy1⟩ : ∃ y, (M.res F T n C).isSome = y := ⟨_, rfl⟩
        obtain ⟨y2, hy2⟩ : ∃ y, (M.res F2 T2 n2 C).isSome = y := ⟨_, rfl⟩
        obtain ⟨t1, ht1⟩ : ∃ t, M.cntOf (M.res F T n C) = t := ⟨_, rfl⟩
        obtain ⟨t2, ht2⟩ : ∃ t, M.cntOf (M.res F2 T2 n2 C) = t := ⟨_, rfl⟩
        rw [hs1, hy1, ht1] at HX
        rw [hs2, hy2, ht2] at HX2
        rw [hs1, hs2, hy1, hy2] at has
        obtain ⟨Q, hQ⟩ : ∃ Q, M.asked F T n F2 T2 n2 k = Q := ⟨_, rfl⟩
        rw [hQ] at has ⊢
        have HAS := Lib.hid has
        clear hs1 hs2 hy1 hy2 ht1 ht2 hsa hC hcd hQ has
        by_cases he : s1 = s2
        · subst he
          have hd : (s1.toList == s1.toList) = true := by simp
          have he2 : decide (s1 = s1) = true := decide_eq_true rfl
          rw [he2, Bool.and_true] at HAS
          clear he2
          cases Q <;> cases y1 <;> cases y2
          all_goals
            simp only [Bool.false_and, Bool.true_and, decide_true, decide_false, reduceCtorEq] at HAS
            go_wp2_with fail
            refine HX.out.mono ?_
            rintro e w8 ⟨rfl, k8⟩
            replace HX2 := Lib.hid (HX2.out w8 k8)
            have c8 := (k8.cell (p := ⟨b, o + k * 2, none⟩) (World.block_lt_of_cell? _ _ c0)).trans c0
            go_wp2_with fail
            refine HX2.out.mono ?_
            rintro e w9 ⟨rfl, k9⟩
            have B9 := Lib.hid (sstep (sstep hbw.out k8) k9)
            clear k8 k9
            go_wp2
            go_roundw
            case rel => exact ⟨k + 1, by omega, by go_num, by rw [HAS.out], B9.out⟩
            case measure => simp [intOf]; omega
        · have hd : (s1.toList == s2.toList) = false := by rw [M.list_eq]; exact decide_eq_false he
          have he2 : decide (s1 = s2) = false := decide_eq_false he
          rw [he2, Bool.and_false, Bool.and_false] at HAS
          clear he2 he
          cases Q <;> cases y1 <;> cases y2
          all_goals
            go_wp2_with fail
            refine HX.out.mono ?_
            rintro e w8 ⟨rfl, k8⟩
            replace HX2 := Lib.hid (HX2.out w8 k8)
            have c8 := (k8.cell (p := ⟨b, o + k * 2, none⟩) (World.block_lt_of_cell? _ _ c0)).trans c0
            go_wp2_with fail
            refine HX2.out.mono ?_
            rintro e w9 ⟨rfl, k9⟩
            have B9 := Lib.hid (sstep (sstep hbw.out k8) k9)
            clear k8 k9
            go_wp2
            go_roundw
            case rel => exact ⟨k + 1, by omega, by go_num, by rw [HAS.out], B9.out⟩
            case measure => simp [intOf]; omega
      · obtain rfl : k = n + n2 := by omega
        rw [HALL.out]
        replace LA := Lib.hid (LA.out.on hbw.out)
        replace LB := Lib.hid (LB.out.on hbw.out)
        replace BL := Lib.hid (step BL.out hbw.out)
        clear hbw
        cases S
        all_goals
          go_wp2_with fail
          refine (HIB.out _ LA.out LB.out).mono ?_
          rintro e v8 ⟨rfl, k8⟩
          replace LA := Lib.hid (LA.out.on k8)
          replace LB := Lib.hid (LB.out.on k8)
          replace BL := Lib.hid (step BL.out k8)
          clear k8
          go_wp2_with fail
          refine (HIA.out _ LA.out).mono ?_
          rintro e v9 ⟨rfl, k9⟩
          replace LA := Lib.hid (LA.out.on k9)
          replace LB := Lib.hid (LB.out.on k9)
          replace BL := Lib.hid (step BL.out k9)
          clear k9
          go_wp2
          go_ret
          exact ⟨rfl, BL.out⟩

set_option maxRecDepth 100000 in
theorem lifted (os : Os) (started : os.Started) (H : Type) (enc : TypeId × Value → H) :
    ReturnsInHanded {} Try.checked os 4 .any (Rows.fnSameSpec.pre6 enc Try.prog Try.f4 Rows.fnSameRow.domain false) (Rows.fnSameSpec.post enc Try.prog Try.f4 false true false false) := by
  refine returnsInHanded_of_change (C := Try.checked) own started (by kernel_rfl) Try.func4
    (ChangeSpec.witness6 (enc := enc) (C := Try.checked) false ⟨#[], #[.slice none 0 0], []⟩ 8 (by kernel_rfl) (by kernel_rfl) (by kernel_rfl) (by kernel_rfl)) ?_
  intro W base args ds gs before hval0 hW hcnd _
  have hval : ∀ (j : Nat) t v, Try.f4.params[j]? = some t → args[j]? = some v → Value.okWide Try.prog W .any base t v := hval0
  have hW' := hW
  obtain ⟨p, q, hA0, hV, rfl, hfz, hnd⟩ := hW
  have hA : DataW.TrodAll enc Try.prog W 0 (fun _ => true) true Try.f4.params.toList args.toList ds p := hA0
  rw [Try.params4] at hA hval
  obtain ⟨v0, vs0, d0, ds0, p0, q0, hargs, rfl, rfl, h0, r0⟩ := trodAll_cons hA
  obtain ⟨rfl, rfl, rfl⟩ := trodAll_nil r0
  obtain rfl : args = #[v0] := by cases args; simp_all
  obtain ⟨rfl, rfl⟩ := trodVars_none hV
  have g0 := h0
  have lt0 : ∀ x ∈ p0, x.block < W.heap.size := by obtain ⟨m, hm⟩ := g0; exact DataW.trod_lt m _ _ _ hm
  obtain ⟨a0, l0, k0, rfl⟩ := okWide_slice Try.underlying22 (hval 0 22 v0 rfl rfl)
  obtain ⟨z0, w0⟩ : ∃ zs, IsRow .u8 W a0 l0 k0 zs := by
    obtain ⟨fuel, hf⟩ := h0
    rcases open_ints Try.underlying22 Try.underlying5 (by kernel_rfl) hf with ⟨hcs, _⟩ | ⟨x, l, c, zs, hcs, _, hl, hm, hz, _, hcell, hwz⟩
    · simp [Value.cells] at hcs
      obtain ⟨rfl, rfl, rfl⟩ := hcs
      exact ⟨[], .inl ⟨rfl, rfl, rfl, rfl⟩⟩
    · simp [Value.cells] at hcs
      obtain ⟨rfl, rfl, rfl⟩ := hcs
      exact ⟨zs, .inr ⟨_, rfl, hl, hm, by simpa using hz, hcell, hwz⟩⟩
  clear hA0 hval0
  refine (walk W a0 l0 k0 z0 w0).mono fun e W' ⟨he, bel⟩ => ?_
  subst he
  exact ⟨_, rfl, _, _, _, [], _, [], hW', trodAll_mk1 (shut_bool Try.underlying4 _), (trodAll_cons_mk (Below.trod laidOut (by kernel_rfl) (of_decide_eq_true (by kernel_rfl)) g0 bel lt0) trodAll_mk0), rfl, bel.frame _, fun h => by cases h⟩

theorem proved : Rows.FnSameSaid :=
  OpenClaim.holds_of_wide 4 Try.f4 rfl rfl rfl rfl rfl rfl rfl ⟨rfl, rfl, rfl, rfl, rfl⟩ rfl rfl rfl rfl rfl (by kernel_rfl) Try.func4 (by kernel_rfl)
    (of_decide_eq_true (by kernel_rfl)) (by unfold Func.isWrapper; first | (rw [if_pos (by decide +kernel)]; kernel_rfl) | (rw [if_neg (by decide +kernel)]; exact ⟨rfl, rfl⟩))
    (fun os started H enc _ => lifted os started H enc)
#print axioms proved
end Go.Proofs.Ytekkajgifgnklaa.fnSame
