/-
  For every slice of bytes, laws.FnRemove returns true.
-/
import Derived.Test.YtbfbbpmddgfeiaaRows
import Derived.Test.YtbfbbpmddgfeiaaDrawF2
import Derived.Test.YtbfbbpmddgfeiaaRemM
import Derived.Test.YtbfbbpmddgfeiaaSoT
import Derived.WalkKit
import Derived.ProofKit
import Derived.OpenShut
import Derived.ShutString
import Derived.ChangeOld
import Derived.Below
import Derived.Handy
import Derived.Lib.Hide
namespace Go.Proofs.Ytbfbbpmddgfeiaa.fnRemove
open Go.ChangeShapes Go.WideShapes Go.ChangeAt Go.RowKit
open Go.ChangeMaps (open_string shut_string)
open Go.PlainAid (bt get_bt bt_nonneg bt_le)
set_option linter.unusedVariables false

theorem own : ownKnob Try.prog.godebug = none := by kernel_rfl
theorem laidOut : laidOutB Try.prog = true := by kernel_rfl

set_option maxHeartbeats 4000000 in
set_option maxRecDepth 100000 in
theorem walk (w : World) (a0 : Option Addr) (l0 k0 : Nat) (z0 : List Int) (w0 : IsRow .u8 w a0 l0 k0 z0) :
    Calls Try.prog 9 #[.slice a0 l0 k0] w fun e w' => e = .returned (.bool true) ∧ Below w.heap.size w w' := by
  by_cases hl : 1048576 < l0
  · go_enter Try.func9, Try.ntmps9
    go_wp2
    go_ret
    exact ⟨rfl, Below.refl _ _⟩
  go_enter Try.func9, Try.ntmps9
  go_wp2_with fail
  refine (DrawRemoveForward_any a0 l0 k0 z0 w w0).mono ?_
  rintro e u ⟨v, s, rfl, hs, a, n, c, F, T, rfl, lt, fi, hn, bl⟩
  have LT := Lib.hid lt
  have FI := Lib.hid fi
  have BL := Lib.hid bl
  clear lt fi bl
  have hn2 : n ≤ 1048576 := by omega
  have hsm : s.size ≤ maxLen := by unfold maxLen; omega
  cases hok : M.fwd n F T
  · obtain ⟨e1, e2⟩ := M.rem_no (x := s) (Or.inl hok)
    have HE1 := Lib.hid e1
    have HE2 := Lib.hid e2
    have HL30 : Hid (([] : List (ByteArray × ByteArray)).length ≤ 1048576) := Nat.zero_le _
    clear e1 e2
    go_wp2_with fail
    refine (impl_RemoveForward _ _ _ _ _ _ LT.out FI.out hn2 s hsm).mono ?_
    rw [HE1.out, HE2.out]
    rintro e v1 ⟨v1, rfl, r1, k1⟩
    replace LT := Lib.hid (LT.out.on k1)
    replace BL := Lib.hid (step BL.out k1)
    have R1 := Lib.hid r1
    clear r1
    clear k1
    go_wp2_with fail
    refine (spec_RemoveForward _ _ _ _ _ _ LT.out FI.out hn2 s).mono ?_
    rw [HE1.out, HE2.out]
    rintro e v2 ⟨v2, rfl, r2, k2⟩
    replace LT := Lib.hid (LT.out.on k2)
    replace BL := Lib.hid (step BL.out k2)
    replace R1 := Lib.hid (R1.out.on k2)
    have R2 := Lib.hid r2
    clear r2
    clear k2
    go_wp2_with fail
    refine (soForwards_row _ _ _ _ _ _ R1.out R2.out HL30.out).mono ?_
    rintro e v3 ⟨rfl, k3⟩
    replace LT := Lib.hid (LT.out.on k3)
    replace BL := Lib.hid (step BL.out k3)
    replace R1 := Lib.hid (R1.out.on k3)
    replace R2 := Lib.hid (R2.out.on k3)
    clear k3
    go_wp2_with fail
    refine (soForwards_row _ _ _ _ _ _ R1.out R2.out HL30.out).mono ?_
    rintro e v4 ⟨rfl, k4⟩
    replace LT := Lib.hid (LT.out.on k4)
    replace BL := Lib.hid (step BL.out k4)
    replace R1 := Lib.hid (R1.out.on k4)
    replace R2 := Lib.hid (R2.out.on k4)
    clear k4
    go_wp2
    go_ret
    exact ⟨rfl, BL.out⟩
  · rcases M.rank_cases F s n with ⟨hr, hno⟩ | ⟨k, hk, hFk, hno, hr⟩
    · obtain ⟨e1, e2⟩ := M.rem_no (x := s) (F := F) (T := T) (n := n) (Or.inr hr)
      have HE1 := Lib.hid e1
      have HE2 := Lib.hid e2
      have HL30 : Hid (([] : List (ByteArray × ByteArray)).length ≤ 1048576) := Nat.zero_le _
      clear e1 e2
      go_wp2_with fail
      refine (impl_RemoveForward _ _ _ _ _ _ LT.out FI.out hn2 s hsm).mono ?_
      rw [HE1.out, HE2.out]
      rintro e v1 ⟨v1, rfl, r1, k1⟩
      replace LT := Lib.hid (LT.out.on k1)
      replace BL := Lib.hid (step BL.out k1)
      have R1 := Lib.hid r1
      clear r1
      clear k1
      go_wp2_with fail
      refine (spec_RemoveForward _ _ _ _ _ _ LT.out FI.out hn2 s).mono ?_
      rw [HE1.out, HE2.out]
      rintro e v2 ⟨v2, rfl, r2, k2⟩
      replace LT := Lib.hid (LT.out.on k2)
      replace BL := Lib.hid (step BL.out k2)
      replace R1 := Lib.hid (R1.out.on k2)
      have R2 := Lib.hid r2
      clear r2
      clear k2
      go_wp2_with fail
      refine (soForwards_row _ _ _ _ _ _ R1.out R2.out HL30.out).mono ?_
      rintro e v3 ⟨rfl, k3⟩
      replace LT := Lib.hid (LT.out.on k3)
      replace BL := Lib.hid (step BL.out k3)
      replace R1 := Lib.hid (R1.out.on k3)
      replace R2 := Lib.hid (R2.out.on k3)
      clear k3
      go_wp2_with fail
      refine (soForwards_row _ _ _ _ _ _ R1.out R2.out HL30.out).mono ?_
      rintro e v4 ⟨rfl, k4⟩
      replace LT := Lib.hid (LT.out.on k4)
      replace BL := Lib.hid (step BL.out k4)
      replace R1 := Lib.hid (R1.out.on k4)
      replace R2 := Lib.hid (R2.out.on k4)
      clear k4
      go_wp2
      go_ret
      exact ⟨rfl, BL.out⟩
    · obtain ⟨y, hy⟩ : ∃ y, M.nextOf F T n s = some y := ⟨_, M.nextOf_some hr⟩
      obtain ⟨e1, e2⟩ := M.rem_yes hok hr
      have HE1 := Lib.hid e1
      have hcs := M.next_code hok hy
      have hyz := M.code_size hcs.2
      have hlen := M.rem_len hok hr hk
      have hN30 := (M.fwd_yes hok).1
      have hfit := Lib.hid (fits_wo FI.out s)
      have HN1 : Hid (nxV (M.nextCode F T n s) = .tuple #[.string y, .bool true]) := by rw [Hid, M.nextCode_yes hok, hy]; rfl
      have HN2 : Hid (nxV (M.nextCode (nF (M.wo s (M.flst F T n))) (nT (M.wo s (M.flst F T n))) (M.wo s (M.flst F T n)).length s) = .tuple #[.string ⟨#[]⟩, .bool false]) := by rw [Hid, M.nextCode_yes (M.rem_good hok s), M.rem_next]; rfl
      have HV2 : Hid (resV (M.resCode (nF (M.wo s (M.flst F T n))) (nT (M.wo s (M.flst F T n))) (M.wo s (M.flst F T n)).length s) = .tuple #[.string s, .int .i64 0, .bool true]) := by rw [Hid, M.resCode_yes (M.rem_good hok s) hcs.1, M.res_here (M.rem_next F T n s)]; rfl
      have hrow := M.back_row (R := M.wo s (M.flst F T n)) M.wo_no y
      have hbg := M.back_good hok hy
      have hbr := M.back_res hok hy s
      have HSAME := Lib.hid (M.back_same hok hy)
      have hcode := M.resCode_yes hbg hcs.1
      rw [hbr] at hcode
      obtain ⟨B, hB⟩ : ∃ B, M.wo s (M.flst F T n) ++ [(s, y)] = B := ⟨_, rfl⟩
      rw [hB] at hrow hbg hcode HSAME
      obtain ⟨L, hL⟩ : ∃ L, M.wo s (M.flst F T n) = L := ⟨_, rfl⟩
      have HBL : Hid (B.length ≤ 1048576) := by rw [Hid, ← hB, List.length_append, hL]; rw [hL] at hlen; simp; omega
      have HBF : Hid (FFits B.length (nF B) (nT B)) := by
        have := fits_add hfit.out hsm hyz
        rw [M.back_row M.wo_no y, hB] at this
        exact this
      rw [hL] at e2 hlen hfit HN2 HV2 hrow
      have HE2 := Lib.hid e2
      have HL30 : Hid (L.length ≤ 1048576) := by rw [Hid]; omega
      have hgood := M.rem_good hok s
      rw [hL] at hgood
      have HADD : Hid (∀ r, M.res F T n s = r → M.addOk (nF L) (nT L) L.length s y = r.isSome ∧ (r.isSome = true → M.addL (nF L) (nT L) L.length s y = B)) := fun r hres => by
        have hko : M.addOk (nF L) (nT L) L.length s y = r.isSome := by
          unfold M.addOk
          rw [hgood, hrow, hcode, hres, Bool.true_and]
        exact ⟨hko, fun hs => by unfold M.addL; rw [hko, hs, if_pos rfl, hrow]⟩
      obtain ⟨r, hres⟩ : ∃ r, M.res F T n s = r := ⟨_, rfl⟩
      have HV1 : Hid (resV (M.resCode F T n s) = resV r) := by rw [Hid, M.resCode_yes hok hcs.1, hres]
      rw [resV_eq r] at HV1
      obtain ⟨hadd1, hadd2⟩ := HADD.out r hres
      have HA1 := Lib.hid hadd1
      have HA2 := Lib.hid hadd2
      obtain ⟨q1, hq1⟩ : ∃ q, M.endS r = q := ⟨_, rfl⟩
      obtain ⟨q2, hq2⟩ : ∃ q, M.cntOf r = q := ⟨_, rfl⟩
      obtain ⟨q3, hq3⟩ : ∃ q, r.isSome = q := ⟨_, rfl⟩
      rw [hq1, hq2, hq3] at HV1
      rw [hq3] at HA1 HA2
      have hd : (s.toList == s.toList) = true := by simp
      clear hq1 hq2 hq3 hadd1 hadd2 HADD hgood hcode hbr hbg hrow e1 e2 hcs hok hy hr hB hL hres
      go_wp2_with fail
      refine (impl_RemoveForward _ _ _ _ _ _ LT.out FI.out hn2 s hsm).mono ?_
      rw [HE1.out, HE2.out]
      rintro e v1 ⟨v1, rfl, r1, k1⟩
      replace LT := Lib.hid (LT.out.on k1)
      replace BL := Lib.hid (step BL.out k1)
      have R1 := Lib.hid r1
      clear r1
      clear k1
      go_wp2_with fail
      refine (spec_RemoveForward _ _ _ _ _ _ LT.out FI.out hn2 s).mono ?_
      rw [HE1.out, HE2.out]
      rintro e v2 ⟨v2, rfl, r2, k2⟩
      replace LT := Lib.hid (LT.out.on k2)
      replace BL := Lib.hid (step BL.out k2)
      replace R1 := Lib.hid (R1.out.on k2)
      have R2 := Lib.hid r2
      clear r2
      clear k2
      go_wp2_with fail
      refine (soForwards_row _ _ _ _ _ _ R1.out R2.out HL30.out).mono ?_
      rintro e v3 ⟨rfl, k3⟩
      replace LT := Lib.hid (LT.out.on k3)
      replace BL := Lib.hid (step BL.out k3)
      replace R1 := Lib.hid (R1.out.on k3)
      replace R2 := Lib.hid (R2.out.on k3)
      clear k3
      obtain ⟨a1, c1, hv1, _, hw1⟩ := R1.out.form
      have W1 := Lib.hid hw1
      subst hv1
      clear hw1 R1 R2
      go_wp2_with fail
      refine (impl_NextCode _ _ _ _ _ _ LT.out FI.out s hsm).mono ?_
      rw [HN1.out]
      rintro e v4 ⟨rfl, k4⟩
      replace LT := Lib.hid (LT.out.on k4)
      replace BL := Lib.hid (step BL.out k4)
      replace W1 := Lib.hid (W1.out.on k4)
      clear k4
      go_wp2_with fail
      refine (impl_NextCode _ a1 L.length c1 _ _ W1.out hfit.out s hsm).mono ?_
      rw [HN2.out]
      rintro e v5 ⟨rfl, k5⟩
      replace LT := Lib.hid (LT.out.on k5)
      replace BL := Lib.hid (step BL.out k5)
      replace W1 := Lib.hid (W1.out.on k5)
      clear k5
      go_wp2_with fail
      refine (impl_ResolveCode _ a1 L.length c1 _ _ W1.out hfit.out s hsm).mono ?_
      rw [HV2.out]
      rintro e v6 ⟨rfl, k6⟩
      replace LT := Lib.hid (LT.out.on k6)
      replace BL := Lib.hid (step BL.out k6)
      replace W1 := Lib.hid (W1.out.on k6)
      clear k6
      go_wp2_with fail
      refine (impl_ResolveCode _ _ _ _ _ _ LT.out FI.out s hsm).mono ?_
      rw [HV1.out]
      rintro e v7 ⟨rfl, k7⟩
      replace LT := Lib.hid (LT.out.on k7)
      replace BL := Lib.hid (step BL.out k7)
      replace W1 := Lib.hid (W1.out.on k7)
      clear k7
      cases q3
      · go_wp2_with fail
        refine (impl_AddForward _ a1 L.length c1 _ _ W1.out hfit.out HL30.out s y hsm hyz).mono ?_
        rw [HA1.out]
        rintro e v8 ⟨v9, rfl, r9, k8⟩
        replace LT := Lib.hid (LT.out.on k8)
        replace BL := Lib.hid (step BL.out k8)
        replace W1 := Lib.hid (W1.out.on k8)
        have R9 := Lib.hid r9
        clear r9
        clear k8
        go_wp2
        go_ret
        exact ⟨rfl, BL.out⟩
      · go_wp2_with fail
        refine (impl_AddForward _ a1 L.length c1 _ _ W1.out hfit.out HL30.out s y hsm hyz).mono ?_
        rw [HA1.out, HA2.out (by first | rfl | trivial)]
        rintro e v8 ⟨v9, rfl, r9, k8⟩
        replace LT := Lib.hid (LT.out.on k8)
        replace BL := Lib.hid (step BL.out k8)
        replace W1 := Lib.hid (W1.out.on k8)
        have R9 := Lib.hid r9
        clear r9
        clear k8
        obtain ⟨a9, c9, hv9, _, hw9⟩ := R9.out.form
        have W9 := Lib.hid hw9
        subst hv9
        clear hw9 R9
        go_wp2_with fail
        refine (impl_SameForwards _ a9 B.length c9 _ _ W9.out HBF.out _ n c F T LT.out FI.out).mono ?_
        rw [HSAME.out]
        rintro e v9 ⟨rfl, k9⟩
        replace LT := Lib.hid (LT.out.on k9)
        replace BL := Lib.hid (step BL.out k9)
        clear k9
        go_wp2
        go_ret
        exact ⟨rfl, BL.out⟩

set_option maxRecDepth 100000 in
theorem lifted (os : Os) (started : os.Started) (H : Type) (enc : TypeId × Value → H) :
    ReturnsInHanded {} Try.checked os 9 .any (Rows.fnRemoveSpec.pre6 enc Try.prog Try.f9 Rows.fnRemoveRow.domain false) (Rows.fnRemoveSpec.post enc Try.prog Try.f9 false true false false) := by
  refine returnsInHanded_of_change (C := Try.checked) own started (by kernel_rfl) Try.func9
    (ChangeSpec.witness6 (enc := enc) (C := Try.checked) false ⟨#[], #[.slice none 0 0], []⟩ 8 (by kernel_rfl) (by kernel_rfl) (by kernel_rfl) (by kernel_rfl)) ?_
  intro W base args ds gs before hval0 hW hcnd _
  have hval : ∀ (j : Nat) t v, Try.f9.params[j]? = some t → args[j]? = some v → Value.okWide Try.prog W .any base t v := hval0
  have hW' := hW
  obtain ⟨p, q, hA0, hV, rfl, hfz, hnd⟩ := hW
  have hA : DataW.TrodAll enc Try.prog W 0 (fun _ => true) true Try.f9.params.toList args.toList ds p := hA0
  rw [Try.params9] at hA hval
  obtain ⟨v0, vs0, d0, ds0, p0, q0, hargs, rfl, rfl, h0, r0⟩ := trodAll_cons hA
  obtain ⟨rfl, rfl, rfl⟩ := trodAll_nil r0
  obtain rfl : args = #[v0] := by cases args; simp_all
  obtain ⟨rfl, rfl⟩ := trodVars_none hV
  have g0 := h0
  have lt0 : ∀ x ∈ p0, x.block < W.heap.size := by obtain ⟨m, hm⟩ := g0; exact DataW.trod_lt m _ _ _ hm
  obtain ⟨a0, l0, k0, rfl⟩ := okWide_slice Try.underlying22 (hval 0 22 v0 rfl rfl)
  obtain ⟨z0, w0⟩ : ∃ zs, IsRow .u8 W a0 l0 k0 zs := by
    obtain ⟨fuel, hf⟩ := h0
    rcases open_ints Try.underlying22 Try.underlying5 (by kernel_rfl) hf with ⟨hcs, _⟩ | ⟨x, l, c, zs, hcs, _, hl, hm, hz, _, hcell, hwz⟩
    · simp [Value.cells] at hcs
      obtain ⟨rfl, rfl, rfl⟩ := hcs
      exact ⟨[], .inl ⟨rfl, rfl, rfl, rfl⟩⟩
    · simp [Value.cells] at hcs
      obtain ⟨rfl, rfl, rfl⟩ := hcs
      exact ⟨zs, .inr ⟨_, rfl, hl, hm, by simpa using hz, hcell, hwz⟩⟩
  clear hA0 hval0
  refine (walk W a0 l0 k0 z0 w0).mono fun e W' ⟨he, bel⟩ => ?_
  subst he
  exact ⟨_, rfl, _, _, _, [], _, [], hW', trodAll_mk1 (shut_bool Try.underlying4 _), (trodAll_cons_mk (Below.trod laidOut (by kernel_rfl) (of_decide_eq_true (by kernel_rfl)) g0 bel lt0) trodAll_mk0), rfl, bel.frame _, fun h => by cases h⟩

theorem proved : Rows.FnRemoveSaid :=
  OpenClaim.holds_of_wide 9 Try.f9 rfl rfl rfl rfl rfl rfl rfl ⟨rfl, rfl, rfl, rfl, rfl⟩ rfl rfl rfl rfl rfl (by kernel_rfl) Try.func9 (by kernel_rfl)
    (of_decide_eq_true (by kernel_rfl)) (by unfold Func.isWrapper; first | (rw [if_pos (by decide +kernel)]; kernel_rfl) | (rw [if_neg (by decide +kernel)]; exact ⟨rfl, rfl⟩))
    (fun os started H enc _ => lifted os started H enc)
#print axioms proved
end Go.Proofs.Ytbfbbpmddgfeiaa.fnRemove
