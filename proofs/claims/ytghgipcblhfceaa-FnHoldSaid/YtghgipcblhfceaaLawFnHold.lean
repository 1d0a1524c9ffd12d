/-
  For every slice of bytes, laws.FnHold returns true.
-/
import Derived.Test.YtghgipcblhfceaaRows
import Derived.Test.YtghgipcblhfceaaHoL
import Derived.Test.YtghgipcblhfceaaHold
import Derived.BigQuiet
import Derived.IntWalk
import Derived.WalkKit
import Derived.ProofKit
import Derived.OpenShut
import Derived.ShutString
import Derived.ChangeOld
import Derived.Below
import Derived.Handy
import Derived.Lib.Hide
namespace Go.Proofs.Ytghgipcblhfceaa.fnHold
open Go.ChangeShapes Go.WideShapes Go.ChangeAt Go.RowKit
open Go.ChangeMaps (open_string shut_string)
open Go.PlainAid (bt get_bt bt_nonneg bt_le)
set_option linter.unusedVariables false

theorem own : ownKnob Try.prog.godebug = none := by kernel_rfl
theorem laidOut : laidOutB Try.prog = true := by kernel_rfl

set_option maxHeartbeats 8000000 in
set_option maxRecDepth 100000 in
theorem walk (w : World) (a0 : Option Addr) (l0 k0 : Nat) (z0 : List Int) (w0 : IsRow .u8 w a0 l0 k0 z0) :
    Calls Try.prog 3 #[.slice a0 l0 k0] w fun e w' => e = .returned (.bool true) ∧ Below w.heap.size w w' := by
  by_cases hl : 1048576 < l0
  · go_enter Try.func3, Try.ntmps3
    go_wp2
    go_ret
    exact ⟨rfl, Below.refl _ _⟩
  go_enter Try.func3, Try.ntmps3
  go_wp2_with fail
  refine (DrawHoldBatch_any a0 l0 k0 z0 w w0).mono ?_
  rintro e u ⟨v, vh, L, H, B1, B2, rfl, rw1, hn, sm, hr, hm, hsz, bl⟩
  obtain ⟨a, c, rfl, _, lt⟩ := rw1.form
  have LT := Lib.hid lt
  have FI : Hid (Fits L.length (nI L) (nC L)) := fun i hi => by
    have := sm.at i hi
    rw [nI_at hi, nC_at hi]
    exact ⟨by omega, by unfold maxLen; omega⟩
  have HR := Lib.hid hr
  obtain ⟨ah, ch, hvh, _, hst⟩ := hr.form
  subst hvh
  have HT := Lib.hid hst
  have HF : Hid (SFits H.length (sC H)) := fun i hi => by
    rw [sC_at hi]
    have := hsz _ (List.getElem_mem hi)
    unfold maxLen; omega
  have BL := Lib.hid bl
  have hn2 : L.length ≤ 1048576 := by omega
  have hm2 : H.length ≤ 1048576 := by omega
  clear lt bl rw1 sm hr hst hsz
  obtain ⟨f, hf⟩ : ∃ f, M.heldF (sC H) H.length = f := ⟨_, rfl⟩
  have HAS : Hid (∀ X x, SRow X B2 (.slice ah H.length ch) H → Calls Try.prog 9 #[.slice ah H.length ch, .string x] X fun e w' => e = .returned (.bool (f x)) ∧ X = w') := fun X x h => by
    have := soHas_any X B2 _ H h hm2 x
    rw [M.has_held, hf] at this
    exact this
  have HI := Lib.hid (fun X hw hs => impl_HoldBatch X a L.length c (nI L) (nC L) hw FI.out ah H.length ch (sC H) hs HF.out hm2)
  have HS := Lib.hid (fun X hw hs => spec_HoldBatch X a L.length c (nI L) (nC L) hw FI.out hn2 ah H.length ch (sC H) hs HF.out hm2)
  have hlb1 := M.holdOut_le L.length (nI L) (nC L) H.length (sC H)
  have hlb2 := M.holdKept_le L.length (nI L) (nC L) H.length (sC H)
  have hOut : M.holdOk L.length (nI L) (nC L) H.length (sC H) = true → M.holdOut L.length (nI L) (nC L) H.length (sC H) = M.sansF f (M.lst (nI L) (nC L) L.length) := fun h => by unfold M.holdOut; rw [if_pos h, hf]
  have hKept : M.holdOk L.length (nI L) (nC L) H.length (sC H) = true → M.holdKept L.length (nI L) (nC L) H.length (sC H) = M.withF f (M.lst (nI L) (nC L) L.length) := fun h => by unfold M.holdKept; rw [if_pos h, hf]
  clear hf
  obtain ⟨L1, hL1⟩ : ∃ L1, M.holdOut L.length (nI L) (nC L) H.length (sC H) = L1 := ⟨_, rfl⟩
  obtain ⟨L2, hL2⟩ : ∃ L2, M.holdKept L.length (nI L) (nC L) H.length (sC H) = L2 := ⟨_, rfl⟩
  rw [hL1] at hlb1 HI HS hOut
  rw [hL2] at hlb2 HI HS hKept
  have hz1 : L1.length ≤ 1048576 := by omega
  have hz2 : L2.length ≤ 1048576 := by omega
  clear hL1 hL2
  obtain ⟨ok, hok⟩ : ∃ ok, M.holdOk L.length (nI L) (nC L) H.length (sC H) = ok := ⟨_, rfl⟩
  rw [hok] at HI HS hOut hKept
  clear hok
  generalize L.length = n at LT FI hn hn2 HI HS hlb1 hlb2 hOut hKept ⊢
  generalize nI L = I at LT FI HI HS hOut hKept
  generalize nC L = C at LT FI HI HS hOut hKept
  cases ok
  · clear hOut hKept
    go_wp2_with fail
    refine (HI.out _ LT.out HT.out).mono ?_
    rintro e v1 ⟨p, p', rfl, r1, r2, _, k1⟩
    have R1 := Lib.hid r1
    have R2 := Lib.hid r2
    replace LT := Lib.hid (LT.out.on k1)
    replace HT := Lib.hid (HT.out.on k1)
    replace HR := Lib.hid (HR.out.below k1)
    replace BL := Lib.hid (step BL.out k1)
    clear k1 r1 r2
    go_wp2_with fail
    refine (HS.out _ LT.out HT.out).mono ?_
    rintro e v2 ⟨q, q', rfl, r3, r4, _, k2⟩
    replace LT := Lib.hid (LT.out.on k2)
    replace HT := Lib.hid (HT.out.on k2)
    replace HR := Lib.hid (HR.out.below k2)
    replace BL := Lib.hid (step BL.out k2)
    replace R1 := Lib.hid (R1.out.on k2)
    replace R2 := Lib.hid (R2.out.on k2)
    have R3 := Lib.hid r3
    have R4 := Lib.hid r4
    clear k2 r3 r4
    go_wp2_with fail
    refine (soBatch_row _ _ _ _ _ _ R1.out R3.out hz1).mono ?_
    rintro e v3 ⟨rfl, k3⟩
    replace LT := Lib.hid (LT.out.on k3)
    replace HT := Lib.hid (HT.out.on k3)
    replace HR := Lib.hid (HR.out.below k3)
    replace BL := Lib.hid (step BL.out k3)
    replace R1 := Lib.hid (R1.out.on k3)
    replace R2 := Lib.hid (R2.out.on k3)
    replace R3 := Lib.hid (R3.out.on k3)
    replace R4 := Lib.hid (R4.out.on k3)
    clear k3
    go_wp2_with fail
    refine (soBatch_row _ _ _ _ _ _ R2.out R4.out hz2).mono ?_
    rintro e v4 ⟨rfl, k4⟩
    replace LT := Lib.hid (LT.out.on k4)
    replace HT := Lib.hid (HT.out.on k4)
    replace HR := Lib.hid (HR.out.below k4)
    replace BL := Lib.hid (step BL.out k4)
    replace R1 := Lib.hid (R1.out.on k4)
    replace R2 := Lib.hid (R2.out.on k4)
    replace R3 := Lib.hid (R3.out.on k4)
    replace R4 := Lib.hid (R4.out.on k4)
    clear k4
    go_wp2_with fail
    refine (soBatch_row _ _ _ _ _ _ R1.out R3.out hz1).mono ?_
    rintro e v5 ⟨rfl, k5⟩
    replace LT := Lib.hid (LT.out.on k5)
    replace HT := Lib.hid (HT.out.on k5)
    replace HR := Lib.hid (HR.out.below k5)
    replace BL := Lib.hid (step BL.out k5)
    replace R1 := Lib.hid (R1.out.on k5)
    replace R2 := Lib.hid (R2.out.on k5)
    replace R3 := Lib.hid (R3.out.on k5)
    replace R4 := Lib.hid (R4.out.on k5)
    clear k5
    go_wp2_with fail
    refine (soBatch_row _ _ _ _ _ _ R2.out R4.out hz2).mono ?_
    rintro e v6 ⟨rfl, k6⟩
    replace LT := Lib.hid (LT.out.on k6)
    replace HT := Lib.hid (HT.out.on k6)
    replace HR := Lib.hid (HR.out.below k6)
    replace BL := Lib.hid (step BL.out k6)
    replace R1 := Lib.hid (R1.out.on k6)
    replace R2 := Lib.hid (R2.out.on k6)
    replace R3 := Lib.hid (R3.out.on k6)
    replace R4 := Lib.hid (R4.out.on k6)
    clear k6
    go_wp2
    go_ret
    exact ⟨rfl, BL.out⟩
  · have hO := hOut rfl
    have hK := hKept rfl
    have HL1 := Lib.hid hO
    have HL2 := Lib.hid hK
    clear hO hK hOut hKept
    go_wp2_with fail
    refine (HI.out _ LT.out HT.out).mono ?_
    rintro e v1 ⟨p, p', rfl, r1, r2, _, k1⟩
    have R1 := Lib.hid r1
    have R2 := Lib.hid r2
    replace LT := Lib.hid (LT.out.on k1)
    replace HT := Lib.hid (HT.out.on k1)
    replace HR := Lib.hid (HR.out.below k1)
    replace BL := Lib.hid (step BL.out k1)
    clear k1 r1 r2
    go_wp2_with fail
    refine (HS.out _ LT.out HT.out).mono ?_
    rintro e v2 ⟨q, q', rfl, r3, r4, _, k2⟩
    replace LT := Lib.hid (LT.out.on k2)
    replace HT := Lib.hid (HT.out.on k2)
    replace HR := Lib.hid (HR.out.below k2)
    replace BL := Lib.hid (step BL.out k2)
    replace R1 := Lib.hid (R1.out.on k2)
    replace R2 := Lib.hid (R2.out.on k2)
    have R3 := Lib.hid r3
    have R4 := Lib.hid r4
    clear k2 r3 r4
    go_wp2_with fail
    refine (soBatch_row _ _ _ _ _ _ R1.out R3.out hz1).mono ?_
    rintro e v3 ⟨rfl, k3⟩
    replace LT := Lib.hid (LT.out.on k3)
    replace HT := Lib.hid (HT.out.on k3)
    replace HR := Lib.hid (HR.out.below k3)
    replace BL := Lib.hid (step BL.out k3)
    replace R1 := Lib.hid (R1.out.on k3)
    replace R2 := Lib.hid (R2.out.on k3)
    replace R3 := Lib.hid (R3.out.on k3)
    replace R4 := Lib.hid (R4.out.on k3)
    clear k3
    go_wp2_with fail
    refine (soBatch_row _ _ _ _ _ _ R2.out R4.out hz2).mono ?_
    rintro e v4 ⟨rfl, k4⟩
    replace LT := Lib.hid (LT.out.on k4)
    replace HT := Lib.hid (HT.out.on k4)
    replace HR := Lib.hid (HR.out.below k4)
    replace BL := Lib.hid (step BL.out k4)
    replace R1 := Lib.hid (R1.out.on k4)
    replace R2 := Lib.hid (R2.out.on k4)
    replace R3 := Lib.hid (R3.out.on k4)
    replace R4 := Lib.hid (R4.out.on k4)
    clear k4
    clear R3 R4
    obtain ⟨a1, c1, rfl, _, t1⟩ := R1.out.form
    obtain ⟨a2, c2, rfl, _, t2⟩ := R2.out.form
    have T1 := Lib.hid t1
    have T2 := Lib.hid t2
    clear t1 t2 R1 R2
    obtain ⟨g, hg⟩ : ∃ g : Nat → Nat, ∀ j, (M.sansF f (M.lst I C j)).length = g j := ⟨_, fun _ => rfl⟩
    obtain ⟨g', hg'⟩ : ∃ g' : Nat → Nat, ∀ j, (M.withF f (M.lst I C j)).length = g' j := ⟨_, fun _ => rfl⟩
    have HG := Lib.hid hg
    have HG' := Lib.hid hg'
    have e1 : L1.length = g n := by rw [HL1.out]; exact hg n
    have e2 : L2.length = g' n := by rw [HL2.out]; exact hg' n
    have HB := Lib.hid (fun j => (show g j ≤ j from by rw [← hg j]; exact M.sansF_le f I C j))
    have HB' := Lib.hid (fun j => (show g' j ≤ j from by rw [← hg' j]; exact M.withF_le f I C j))
    clear hg hg'
    rw [e1] at T1
    rw [e2] at T2
    rw [e1, e2]
    clear e1 e2
    go_wp2
    go_loopw [11, 12, 13] (fun i k m wr => ∃ j : Nat, j ≤ n ∧ m = .int .i64 j ∧ i = .int .i64 (g j : Nat) ∧ k = .int .i64 (g' j : Nat) ∧ Hid (Below v4.heap.size v4 wr)) (fun _ _ m _ => n - (intOf m).toNat)
    case atStart => exact ⟨0, by omega, rfl, by rw [show g 0 = 0 from (HG.out 0).symm]; rfl, by rw [show g' 0 = 0 from (HG'.out 0).symm]; rfl, Below.refl _ _⟩
    case round =>
      obtain ⟨j, hj, rfl, rfl, rfl, hbl⟩ := hrel
      by_cases hlt : j < n
      · have hb1 := HB.out j
        have hb2 := HB'.out j
        cases hbg : f (C j)
        · have hbg2 : f (C j) = false := hbg
          obtain ⟨x0, x1, x2⟩ := sansF_at (I := I) hlt hbg
          obtain ⟨y1, y2⟩ := M.filt_no (I := I) hbg
          have gs' : g' (j + 1) = g' j := by rw [← HG'.out, ← HG'.out, y1]
          have gs : g (j + 1) = g j + 1 := by rw [← HG.out, ← HG.out, y2]; simp
          have sg : IntKind.i64.wrap (((g j : Nat) : Int) + 1) = ((g j + 1 : Nat) : Int) := (IntWalk.i64_in _ (by omega)).trans (by omega)
          rw [HG.out j, HG.out n] at x0
          have hge : decide (((g n : Nat) : Int) ≤ ((g j : Nat) : Int)) = false := by rw [decide_eq_false_iff_not]; omega
          rw [HG.out j, ← HL1.out] at x1 x2
          obtain ⟨b2, o2, rfl, d0, d1⟩ := (T1.out.on hbl.out) (g j) x0
          rw [x1] at d0
          rw [x2] at d1
          obtain ⟨b, o, rfl, c0, c1⟩ := ((LT.out.on hbl.out)) j hlt
          have hcall := HAS.out _ (C j) (HR.out.below hbl.out)
          rw [hbg] at hcall
          have HCALL := Lib.hid hcall
          generalize I j = X at c0 d0
          generalize C j = Y at c1 d1 HCALL
          clear hbg hbg2 x1 x2 y1 y2 hcall
          go_wp2_with fail
          refine HCALL.out.mono ?_
          rintro e w5 ⟨rfl, rfl⟩
          go_wp2
          go_quiet (fail)
          all_goals go_wp2
          all_goals
            exact ⟨⟨j + 1, by omega, by go_num, by rw [gs]; first | rfl | exact congrArg (Value.int .i64) sg, by rw [gs'], hbl.out.trans ⟨rfl, rfl, rfl, Nat.le_refl _, fun _ _ => rfl⟩⟩, by simp [intOf]; omega⟩
        · have hbg2 : f (C j) = true := hbg
          obtain ⟨x0, x1, x2⟩ := withF_at (I := I) hlt hbg
          obtain ⟨y1, y2⟩ := M.filt_yes (I := I) hbg
          have gs' : g' (j + 1) = g' j + 1 := by rw [← HG'.out, ← HG'.out, y1]; simp
          have gs : g (j + 1) = g j := by rw [← HG.out, ← HG.out, y2]
          have sg : IntKind.i64.wrap (((g' j : Nat) : Int) + 1) = ((g' j + 1 : Nat) : Int) := (IntWalk.i64_in _ (by omega)).trans (by omega)
          rw [HG'.out j, HG'.out n] at x0
          have hge : decide (((g' n : Nat) : Int) ≤ ((g' j : Nat) : Int)) = false := by rw [decide_eq_false_iff_not]; omega
          rw [HG'.out j, ← HL2.out] at x1 x2
          obtain ⟨b2, o2, rfl, d0, d1⟩ := (T2.out.on hbl.out) (g' j) x0
          rw [x1] at d0
          rw [x2] at d1
          obtain ⟨b, o, rfl, c0, c1⟩ := ((LT.out.on hbl.out)) j hlt
          have hcall := HAS.out _ (C j) (HR.out.below hbl.out)
          rw [hbg] at hcall
          have HCALL := Lib.hid hcall
          generalize I j = X at c0 d0
          generalize C j = Y at c1 d1 HCALL
          clear hbg hbg2 x1 x2 y1 y2 hcall
          go_wp2_with fail
          refine HCALL.out.mono ?_
          rintro e w5 ⟨rfl, rfl⟩
          go_wp2
          go_quiet (fail)
          all_goals go_wp2
          all_goals
            exact ⟨⟨j + 1, by omega, by go_num, by rw [gs], by rw [gs']; first | rfl | exact congrArg (Value.int .i64) sg, hbl.out.trans ⟨rfl, rfl, rfl, Nat.le_refl _, fun _ _ => rfl⟩⟩, by simp [intOf]; omega⟩
      · obtain rfl : j = n := by omega
        go_wp2
        go_ret
        exact ⟨rfl, step BL.out hbl.out⟩

set_option maxRecDepth 100000 in
theorem lifted (os : Os) (started : os.Started) (H : Type) (enc : TypeId × Value → H) :
    ReturnsInHanded {} Try.checked os 3 .any (Rows.fnHoldSpec.pre6 enc Try.prog Try.f3 Rows.fnHoldRow.domain false) (Rows.fnHoldSpec.post enc Try.prog Try.f3 false true false false) := by
  refine returnsInHanded_of_change (C := Try.checked) own started (by kernel_rfl) Try.func3
    (ChangeSpec.witness6 (enc := enc) (C := Try.checked) false ⟨#[], #[.slice none 0 0], []⟩ 8 (by kernel_rfl) (by kernel_rfl) (by kernel_rfl) (by kernel_rfl)) ?_
  intro W base args ds gs before hval0 hW hcnd _
  have hval : ∀ (j : Nat) t v, Try.f3.params[j]? = some t → args[j]? = some v → Value.okWide Try.prog W .any base t v := hval0
  have hW' := hW
  obtain ⟨p, q, hA0, hV, rfl, hfz, hnd⟩ := hW
  have hA : DataW.TrodAll enc Try.prog W 0 (fun _ => true) true Try.f3.params.toList args.toList ds p := hA0
  rw [Try.params3] at hA hval
  obtain ⟨v0, vs0, d0, ds0, p0, q0, hargs, rfl, rfl, h0, r0⟩ := trodAll_cons hA
  obtain ⟨rfl, rfl, rfl⟩ := trodAll_nil r0
  obtain rfl : args = #[v0] := by cases args; simp_all
  obtain ⟨rfl, rfl⟩ := trodVars_none hV
  have g0 := h0
  have lt0 : ∀ x ∈ p0, x.block < W.heap.size := by obtain ⟨m, hm⟩ := g0; exact DataW.trod_lt m _ _ _ hm
  obtain ⟨a0, l0, k0, rfl⟩ := okWide_slice Try.underlying22 (hval 0 22 v0 rfl rfl)
  obtain ⟨z0, w0⟩ : ∃ zs, IsRow .u8 W a0 l0 k0 zs := by
    obtain ⟨fuel, hf⟩ := h0
    rcases open_ints Try.underlying22 Try.underlying5 (by kernel_rfl) hf with ⟨hcs, _⟩ | ⟨x, l, c, zs, hcs, _, hl, hm, hz, _, hcell, hwz⟩
    · simp [Value.cells] at hcs
      obtain ⟨rfl, rfl, rfl⟩ := hcs
      exact ⟨[], .inl ⟨rfl, rfl, rfl, rfl⟩⟩
    · simp [Value.cells] at hcs
      obtain ⟨rfl, rfl, rfl⟩ := hcs
      exact ⟨zs, .inr ⟨_, rfl, hl, hm, by simpa using hz, hcell, hwz⟩⟩
  clear hA0 hval0
  refine (walk W a0 l0 k0 z0 w0).mono fun e W' ⟨he, bel⟩ => ?_
  subst he
  exact ⟨_, rfl, _, _, _, [], _, [], hW', trodAll_mk1 (shut_bool Try.underlying4 _), (trodAll_cons_mk (Below.trod laidOut (by kernel_rfl) (of_decide_eq_true (by kernel_rfl)) g0 bel lt0) trodAll_mk0), rfl, bel.frame _, fun h => by cases h⟩

theorem proved : Rows.FnHoldSaid :=
  OpenClaim.holds_of_wide 3 Try.f3 rfl rfl rfl rfl rfl rfl rfl ⟨rfl, rfl, rfl, rfl, rfl⟩ rfl rfl rfl rfl rfl (by kernel_rfl) Try.func3 (by kernel_rfl)
    (of_decide_eq_true (by kernel_rfl)) (by unfold Func.isWrapper; first | (rw [if_pos (by decide +kernel)]; kernel_rfl) | (rw [if_neg (by decide +kernel)]; exact ⟨rfl, rfl⟩))
    (fun os started H enc _ => lifted os started H enc)
#print axioms proved
end Go.Proofs.Ytghgipcblhfceaa.fnHold
