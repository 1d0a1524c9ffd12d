/-
  For every slice of bytes, laws.FnForwardBatch returns true.
-/
import Derived.Test.YtekkajgifgnklaaRows
import Derived.Test.YtekkajgifgnklaaFwBM
import Derived.Test.YtekkajgifgnklaaMgA8
import Derived.Test.YtekkajgifgnklaaDir2
import Derived.Test.YtekkajgifgnklaaNext
import Derived.BigQuiet
import Derived.IntWalk
import Derived.WalkKit
import Derived.ProofKit
import Derived.OpenShut
import Derived.ShutString
import Derived.ChangeOld
import Derived.Below
import Derived.Handy
import Derived.Lib.Hide
namespace Go.Proofs.Ytekkajgifgnklaa.fnForwardBatch
open Go.ChangeShapes Go.WideShapes Go.ChangeAt Go.RowKit
open Go.ChangeMaps (open_string shut_string)
open Go.PlainAid (bt get_bt bt_nonneg bt_le)
set_option linter.unusedVariables false

theorem own : ownKnob Try.prog.godebug = none := by kernel_rfl
theorem laidOut : laidOutB Try.prog = true := by kernel_rfl

set_option maxHeartbeats 8000000 in
set_option maxRecDepth 100000 in
theorem walk (w : World) (a0 : Option Addr) (l0 k0 : Nat) (z0 : List Int) (w0 : IsRow .u8 w a0 l0 k0 z0) :
    Calls Try.prog 3 #[.slice a0 l0 k0] w fun e w' => e = .returned (.bool true) ∧ Below w.heap.size w w' := by
  by_cases hl : 1048576 < l0
  · go_enter Try.func3, Try.ntmps3
    go_wp2
    go_ret
    exact ⟨rfl, Below.refl _ _⟩
  go_enter Try.func3, Try.ntmps3
  go_wp2_with fail
  refine (DrawForwardBatch_any a0 l0 k0 z0 w w0).mono ?_
  rintro e u ⟨vf, v, FL, L, B1, B2, rfl, rf, hn, smf, rw1, hm, sm, bl⟩
  obtain ⟨af, cf, rfl, _, ft⟩ := rf.form
  obtain ⟨a, c, rfl, _, lt⟩ := rw1.form
  have FT := Lib.hid ft
  have FF : Hid (FFits FL.length (nF FL) (nT FL)) := fun i hi => by
    have := smf _ (List.getElem_mem hi)
    rw [nF_at hi, nT_at hi]
    exact ⟨by unfold maxLen; omega, by unfold maxLen; omega⟩
  have LT := Lib.hid lt
  have FI : Hid (Fits L.length (nI L) (nC L)) := fun i hi => by
    have := sm.at i hi
    rw [nI_at hi, nC_at hi]
    exact ⟨by omega, by unfold maxLen; omega⟩
  have BL := Lib.hid bl
  have hn2 : FL.length ≤ 1048576 := by omega
  have hm2 : L.length ≤ 1048576 := by omega
  clear lt bl rw1 sm rf ft smf
  have HI : Hid (∀ X, Fws X af FL.length (nF FL) (nT FL) → Lts X a L.length (nI L) (nC L) → Calls Try.prog 6 #[.slice af FL.length cf, .slice a L.length c] X (Split X (M.fbOk (nF FL) (nT FL) FL.length (nI L) (nC L) L.length) (M.fbSent (nF FL) (nT FL) FL.length (nI L) (nC L) L.length) (M.fbStuck (nF FL) (nT FL) FL.length (nI L) (nC L) L.length))) := fun X hw hs => impl_ForwardBatch X af FL.length cf _ _ hw FF.out a L.length c _ _ hs FI.out
  have HS : Hid (∀ X, Fws X af FL.length (nF FL) (nT FL) → Lts X a L.length (nI L) (nC L) → Calls Try.prog 7 #[.slice af FL.length cf, .slice a L.length c] X (Split X (M.fbOk (nF FL) (nT FL) FL.length (nI L) (nC L) L.length) (M.fbSent (nF FL) (nT FL) FL.length (nI L) (nC L) L.length) (M.fbStuck (nF FL) (nT FL) FL.length (nI L) (nC L) L.length))) := fun X hw hs => spec_ForwardBatch X af FL.length cf _ _ hw FF.out hn2 a L.length c _ _ hs FI.out hm2
  have HDIR : Hid (∀ X, Fws X af FL.length (nF FL) (nT FL) → Calls Try.prog 9 #[.slice af FL.length cf] X (FRowOut X (M.direct (nF FL) (nT FL) FL.length))) := fun X hw => impl_DirectForwards X af FL.length cf _ _ hw FF.out
  have hlb1 := M.fbSent_le (nF FL) (nT FL) FL.length (nI L) (nC L) L.length
  have hlb2 := M.fbStuck_le (nF FL) (nT FL) FL.length (nI L) (nC L) L.length
  have HLAW := Lib.hid (fun h => fb_law (F := nF FL) (T := nT FL) (n := FL.length) (I := nI L) (C := nC L) (m := L.length) h rfl rfl)
  have HLOOP := Lib.hid (fun h => fb_loop (F := nF FL) (T := nT FL) (n := FL.length) (I := nI L) (C := nC L) (m := L.length) h rfl rfl)
  have hdl := M.direct_le (nF FL) (nT FL) FL.length
  have HDF : Hid (M.fwd FL.length (nF FL) (nT FL) = true → FFits (M.direct (nF FL) (nT FL) FL.length).length (nF (M.direct (nF FL) (nT FL) FL.length)) (nT (M.direct (nF FL) (nT FL) FL.length))) := fun h i hi => by
    have := (M.fwd_yes (M.direct_fwd h)).2 i hi
    exact ⟨M.code_size this.1, M.code_size this.2.1⟩
  obtain ⟨L1, hL1⟩ : ∃ L1, M.fbSent (nF FL) (nT FL) FL.length (nI L) (nC L) L.length = L1 := ⟨_, rfl⟩
  obtain ⟨L2, hL2⟩ : ∃ L2, M.fbStuck (nF FL) (nT FL) FL.length (nI L) (nC L) L.length = L2 := ⟨_, rfl⟩
  obtain ⟨D, hD⟩ : ∃ D, M.direct (nF FL) (nT FL) FL.length = D := ⟨_, rfl⟩
  obtain ⟨ok, hok⟩ : ∃ ok, M.fbOk (nF FL) (nT FL) FL.length (nI L) (nC L) L.length = ok := ⟨_, rfl⟩
  rw [hL1] at hlb1 HI HS HLAW HLOOP
  rw [hL2] at hlb2 HI HS HLAW HLOOP
  rw [hD] at HDIR HLAW hdl HDF
  rw [hok] at HI HS HLAW HLOOP
  have hz1 : L1.length ≤ 1048576 := by omega
  have hz2 : L2.length ≤ 1048576 := by omega
  have hz3 : D.length ≤ 1048576 := by omega
  clear hL1 hL2 hD hok
  generalize FL.length = nf at FT FF hn hn2 HI HS HDIR HLAW HLOOP hdl HDF ⊢
  generalize nF FL = G at FT FF HI HS HDIR HLAW HLOOP HDF
  generalize nT FL = T at FT FF HI HS HDIR HLAW HLOOP HDF
  generalize L.length = m at LT FI hm hm2 HI HS hlb1 hlb2 HLAW HLOOP ⊢
  generalize nI L = I at LT FI HI HS HLAW HLOOP
  generalize nC L = C at LT FI HI HS HLAW HLOOP
  cases ok
  · clear HLAW HLOOP HDIR HDF hdl hz3
    go_wp2_with fail
    refine (HI.out _ FT.out LT.out).mono ?_
    rintro e v1 ⟨p, p', rfl, r1, r2, _, k1⟩
    have R1 := Lib.hid r1
    have R2 := Lib.hid r2
    replace LT := Lib.hid (LT.out.on k1)
    replace FT := Lib.hid (FT.out.on k1)
    replace BL := Lib.hid (step BL.out k1)
    clear k1 r1 r2
    go_wp2_with fail
    refine (HS.out _ FT.out LT.out).mono ?_
    rintro e v2 ⟨q, q', rfl, r3, r4, _, k2⟩
    replace LT := Lib.hid (LT.out.on k2)
    replace FT := Lib.hid (FT.out.on k2)
    replace BL := Lib.hid (step BL.out k2)
    replace R1 := Lib.hid (R1.out.on k2)
    replace R2 := Lib.hid (R2.out.on k2)
    have R3 := Lib.hid r3
    have R4 := Lib.hid r4
    clear k2 r3 r4
    go_wp2_with fail
    refine (soBatch_row _ _ _ _ _ _ R1.out R3.out hz1).mono ?_
    rintro e v3 ⟨rfl, k3⟩
    replace LT := Lib.hid (LT.out.on k3)
    replace FT := Lib.hid (FT.out.on k3)
    replace BL := Lib.hid (step BL.out k3)
    replace R1 := Lib.hid (R1.out.on k3)
    replace R2 := Lib.hid (R2.out.on k3)
    replace R3 := Lib.hid (R3.out.on k3)
    replace R4 := Lib.hid (R4.out.on k3)
    clear k3
    go_wp2_with fail
    refine (soBatch_row _ _ _ _ _ _ R2.out R4.out hz2).mono ?_
    rintro e v4 ⟨rfl, k4⟩
    replace LT := Lib.hid (LT.out.on k4)
    replace FT := Lib.hid (FT.out.on k4)
    replace BL := Lib.hid (step BL.out k4)
    replace R1 := Lib.hid (R1.out.on k4)
    replace R2 := Lib.hid (R2.out.on k4)
    replace R3 := Lib.hid (R3.out.on k4)
    replace R4 := Lib.hid (R4.out.on k4)
    clear k4
    go_wp2_with fail
    refine (soBatch_row _ _ _ _ _ _ R1.out R3.out hz1).mono ?_
    rintro e v5 ⟨rfl, k5⟩
    replace LT := Lib.hid (LT.out.on k5)
    replace FT := Lib.hid (FT.out.on k5)
    replace BL := Lib.hid (step BL.out k5)
    replace R1 := Lib.hid (R1.out.on k5)
    replace R2 := Lib.hid (R2.out.on k5)
    replace R3 := Lib.hid (R3.out.on k5)
    replace R4 := Lib.hid (R4.out.on k5)
    clear k5
    go_wp2_with fail
    refine (soBatch_row _ _ _ _ _ _ R2.out R4.out hz2).mono ?_
    rintro e v6 ⟨rfl, k6⟩
    replace LT := Lib.hid (LT.out.on k6)
    replace FT := Lib.hid (FT.out.on k6)
    replace BL := Lib.hid (step BL.out k6)
    replace R1 := Lib.hid (R1.out.on k6)
    replace R2 := Lib.hid (R2.out.on k6)
    replace R3 := Lib.hid (R3.out.on k6)
    replace R4 := Lib.hid (R4.out.on k6)
    clear k6
    go_wp2
    go_ret
    exact ⟨rfl, BL.out⟩
  · have hlaw := HLAW.out rfl
    obtain ⟨g, g0, gm, gle, gat⟩ := HLOOP.out rfl
    obtain ⟨⟨e1, e2⟩, ⟨e3, e4⟩, hsum, hBX, hBY, hfw, hcode, hq1, hq2⟩ := hlaw
    clear hq1 hq2
    have HDF2 := Lib.hid (HDF.out hfw)
    have FX := Lib.hid hBX.fits
    have FY := Lib.hid hBY.fits
    have HIX : Hid (∀ X a1 c1, Fws X af nf G T → Lts X a1 L1.length (nI L1) (nC L1) → Calls Try.prog 6 #[.slice af nf cf, .slice a1 L1.length c1] X (Split X (M.fbOk G T nf (nI L1) (nC L1) L1.length) L1 [])) := fun X a1 c1 h1 h2 => by
      have := impl_ForwardBatch X af nf cf _ _ h1 FF.out a1 L1.length c1 _ _ h2 FX.out
      rw [e1, e2] at this
      exact this
    have HID : Hid (∀ X ad cd a1 c1, Fws X ad D.length (nF D) (nT D) → Lts X a1 L1.length (nI L1) (nC L1) → Calls Try.prog 6 #[.slice ad D.length cd, .slice a1 L1.length c1] X (Split X (M.fbOk (nF D) (nT D) D.length (nI L1) (nC L1) L1.length) L1 [])) := fun X ad cd a1 c1 h1 h2 => by
      have := impl_ForwardBatch X ad D.length cd _ _ h1 HDF2.out a1 L1.length c1 _ _ h2 FX.out
      rw [e3, e4] at this
      exact this
    obtain ⟨o1, ho1⟩ : ∃ o1, M.fbOk G T nf (nI L1) (nC L1) L1.length = o1 := ⟨_, rfl⟩
    obtain ⟨o2, ho2⟩ : ∃ o2, M.fbOk (nF D) (nT D) D.length (nI L1) (nC L1) L1.length = o2 := ⟨_, rfl⟩
    rw [ho1] at HIX
    rw [ho2] at HID
    have HRES : Hid (∀ X j, j < m → Fws X af nf G T → Calls Try.prog 10 #[.slice af nf cf, .string (C j)] X fun e w' => e = .returned (resV (M.resCode G T nf (C j))) ∧ Below X.heap.size X w') := fun X j hj h => impl_ResolveCode X af nf cf G T h FF.out (C j) (M.code_size (hcode j hj))
    have hsm : IntKind.i64.wrap ((L1.length : Int) + (L2.length : Int)) = (m : Int) := by rw [IntWalk.i64_in _ (by omega)]; omega
    have hgm : (((g m : Nat) : Int) == (L1.length : Int)) = true := by rw [gm]; simp
    have GAT := Lib.hid gat
    have GLE := Lib.hid gle
    have G0 := Lib.hid g0
    have GM := Lib.hid gm
    have HSM := Lib.hid hsm
    have HGM := Lib.hid hgm
    clear e1 e2 e3 e4 hBX hBY hfw hcode HLAW HLOOP ho1 ho2 gat gle g0 gm HDF hsum hsm hgm
    go_wp2_with fail
    refine (HI.out _ FT.out LT.out).mono ?_
    rintro e v1 ⟨p, p', rfl, r1, r2, _, k1⟩
    have R1 := Lib.hid r1
    have R2 := Lib.hid r2
    replace LT := Lib.hid (LT.out.on k1)
    replace FT := Lib.hid (FT.out.on k1)
    replace BL := Lib.hid (step BL.out k1)
    clear k1 r1 r2
    go_wp2_with fail
    refine (HS.out _ FT.out LT.out).mono ?_
    rintro e v2 ⟨q, q', rfl, r3, r4, _, k2⟩
    replace LT := Lib.hid (LT.out.on k2)
    replace FT := Lib.hid (FT.out.on k2)
    replace BL := Lib.hid (step BL.out k2)
    replace R1 := Lib.hid (R1.out.on k2)
    replace R2 := Lib.hid (R2.out.on k2)
    have R3 := Lib.hid r3
    have R4 := Lib.hid r4
    clear k2 r3 r4
    go_wp2_with fail
    refine (soBatch_row _ _ _ _ _ _ R1.out R3.out hz1).mono ?_
    rintro e v3 ⟨rfl, k3⟩
    replace LT := Lib.hid (LT.out.on k3)
    replace FT := Lib.hid (FT.out.on k3)
    replace BL := Lib.hid (step BL.out k3)
    replace R1 := Lib.hid (R1.out.on k3)
    replace R2 := Lib.hid (R2.out.on k3)
    replace R3 := Lib.hid (R3.out.on k3)
    replace R4 := Lib.hid (R4.out.on k3)
    clear k3
    go_wp2_with fail
    refine (soBatch_row _ _ _ _ _ _ R2.out R4.out hz2).mono ?_
    rintro e v4 ⟨rfl, k4⟩
    replace LT := Lib.hid (LT.out.on k4)
    replace FT := Lib.hid (FT.out.on k4)
    replace BL := Lib.hid (step BL.out k4)
    replace R1 := Lib.hid (R1.out.on k4)
    replace R2 := Lib.hid (R2.out.on k4)
    replace R3 := Lib.hid (R3.out.on k4)
    replace R4 := Lib.hid (R4.out.on k4)
    clear k4
    clear R3 R4
    obtain ⟨a1, c1, hv1, _, t1⟩ := R1.out.form
    subst hv1
    obtain ⟨a2, c2, hv2, _, t2⟩ := R2.out.form
    subst hv2
    have T1 := Lib.hid t1
    have T2 := Lib.hid t2
    clear t1 t2
    go_wp2_with fail
    refine (HIX.out _ a1 c1 FT.out T1.out).mono ?_
    rintro e v5 ⟨x5, y5, rfl, r5, r6, _, k5⟩
    replace LT := Lib.hid (LT.out.on k5)
    replace FT := Lib.hid (FT.out.on k5)
    replace BL := Lib.hid (step BL.out k5)
    replace R1 := Lib.hid (R1.out.on k5)
    replace R2 := Lib.hid (R2.out.on k5)
    replace T1 := Lib.hid (T1.out.on k5)
    replace T2 := Lib.hid (T2.out.on k5)
    have R5 := Lib.hid r5
    obtain ⟨a6, c6, hv6, _, _⟩ := r6.form
    subst hv6
    clear r5 r6 k5
    go_wp2_with fail
    refine (HDIR.out _ FT.out).mono ?_
    rintro e v6 ⟨x6, rfl, r7, k6⟩
    replace LT := Lib.hid (LT.out.on k6)
    replace FT := Lib.hid (FT.out.on k6)
    replace BL := Lib.hid (step BL.out k6)
    replace R1 := Lib.hid (R1.out.on k6)
    replace R2 := Lib.hid (R2.out.on k6)
    replace T1 := Lib.hid (T1.out.on k6)
    replace T2 := Lib.hid (T2.out.on k6)
    replace R5 := Lib.hid (R5.out.on k6)
    obtain ⟨ad, cd, hvd, _, td⟩ := r7.form
    subst hvd
    have TD := Lib.hid td
    clear r7 td k6
    go_wp2_with fail
    refine (HID.out _ ad cd a1 c1 TD.out T1.out).mono ?_
    rintro e v7 ⟨x7, y7, rfl, r8, r9, _, k7⟩
    replace LT := Lib.hid (LT.out.on k7)
    replace FT := Lib.hid (FT.out.on k7)
    replace BL := Lib.hid (step BL.out k7)
    replace R1 := Lib.hid (R1.out.on k7)
    replace R2 := Lib.hid (R2.out.on k7)
    replace T1 := Lib.hid (T1.out.on k7)
    replace T2 := Lib.hid (T2.out.on k7)
    replace R5 := Lib.hid (R5.out.on k7)
    have R7 := Lib.hid r8
    obtain ⟨a9, c9, hv9, _, _⟩ := r9.form
    subst hv9
    clear r8 r9 k7 TD HI HS HIX HID HDIR FF FI FX HDF2
    go_wp2
    go_loopw [17, 18] (fun k i wr => ∃ j : Nat, j ≤ m ∧ i = .int .i64 j ∧ k = .int .i64 (g j : Nat) ∧ Hid (Below v7.heap.size v7 wr)) (fun _ i _ => m - (intOf i).toNat)
    case atStart => exact ⟨0, Nat.zero_le _, rfl, by rw [G0.out]; rfl, Below.refl _ _⟩
    case round =>
      obtain ⟨j, hj, rfl, rfl, hbl⟩ := hrel
      by_cases hlt : j < m
      · have hb1 := GLE.out j
        obtain ⟨b, o, rfl, c0, c1'⟩ := (LT.out.on hbl.out) j hlt
        rcases GAT.out j hlt with ⟨d, t, hres, x0, x1, x2, gs⟩ | ⟨hres, gs, q, hq⟩
        · have HCALL := HRES.out _ j hlt (FT.out.on hbl.out)
          rw [hres] at HCALL
          replace HCALL := Lib.hid HCALL
          obtain ⟨b2, o2', rfl, d0, d1⟩ := (T1.out.on hbl.out) (g j) x0
          rw [x1] at d0
          rw [x2] at d1
          have sg : IntKind.i64.wrap (((g j : Nat) : Int) + 1) = ((g j + 1 : Nat) : Int) := (IntWalk.i64_in _ (by omega)).trans (by omega)
          have hge : decide ((L1.length : Int) ≤ ((g j : Nat) : Int)) = false := by rw [decide_eq_false_iff_not]; omega
          have hB1 : b < wr.heap.size := World.block_lt_of_cell? _ _ c0
          have hB2 : b2 < wr.heap.size := World.block_lt_of_cell? _ _ d0
          generalize I j = X at c0 d0
          generalize C j = Y at c1' HCALL
          clear hres x1 x2
          go_wp2_with fail
          refine HCALL.out.mono ?_
          rintro e w8 ⟨rfl, k8⟩
          have B8 := Lib.hid (step hbl.out k8)
          replace c0 := (k8.cell (p := ⟨b, o + j * 2, none⟩) hB1).trans c0
          replace d0 := (k8.cell (p := ⟨b2, o2' + g j * 2, none⟩) hB2).trans d0
          replace d1 := (k8.cell (p := ⟨b2, o2' + g j * 2 + 1, none⟩) hB2).trans d1
          clear c1' k8 HCALL
          go_wp2
          go_quiet (fail)
          all_goals go_wp2
          all_goals
            go_roundw
            case rel => exact ⟨j + 1, by omega, by go_num, by rw [gs]; first | rfl | exact congrArg (Value.int .i64) sg, B8.out.trans ⟨rfl, rfl, rfl, Nat.le_refl _, fun _ _ => rfl⟩⟩
            case measure => simp [intOf]; omega
        · have HCALL := HRES.out _ j hlt (FT.out.on hbl.out)
          rw [hres] at HCALL
          replace HCALL := Lib.hid HCALL
          have hB1 : b < wr.heap.size := World.block_lt_of_cell? _ _ c0
          have HQ := Lib.hid hq
          have hq0 : ¬ (q : Int) < 0 := by omega
          have T2' := Lib.hid (T2.out.on hbl.out)
          generalize I j = X at c0 HQ
          generalize C j = Y at c1' HCALL
          clear hres hq
          go_wp2_with fail
          refine HCALL.out.mono ?_
          rintro e w8 ⟨rfl, k8⟩
          have B8 := Lib.hid (step hbl.out k8)
          replace T2' := Lib.hid (T2'.out.on k8)
          replace c0 := (k8.cell (p := ⟨b, o + j * 2, none⟩) hB1).trans c0
          clear c1' k8 HCALL
          go_wp2_with fail
          refine (soPlace_any _ _ _ _ _ _ T2'.out FY.out _).mono ?_
          rw [HQ.out]
          rintro e w9 ⟨rfl, k9⟩
          replace B8 := Lib.hid (step B8.out k9)
          clear k9 c0
          go_wp2
          go_roundw
          case rel => exact ⟨j + 1, by omega, by go_num, by rw [gs], B8⟩
          case measure => simp [intOf]; omega
      · obtain rfl : j = m := by omega
        replace R1 := Lib.hid (R1.out.on hbl.out)
        replace R5 := Lib.hid (R5.out.on hbl.out)
        replace R7 := Lib.hid (R7.out.on hbl.out)
        replace BL := Lib.hid (step BL.out hbl.out)
        have hsm := HSM.out
        have hgm := HGM.out
        clear hbl FT LT T1 T2 R2
        go_wp2_with fail
        refine (soBatch_row _ _ _ _ _ _ R5.out R1.out hz1).mono ?_
        rintro e v8 ⟨rfl, k8⟩
        replace R1 := Lib.hid (R1.out.on k8)
        replace R7 := Lib.hid (R7.out.on k8)
        replace BL := Lib.hid (step BL.out k8)
        clear k8
        go_wp2_with fail
        refine (soBatch_row _ _ _ _ _ _ R7.out R1.out hz1).mono ?_
        rintro e v9 ⟨rfl, k9⟩
        replace BL := Lib.hid (step BL.out k9)
        clear k9
        go_wp2
        go_ret
        exact ⟨rfl, BL.out⟩

set_option maxRecDepth 100000 in
theorem lifted (os : Os) (started : os.Started) (H : Type) (enc : TypeId × Value → H) :
    ReturnsInHanded {} Try.checked os 3 .any (Rows.fnForwardBatchSpec.pre6 enc Try.prog Try.f3 Rows.fnForwardBatchRow.domain false) (Rows.fnForwardBatchSpec.post enc Try.prog Try.f3 false true false false) := by
  refine returnsInHanded_of_change (C := Try.checked) own started (by kernel_rfl) Try.func3
    (ChangeSpec.witness6 (enc := enc) (C := Try.checked) false ⟨#[], #[.slice none 0 0], []⟩ 8 (by kernel_rfl) (by kernel_rfl) (by kernel_rfl) (by kernel_rfl)) ?_
  intro W base args ds gs before hval0 hW hcnd _
  have hval : ∀ (j : Nat) t v, Try.f3.params[j]? = some t → args[j]? = some v → Value.okWide Try.prog W .any base t v := hval0
  have hW' := hW
  obtain ⟨p, q, hA0, hV, rfl, hfz, hnd⟩ := hW
  have hA : DataW.TrodAll enc Try.prog W 0 (fun _ => true) true Try.f3.params.toList args.toList ds p := hA0
  rw [Try.params3] at hA hval
  obtain ⟨v0, vs0, d0, ds0, p0, q0, hargs, rfl, rfl, h0, r0⟩ := trodAll_cons hA
  obtain ⟨rfl, rfl, rfl⟩ := trodAll_nil r0
  obtain rfl : args = #[v0] := by cases args; simp_all
  obtain ⟨rfl, rfl⟩ := trodVars_none hV
  have g0 := h0
  have lt0 : ∀ x ∈ p0, x.block < W.heap.size := by obtain ⟨m, hm⟩ := g0; exact DataW.trod_lt m _ _ _ hm
  obtain ⟨a0, l0, k0, rfl⟩ := okWide_slice Try.underlying22 (hval 0 22 v0 rfl rfl)
  obtain ⟨z0, w0⟩ : ∃ zs, IsRow .u8 W a0 l0 k0 zs := by
    obtain ⟨fuel, hf⟩ := h0
    rcases open_ints Try.underlying22 Try.underlying5 (by kernel_rfl) hf with ⟨hcs, _⟩ | ⟨x, l, c, zs, hcs, _, hl, hm, hz, _, hcell, hwz⟩
    · simp [Value.cells] at hcs
      obtain ⟨rfl, rfl, rfl⟩ := hcs
      exact ⟨[], .inl ⟨rfl, rfl, rfl, rfl⟩⟩
    · simp [Value.cells] at hcs
      obtain ⟨rfl, rfl, rfl⟩ := hcs
      exact ⟨zs, .inr ⟨_, rfl, hl, hm, by simpa using hz, hcell, hwz⟩⟩
  clear hA0 hval0
  refine (walk W a0 l0 k0 z0 w0).mono fun e W' ⟨he, bel⟩ => ?_
  subst he
  exact ⟨_, rfl, _, _, _, [], _, [], hW', trodAll_mk1 (shut_bool Try.underlying4 _), (trodAll_cons_mk (Below.trod laidOut (by kernel_rfl) (of_decide_eq_true (by kernel_rfl)) g0 bel lt0) trodAll_mk0), rfl, bel.frame _, fun h => by cases h⟩

theorem proved : Rows.FnForwardBatchSaid :=
  OpenClaim.holds_of_wide 3 Try.f3 rfl rfl rfl rfl rfl rfl rfl ⟨rfl, rfl, rfl, rfl, rfl⟩ rfl rfl rfl rfl rfl (by kernel_rfl) Try.func3 (by kernel_rfl)
    (of_decide_eq_true (by kernel_rfl)) (by unfold Func.isWrapper; first | (rw [if_pos (by decide +kernel)]; kernel_rfl) | (rw [if_neg (by decide +kernel)]; exact ⟨rfl, rfl⟩))
    (fun os started H enc _ => lifted os started H enc)
#print axioms proved
end Go.Proofs.Ytekkajgifgnklaa.fnForwardBatch
