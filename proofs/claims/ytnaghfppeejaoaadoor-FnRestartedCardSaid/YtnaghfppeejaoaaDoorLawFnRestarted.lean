/-
  For every slice of bytes, laws.FnRestarted returns true.
-/
import Derived.Test.YtnaghfppeejaoaaDoorCards
import Derived.Test.YtnaghfppeejaoaaDoorDr7
import Derived.Test.YtnaghfppeejaoaaDoorErrA
import Derived.Test.YtnaghfppeejaoaaDoorSoA
import Derived.Test.YtnaghfppeejaoaaDoorKeptA
import Derived.Test.YtnaghfppeejaoaaDoorLaidJ
import Derived.Test.YtnaghfppeejaoaaDoorTie
import Derived.LaidMore
import Derived.Stop.Joined
import Derived.SevenTiedAt
import Derived.Lay
import Derived.WalkKit
import Derived.ProofKit
import Derived.OpenShut
import Derived.ShutString
import Derived.ChangeOld
import Derived.Below
import Derived.Handy
import Derived.Lib.Hide
namespace Go.Proofs.YtnaghfppeejaoaaDoor.fnRestarted
open Go.ChangeShapes Go.WideShapes Go.ChangeAt Go.RowKit
open Go.ChangeMaps (open_string shut_string)
open Go.PlainAid (bt get_bt bt_nonneg bt_le)
set_option linter.unusedVariables false

theorem own : ownKnob Tryd.prog.godebug = none := by kernel_rfl
theorem laidOut : laidOutB Tryd.prog = true := by kernel_rfl

set_option maxHeartbeats 40000000 in
set_option maxRecDepth 100000 in
theorem walk (w : World) (a0 : Option Addr) (l0 k0 : Nat) (z0 : List Int) (w0 : IsRow .u8 w a0 l0 k0 z0) (J : Addr) (hJ : Jam w J) :
    Calls Tryd.prog 10 #[.slice a0 l0 k0] w fun e w' => e = .returned (.bool true) ∧ Below w.heap.size w w' := by
  by_cases hl : 1048576 < l0
  · go_enter Tryd.func10, Tryd.ntmps10
    go_wp2
    go_ret
    exact ⟨rfl, Below.refl _ _⟩
  go_enter Tryd.func10, Tryd.ntmps10
  go_wp2_with fail
  refine (DrawRunRestarted_any a0 l0 k0 z0 w w0).mono ?_
  rintro e u ⟨b, p, a, n, c, S, a2, m, c2, I, C, x, a3, LM, c3, rfl, hpl, hx9, bl, hcp, hmd⟩
  have HCP := Lib.hid hcp
  clear hcp
  obtain ⟨L, hmL, hpl2⟩ := hpl.list
  subst hmL
  clear hpl
  have hpl := hpl2
  clear hpl2
  have ba := below_alloc0 u (.cells #[.int .i64 b, .int .i64 p, .slice a n c] 25)
  have PL := Lib.hid (hpl.on ba)
  have MD := Lib.hid (hmd.on ba)
  have HJ := Lib.hid ((hJ.on bl).on ba)
  have X := Lib.hid (tri_made u (.int .i64 b) (.int .i64 p) (.slice a n c) 25)
  have BL := Lib.hid (step bl ba)
  obtain ⟨v0, hv0⟩ : ∃ v0, u.alloc (.cells #[.int .i64 b, .int .i64 p, .slice a n c] 25) = v0 := ⟨_, rfl⟩
  rw [hv0] at PL X BL MD HJ
  have HV0 := Lib.hid hv0
  have hn := PL.out.pn
  have hm := PL.out.ln
  have hn2 : n ≤ 1048576 := by omega
  have hm2 : L.length ≤ 1048576 := by omega
  have hm5 := MD.out.mn
  have hm3 : LM.length ≤ 1048576 := by omega
  clear hpl bl ba hv0 hmd hJ
  cases hok : faultyOk b p n S L.length (nI L) (nC L) x LM.length (mI LM) (mC LM)
  · have HOK := Lib.hid hok
    have HL : Hid (okAns b p n S L.length (nI L) (nC L) x LM.length (mI LM) (mC LM) (resAns b p n S L.length (nI L) (nC L) (x : Int).toNat LM.length (mI LM) (mC LM)) = []) := by
      unfold Hid okAns
      rw [hok, if_neg (by decide)]
    have hq1 : ([] : List (Int × ByteArray)).length ≤ 1048576 := by simp
    clear hok
    obtain ⟨⟨d0, d1, d2⟩, g0, g1, g2⟩ := X.out
    have lx := X.out.lt
    go_wp2_with fail
    rw [HV0.out]
    refine (impl_RunRestarted _ J HJ.out b p a n c S PL.out.ps PL.out.pf hn2 a2 L.length c2 (nI L) (nC L) PL.out.ls PL.out.lf x a3 LM.length c3 (mI LM) (mC LM) MD.out.ms MD.out.mf).mono ?_
    rw [HL.out]
    rw [HOK.out]
    rintro e v1 ⟨p1, rfl, r1, k1⟩
    obtain ⟨a4, c4, rfl, _, _⟩ := r1.form
    clear d0 d1 d2 g0 g1 g2 lx
    replace BL := Lib.hid (step BL.out k1)
    replace PL := Lib.hid (PL.out.on k1)
    replace X := Lib.hid (X.out.on k1)
    replace MD := Lib.hid (MD.out.on k1)
    replace HJ := Lib.hid (HJ.out.on k1)
    have R1 := Lib.hid (r1)
    clear k1
    clear r1
    obtain ⟨⟨d0, d1, d2⟩, g0, g1, g2⟩ := X.out
    have lx := X.out.lt
    go_wp2_with fail
    refine (spec_RunRestarted _ b p a n c S PL.out.ps PL.out.pf hn2 a2 L.length c2 (nI L) (nC L) PL.out.ls PL.out.lf hm2 x a3 LM.length c3 (mI LM) (mC LM) MD.out.ms MD.out.mf hm3).mono ?_
    rw [HL.out]
    rw [HOK.out]
    rintro e v2 ⟨p2, rfl, r2, k2⟩
    obtain ⟨a5, c5, rfl, _, _⟩ := r2.form
    clear d0 d1 d2 g0 g1 g2 lx
    replace BL := Lib.hid (step BL.out k2)
    replace PL := Lib.hid (PL.out.on k2)
    replace X := Lib.hid (X.out.on k2)
    replace MD := Lib.hid (MD.out.on k2)
    replace HJ := Lib.hid (HJ.out.on k2)
    replace R1 := Lib.hid (R1.out.on k2)
    have R2 := Lib.hid (r2)
    clear k2
    clear r2
    obtain ⟨⟨d0, d1, d2⟩, g0, g1, g2⟩ := X.out
    have lx := X.out.lt
    go_wp2_with fail
    refine (soBatch_row _ _ _ _ _ _ R1.out R2.out hq1).mono ?_
    rintro e v3 ⟨rfl, k3⟩
    clear d0 d1 d2 g0 g1 g2 lx
    replace BL := Lib.hid (step BL.out k3)
    replace PL := Lib.hid (PL.out.on k3)
    replace X := Lib.hid (X.out.on k3)
    replace MD := Lib.hid (MD.out.on k3)
    replace HJ := Lib.hid (HJ.out.on k3)
    replace R1 := Lib.hid (R1.out.on k3)
    replace R2 := Lib.hid (R2.out.on k3)
    clear k3
    obtain ⟨⟨d0, d1, d2⟩, g0, g1, g2⟩ := X.out
    have lx := X.out.lt
    go_wp2_with fail
    refine (soBatch_row _ _ _ _ _ _ R1.out R2.out hq1).mono ?_
    rintro e v4 ⟨rfl, k4⟩
    clear d0 d1 d2 g0 g1 g2 lx
    replace BL := Lib.hid (step BL.out k4)
    replace PL := Lib.hid (PL.out.on k4)
    replace X := Lib.hid (X.out.on k4)
    replace MD := Lib.hid (MD.out.on k4)
    replace HJ := Lib.hid (HJ.out.on k4)
    replace R1 := Lib.hid (R1.out.on k4)
    replace R2 := Lib.hid (R2.out.on k4)
    clear k4
    obtain ⟨⟨d0, d1, d2⟩, g0, g1, g2⟩ := X.out
    have lx := X.out.lt
    go_wp2
    go_ret
    exact ⟨rfl, BL.out⟩
  · have HOK := Lib.hid hok
    have hk := hok
    rw [faultyOk_eq] at hk
    simp only [Bool.and_eq_true, decide_eq_true_eq] at hk
    obtain ⟨⟨⟨hp, hb⟩, hx⟩, hmi⟩ := hk
    obtain ⟨_, hm60, hmt⟩ := M.mis_true hmi
    have hbl := (batchL_list L).1 hb
    have hsL := srt_batch (n := n) (S := S) hbl
    have hl1 := runList_srt (runOk_list hp hbl)
    rw [lst_nI] at hl1
    obtain ⟨q, rfl⟩ := Int.eq_ofNat_of_zero_le hx.1
    have hqp : (q : Int) < p := by omega
    obtain ⟨E, hE, hres, hperm⟩ := res_srt hp hb q hmt
    rw [lst_nI] at hperm
    have hio := inOrder_srt hp hE
    have hsb := srt_batch (n := n) (S := S) hE
    have hmv : M.moved b p n S (srt n S E).length (nI (srt n S E)) (nC (srt n S E)) = 0 := by
      unfold M.moved
      rw [kept_stay hp hsb, stay_srt, if_neg (by omega)]
      omega
    obtain ⟨R, hR⟩ : ∃ R, srt n S E = R := ⟨_, rfl⟩
    obtain ⟨A, hA⟩ : ∃ R, srt n S L = R := ⟨_, rfl⟩
    rw [hR] at hres hperm hio hsb hmv
    rw [hA] at hperm hsL hl1
    have HL : Hid (okAns b p n S L.length (nI L) (nC L) (q : Int) LM.length (mI LM) (mC LM) (resAns b p n S L.length (nI L) (nC L) ((q : Int) : Int).toNat LM.length (mI LM) (mC LM)) = R) := by
      unfold Hid okAns
      rw [hok, if_pos rfl, Int.toNat_natCast]
      exact hres
    obtain ⟨B, hB⟩ : ∃ R, runRest b p n S L.length (nI L) (nC L) = R := ⟨_, rfl⟩
    have HL1 := Lib.hid hl1
    have HL2 := Lib.hid hB
    have HPM := Lib.hid hperm
    have HIO := Lib.hid hio
    have HSB := Lib.hid hsb
    have HMV := Lib.hid hmv
    have HSA := Lib.hid hsL
    have HRO := Lib.hid (runOk_list hp hbl)
    have hq1 : R.length ≤ 1048576 := by have := hsb.2.2; omega
    clear hok hp hb hx hmi hmt hbl hE hres hperm hio hsb hmv hsL hl1 hR hA hB
    obtain ⟨⟨d0, d1, d2⟩, g0, g1, g2⟩ := X.out
    have lx := X.out.lt
    go_wp2_with fail
    rw [HV0.out]
    refine (impl_RunRestarted _ J HJ.out b p a n c S PL.out.ps PL.out.pf hn2 a2 L.length c2 (nI L) (nC L) PL.out.ls PL.out.lf (q : Int) a3 LM.length c3 (mI LM) (mC LM) MD.out.ms MD.out.mf).mono ?_
    rw [HL.out]
    rw [HOK.out]
    rintro e v1 ⟨p1, rfl, r1, k1⟩
    obtain ⟨a4, c4, rfl, _, _⟩ := r1.form
    clear d0 d1 d2 g0 g1 g2 lx
    replace BL := Lib.hid (step BL.out k1)
    replace PL := Lib.hid (PL.out.on k1)
    replace X := Lib.hid (X.out.on k1)
    replace MD := Lib.hid (MD.out.on k1)
    replace HJ := Lib.hid (HJ.out.on k1)
    have R1 := Lib.hid (r1)
    clear k1
    clear r1
    obtain ⟨⟨d0, d1, d2⟩, g0, g1, g2⟩ := X.out
    have lx := X.out.lt
    go_wp2_with fail
    refine (spec_RunRestarted _ b p a n c S PL.out.ps PL.out.pf hn2 a2 L.length c2 (nI L) (nC L) PL.out.ls PL.out.lf hm2 (q : Int) a3 LM.length c3 (mI LM) (mC LM) MD.out.ms MD.out.mf hm3).mono ?_
    rw [HL.out]
    rw [HOK.out]
    rintro e v2 ⟨p2, rfl, r2, k2⟩
    obtain ⟨a5, c5, rfl, _, _⟩ := r2.form
    clear d0 d1 d2 g0 g1 g2 lx
    replace BL := Lib.hid (step BL.out k2)
    replace PL := Lib.hid (PL.out.on k2)
    replace X := Lib.hid (X.out.on k2)
    replace MD := Lib.hid (MD.out.on k2)
    replace HJ := Lib.hid (HJ.out.on k2)
    replace R1 := Lib.hid (R1.out.on k2)
    have R2 := Lib.hid (r2)
    clear k2
    clear r2
    obtain ⟨⟨d0, d1, d2⟩, g0, g1, g2⟩ := X.out
    have lx := X.out.lt
    go_wp2_with fail
    refine (soBatch_row _ _ _ _ _ _ R1.out R2.out hq1).mono ?_
    rintro e v3 ⟨rfl, k3⟩
    clear d0 d1 d2 g0 g1 g2 lx
    replace BL := Lib.hid (step BL.out k3)
    replace PL := Lib.hid (PL.out.on k3)
    replace X := Lib.hid (X.out.on k3)
    replace MD := Lib.hid (MD.out.on k3)
    replace HJ := Lib.hid (HJ.out.on k3)
    replace R1 := Lib.hid (R1.out.on k3)
    replace R2 := Lib.hid (R2.out.on k3)
    clear k3
    clear R2
    obtain ⟨⟨d0, d1, d2⟩, g0, g1, g2⟩ := X.out
    have lx := X.out.lt
    go_wp2_with fail
    refine (impl_RunPlan _ b p a n c S PL.out.ps PL.out.pf hn2 a2 L.length c2 (nI L) (nC L) PL.out.ls PL.out.lf hm2).mono ?_
    rw [HRO.out]
    rw [HL1.out]
    rw [HL2.out]
    rintro e v4 ⟨p3, p4, rfl, r3, r4, _, k4⟩
    obtain ⟨a6, c6, rfl, _, _⟩ := r3.form
    obtain ⟨a7, c7, rfl, _, _⟩ := r4.form
    clear r4
    clear d0 d1 d2 g0 g1 g2 lx
    replace BL := Lib.hid (step BL.out k4)
    replace PL := Lib.hid (PL.out.on k4)
    replace X := Lib.hid (X.out.on k4)
    replace MD := Lib.hid (MD.out.on k4)
    replace HJ := Lib.hid (HJ.out.on k4)
    replace R1 := Lib.hid (R1.out.on k4)
    have R3 := Lib.hid (r3)
    clear k4
    clear r3
    have LR : Hid (Lts v4 a4 R.length (nI R) (nC R)) := by
      obtain ⟨a9, c9, e9, _, l9⟩ := R1.out.form
      injection e9 with q1 q2 q3 <;> (subst q1; exact l9)
    have LA : Hid (Lts v4 a6 A.length (nI A) (nC A)) := by
      obtain ⟨a9, c9, e9, _, l9⟩ := R3.out.form
      injection e9 with q1 q2 q3 <;> (subst q1; exact l9)
    obtain ⟨⟨d0, d1, d2⟩, g0, g1, g2⟩ := X.out
    have lx := X.out.lt
    go_wp2_with fail
    refine (impl_InOrder _ b p a n c S PL.out.ps PL.out.pf hn2 a4 R.length c4 (nI R) (nC R) LR.out HSB.out.fits).mono ?_
    rw [HIO.out]
    rintro e v5 ⟨rfl, k5⟩
    clear d0 d1 d2 g0 g1 g2 lx
    replace BL := Lib.hid (step BL.out k5)
    replace PL := Lib.hid (PL.out.on k5)
    replace X := Lib.hid (X.out.on k5)
    replace MD := Lib.hid (MD.out.on k5)
    replace HJ := Lib.hid (HJ.out.on k5)
    replace R1 := Lib.hid (R1.out.on k5)
    replace R3 := Lib.hid (R3.out.on k5)
    replace LR := Lib.hid (LR.out.on k5)
    replace LA := Lib.hid (LA.out.on k5)
    clear k5
    obtain ⟨⟨d0, d1, d2⟩, g0, g1, g2⟩ := X.out
    have lx := X.out.lt
    go_wp2_with fail
    refine (soAll_perm _ a4 a6 c4 c6 R A LR.out LA.out HSA.out HPM.out).mono ?_
    rintro e v6 ⟨rfl, k6⟩
    clear d0 d1 d2 g0 g1 g2 lx
    replace BL := Lib.hid (step BL.out k6)
    replace PL := Lib.hid (PL.out.on k6)
    replace X := Lib.hid (X.out.on k6)
    replace MD := Lib.hid (MD.out.on k6)
    replace HJ := Lib.hid (HJ.out.on k6)
    replace R1 := Lib.hid (R1.out.on k6)
    replace R3 := Lib.hid (R3.out.on k6)
    replace LR := Lib.hid (LR.out.on k6)
    replace LA := Lib.hid (LA.out.on k6)
    clear k6
    obtain ⟨⟨d0, d1, d2⟩, g0, g1, g2⟩ := X.out
    have lx := X.out.lt
    go_wp2_with fail
    refine (impl_MovedLetters _ b p a n c S PL.out.ps PL.out.pf hn2 a4 R.length c4 (nI R) (nC R) LR.out HSB.out.fits hq1).mono ?_
    rw [HMV.out]
    rintro e v7 ⟨rfl, k7⟩
    clear d0 d1 d2 g0 g1 g2 lx
    replace BL := Lib.hid (step BL.out k7)
    replace PL := Lib.hid (PL.out.on k7)
    replace X := Lib.hid (X.out.on k7)
    replace MD := Lib.hid (MD.out.on k7)
    replace HJ := Lib.hid (HJ.out.on k7)
    replace R1 := Lib.hid (R1.out.on k7)
    replace R3 := Lib.hid (R3.out.on k7)
    replace LR := Lib.hid (LR.out.on k7)
    replace LA := Lib.hid (LA.out.on k7)
    clear k7
    obtain ⟨⟨d0, d1, d2⟩, g0, g1, g2⟩ := X.out
    have lx := X.out.lt
    go_wp2
    go_ret
    exact ⟨rfl, BL.out⟩

set_option maxRecDepth 100000 in
theorem lifted (os : Os) (started : os.Started) (H : Type) (enc : TypeId × Value → H) :
    ReturnsInHanded {} Tryd.checked os 10 .any (fun w args => (Rows.fnRestartedSpec.pre enc Tryd.prog Tryd.f10 [] false w args ∧ laidMetH Tryd.prog Rows.fnRestartedRow.laid w) ∧ sizedMet enc Tryd.prog Tryd.f10 (OpenSpec.ofChange Rows.fnRestartedSpec) false w args)
      (Rows.fnRestartedSpec.post enc Tryd.prog Tryd.f10 false true false false) := by
  refine returnsInHanded_of_change_and (C := Tryd.checked) (X := fun w _ => laidMetH Tryd.prog Rows.fnRestartedRow.laid w) (fun _ _ _ hh h => h.of_heap hh) own started (by kernel_rfl) Tryd.func10
    (ChangeSpec.witness_shaped (enc := enc) (C := Tryd.checked) (os := os) (X := fun w _ => laidMetH Tryd.prog Rows.fnRestartedRow.laid w) false (World.laidAll Tryd.prog os Rows.fnRestartedRow.laid) #[.slice none 0 0] 8 (World.laidAll_os _ _ _) (World.shaped_of_ZipB (by kernel_rfl) (by kernel_rfl)) (by kernel_rfl) (by kernel_rfl) (by kernel_rfl) (Laid.door_jam os _)) ?_
  intro W base args ds gs before hval0 hW _ _ hL _
  have hval : ∀ (j : Nat) t v, Tryd.f10.params[j]? = some t → args[j]? = some v → Value.okWide Tryd.prog W .any base t v := hval0
  have hW' := hW
  obtain ⟨p, q, hA0, hV, rfl, hfz, hnd⟩ := hW
  have hA : DataW.TrodAll enc Tryd.prog W 0 (fun _ => true) true Tryd.f10.params.toList args.toList ds p := hA0
  rw [Tryd.params10] at hA hval
  obtain ⟨v0, vs0, d0, ds0, p0, q0, hargs, rfl, rfl, h0, r0⟩ := trodAll_cons hA
  obtain ⟨rfl, rfl, rfl⟩ := trodAll_nil r0
  obtain rfl : args = #[v0] := by cases args; simp_all
  have hV' : DataW.TrodVars enc Tryd.prog W (fun _ => true) ["loop.example/sortingoffice/impl.errJam"] gs q := hV
  obtain ⟨J, hvJ, hJ⟩ := Laid.of_jam hL
  obtain ⟨rfl, rfl⟩ := hV'.unique (Laid.jam_read enc hvJ _)
  have g0 := h0
  have lt0 : ∀ x ∈ p0, x.block < W.heap.size := by obtain ⟨m, hm⟩ := g0; exact DataW.trod_lt m _ _ _ hm
  obtain ⟨a0, l0, k0, rfl⟩ := okWide_slice Tryd.underlying22 (hval 0 22 v0 rfl rfl)
  obtain ⟨z0, w0⟩ : ∃ zs, IsRow .u8 W a0 l0 k0 zs := by
    obtain ⟨fuel, hf⟩ := h0
    rcases open_ints Tryd.underlying22 Tryd.underlying5 (by kernel_rfl) hf with ⟨hcs, _⟩ | ⟨x, l, c, zs, hcs, _, hl, hm, hz, _, hcell, hwz⟩
    · simp [Value.cells] at hcs
      obtain ⟨rfl, rfl, rfl⟩ := hcs
      exact ⟨[], .inl ⟨rfl, rfl, rfl, rfl⟩⟩
    · simp [Value.cells] at hcs
      obtain ⟨rfl, rfl, rfl⟩ := hcs
      exact ⟨zs, .inr ⟨_, rfl, hl, hm, by simpa using hz, hcell, hwz⟩⟩
  clear hA0 hval0
  refine (walk W a0 l0 k0 z0 w0 J hJ).mono fun e W' ⟨he, bel⟩ => ?_
  subst he
  exact ⟨_, rfl, _, _, _, [], _, _, hW', trodAll_mk1 (shut_bool Tryd.underlying4 _), (trodAll_cons_mk (Below.trod laidOut (by kernel_rfl) (of_decide_eq_true (by kernel_rfl)) g0 bel lt0) trodAll_mk0), Laid.jam_read enc (Go.Joins.var_stays Laid.jam_named hvJ bel (Nat.le_refl _)) _, bel.frame _, fun h => by cases h⟩

theorem row_holds : Rows.FnRestartedSaid :=
  OpenClaim.holds_of_wide 10 Tryd.f10 rfl rfl rfl rfl rfl rfl rfl ⟨rfl, rfl, rfl, rfl, rfl⟩ rfl rfl rfl rfl rfl (by kernel_rfl) Tryd.func10 (by kernel_rfl)
    (of_decide_eq_true (by kernel_rfl)) (by unfold Func.isWrapper; first | (rw [if_pos (by decide +kernel)]; kernel_rfl) | (rw [if_neg (by decide +kernel)]; exact ⟨rfl, rfl⟩))
    (fun os started H enc _ => lifted os started H enc)

theorem proved : Rows.FnRestartedCardSaid :=
  Claim7.holds_tied_plain_at .later [] [.sentinel] true Rows.fnRestartedCard.stood.harness true
    row_holds (fun _ h => by cases h) (by kernel_rfl) (fun _ h => by cases h) fnRestarted_row_tie rfl ⟨rfl, rfl⟩ (by kernel_rfl) rfl
    (fun f fn hf hfn => by
      obtain rfl : f = 10 := Option.some.inj ((show Tryd.prog.funcNamed Rows.fnRestartedRow.func = some 10 by kernel_rfl).symm.trans hf) |>.symm
      obtain rfl : fn = Tryd.f10 := (Option.some.inj (Tryd.func10.symm.trans hfn)).symm
      exact ⟨by kernel_rfl, fun j t ht => by
        rw [Tryd.params10] at ht
        have hm : t ∈ [22] := by simpa using Array.mem_of_getElem? ht
        have hall : ([22].all fun u => !Tryd.prog.wantsStandIn u) = true := by kernel_rfl
        exact (show Tryd.prog.wantsStandIn t = false by simpa using List.all_eq_true.1 hall t hm)⟩)
    (by kernel_rfl)
#print axioms proved
end Go.Proofs.YtnaghfppeejaoaaDoor.fnRestarted
