/-
  For every slice of bytes, laws.FnFinishFirst returns true.
-/
import Derived.Test.YtnaghfppeejaoaaDoorCards
import Derived.Test.YtnaghfppeejaoaaDoorDrawX
import Derived.Test.YtnaghfppeejaoaaDoorPass
import Derived.Test.YtnaghfppeejaoaaDoorFinA
import Derived.Test.YtnaghfppeejaoaaDoorSo
import Derived.Test.YtnaghfppeejaoaaDoorLaidJ
import Derived.Test.YtnaghfppeejaoaaDoorTie
import Derived.LaidMore
import Derived.Stop.Joined
import Derived.SevenTiedAt
import Derived.Lay
import Derived.WalkKit
import Derived.ProofKit
import Derived.OpenShut
import Derived.ShutString
import Derived.ChangeOld
import Derived.Below
import Derived.Handy
import Derived.Lib.Hide
namespace Go.Proofs.YtnaghfppeejaoaaDoor.fnFinishFirst
open Go.ChangeShapes Go.WideShapes Go.ChangeAt Go.RowKit
open Go.ChangeMaps (open_string shut_string)
open Go.PlainAid (bt get_bt bt_nonneg bt_le)
set_option linter.unusedVariables false

theorem own : ownKnob Tryd.prog.godebug = none := by kernel_rfl
theorem laidOut : laidOutB Tryd.prog = true := by kernel_rfl

set_option maxHeartbeats 40000000 in
set_option maxRecDepth 100000 in
theorem walk (w : World) (a0 : Option Addr) (l0 k0 : Nat) (z0 : List Int) (w0 : IsRow .u8 w a0 l0 k0 z0) (J : Addr) (hJ : Jam w J) :
    Calls Tryd.prog 7 #[.slice a0 l0 k0] w fun e w' => e = .returned (.bool true) ∧ Below w.heap.size w w' := by
  have HJ := Lib.hid hJ
  clear hJ
  by_cases hl : 1048576 < l0
  · go_enter Tryd.func7, Tryd.ntmps7
    go_wp2
    go_ret
    exact ⟨rfl, Below.refl _ _⟩
  go_enter Tryd.func7, Tryd.ntmps7
  go_wp2_with fail
  refine (DrawRunPlan_any a0 l0 k0 z0 w w0).mono ?_
  rintro e u ⟨b, p, a, n, c, S, a2, m, c2, I, C, rfl, hpl, bl, hcp⟩
  have HCP := Lib.hid hcp
  clear hcp
  obtain ⟨L, hmL, hpl2⟩ := hpl.list
  subst hmL
  clear hpl
  have hpl := hpl2
  clear hpl2
  have ba := below_alloc0 u (.cells #[.int .i64 b, .int .i64 p, .slice a n c] 25)
  have PL := Lib.hid (hpl.on ba)
  have X := Lib.hid (tri_made u (.int .i64 b) (.int .i64 p) (.slice a n c) 25)
  have BL := Lib.hid (step bl ba)
  obtain ⟨v0, hv0⟩ : ∃ v0, u.alloc (.cells #[.int .i64 b, .int .i64 p, .slice a n c] 25) = v0 := ⟨_, rfl⟩
  rw [hv0] at PL X BL
  have HV0 := Lib.hid hv0
  have hn := PL.out.pn
  have hm := PL.out.ln
  have hn2 : n ≤ 1048576 := by omega
  have hm2 : L.length ≤ 1048576 := by omega
  clear hpl bl ba hv0
  cases hok : runOk b p n S L.length (nI L) (nC L)
  · have HOK := Lib.hid hok
    have hl1 : runList b p n S L.length (nI L) (nC L) = [] := by unfold runList; rw [hok, if_neg (by decide)]
    have hl2 : runRest b p n S L.length (nI L) (nC L) = [] := by unfold runRest; rw [hok, if_neg (by decide)]
    have HL1 := Lib.hid hl1
    have HL2 := Lib.hid hl2
    have hlz : ([] : List (Int × ByteArray)).length ≤ 1048576 := by simp
    clear hok hl1 hl2
    obtain ⟨⟨d0, d1, d2⟩, g0, g1, g2⟩ := X.out
    have lx := X.out.lt
    go_wp2_with fail
    rw [HV0.out]
    refine (impl_RunPlan _ b p a n c S PL.out.ps PL.out.pf hn2 a2 L.length c2 (nI L) (nC L) PL.out.ls PL.out.lf hm2).mono ?_
    rw [HOK.out]
    rw [HL1.out]
    rw [HL2.out]
    rintro e v1 ⟨p1, p2, rfl, r1, r2, _, k1⟩
    obtain ⟨a4, c4, rfl, _, _⟩ := r1.form
    obtain ⟨a5, c5, rfl, _, _⟩ := r2.form
    clear r2
    clear d0 d1 d2 g0 g1 g2 lx
    replace BL := Lib.hid (step BL.out k1)
    replace PL := Lib.hid (PL.out.on k1)
    replace X := Lib.hid (X.out.on k1)
    have R1 := Lib.hid (r1)
    clear k1
    clear r1
    obtain ⟨⟨d0, d1, d2⟩, g0, g1, g2⟩ := X.out
    have lx := X.out.lt
    go_wp2_with fail
    refine (spec_RunPlan _ b p a n c S PL.out.ps PL.out.pf hn2 a2 L.length c2 (nI L) (nC L) PL.out.ls PL.out.lf hm2).mono ?_
    rw [HOK.out]
    rw [HL1.out]
    rw [HL2.out]
    rintro e v2 ⟨p3, p4, rfl, r3, r4, _, k2⟩
    obtain ⟨a6, c6, rfl, _, _⟩ := r3.form
    obtain ⟨a7, c7, rfl, _, _⟩ := r4.form
    clear r4
    clear d0 d1 d2 g0 g1 g2 lx
    replace BL := Lib.hid (step BL.out k2)
    replace PL := Lib.hid (PL.out.on k2)
    replace X := Lib.hid (X.out.on k2)
    replace R1 := Lib.hid (R1.out.on k2)
    have R3 := Lib.hid (r3)
    clear k2
    clear r3
    obtain ⟨⟨d0, d1, d2⟩, g0, g1, g2⟩ := X.out
    have lx := X.out.lt
    go_wp2_with fail
    refine (soBatch_row _ _ _ _ _ _ R1.out R3.out hlz).mono ?_
    rintro e v3 ⟨rfl, k3⟩
    clear d0 d1 d2 g0 g1 g2 lx
    replace BL := Lib.hid (step BL.out k3)
    replace PL := Lib.hid (PL.out.on k3)
    replace X := Lib.hid (X.out.on k3)
    replace R1 := Lib.hid (R1.out.on k3)
    replace R3 := Lib.hid (R3.out.on k3)
    clear k3
    obtain ⟨⟨d0, d1, d2⟩, g0, g1, g2⟩ := X.out
    have lx := X.out.lt
    go_wp2_with fail
    refine (soBatch_row _ _ _ _ _ _ R1.out R3.out hlz).mono ?_
    rintro e v4 ⟨rfl, k4⟩
    clear d0 d1 d2 g0 g1 g2 lx
    replace BL := Lib.hid (step BL.out k4)
    replace PL := Lib.hid (PL.out.on k4)
    replace X := Lib.hid (X.out.on k4)
    replace R1 := Lib.hid (R1.out.on k4)
    replace R3 := Lib.hid (R3.out.on k4)
    clear k4
    obtain ⟨⟨d0, d1, d2⟩, g0, g1, g2⟩ := X.out
    have lx := X.out.lt
    go_wp2
    go_ret
    exact ⟨rfl, BL.out⟩
  · have HOK := Lib.hid hok
    obtain ⟨hp, hb⟩ := runOk_yes hok
    obtain ⟨s1, s2, s3, s4⟩ := M.plan_shape hp
    have hbl := (batchL_list L).1 hb
    have hpb := fun k => passL_batch (n := n) (S := S) (f := 0) s1 hbl k
    have hrp := run_passes s1 s2 hok
    rw [lst_nI] at hrp
    have hrl := runList_srt hok
    rw [lst_nI, hrp] at hrl
    obtain ⟨q, rfl⟩ := Int.eq_ofNat_of_zero_le (show 0 ≤ p by omega)
    obtain ⟨B, rfl⟩ := Int.eq_ofNat_of_zero_le (show 0 ≤ b by omega)
    rw [Int.toNat_natCast] at hrl
    have HPP := Lib.hid (fun (L : List (Int × ByteArray)) (hL : BatchL L) (x : Nat) (hx : (x : Int) < (q : Int)) (W : World) (a3 : Option Addr) (c3 : Nat) (hs : Strs W a n S) (hf : SFits n S) (hl : Lts W a3 L.length (nI L) (nC L)) => pass_again hp hL hx W a c a3 c3 hs hf hn2 hl)
    rw [Int.toNat_natCast] at HPP
    have hsu : ∀ k, passL (B : Int) n S 0 L (k + 1) = M.flat (stepB (B : Int) n S (passL (B : Int) n S 0 L k) k) B := fun k => by
      show M.flat (stepB (B : Int) n S (passL (B : Int) n S 0 L k) (0 + k)) (B : Int).toNat = _
      rw [Int.toNat_natCast, Nat.zero_add]
    have HFN := Lib.hid (fun j (hj : j < q) => fin_passes (L := L) (n := n) (S := S) hj hp (hpb (j + 1)) (hsu j))
    have HZ : Hid (passL (B : Int) n S 0 L 0 = L) := rfl
    have HSU := Lib.hid hsu
    have HB := Lib.hid hpb
    obtain ⟨PL0, hPL0⟩ : ∃ F, passL (B : Int) n S 0 L = F := ⟨_, rfl⟩
    rw [hPL0] at HB HSU HZ HFN hrl
    have HL1 := Lib.hid hrl
    obtain ⟨LR, hLR⟩ : ∃ F, runRest (B : Int) (q : Int) n S L.length (nI L) (nC L) = F := ⟨_, rfl⟩
    have HL2 := Lib.hid hLR
    have hq60 := (HB.out q).2.2
    obtain ⟨LQ, hLQ⟩ : ∃ F, PL0 q = F := ⟨_, rfl⟩
    rw [hLQ] at HL1 HFN hq60
    clear hok hp hb hbl hpb hrp hrl hsu hPL0 hLR hLQ
    obtain ⟨⟨d0, d1, d2⟩, g0, g1, g2⟩ := X.out
    have lx := X.out.lt
    go_wp2_with fail
    rw [HV0.out]
    refine (impl_RunPlan _ (B : Int) (q : Int) a n c S PL.out.ps PL.out.pf hn2 a2 L.length c2 (nI L) (nC L) PL.out.ls PL.out.lf hm2).mono ?_
    rw [HOK.out]
    rw [HL1.out]
    rw [HL2.out]
    rintro e v1 ⟨p1, p2, rfl, r1, r2, _, k1⟩
    obtain ⟨a4, c4, rfl, _, _⟩ := r1.form
    obtain ⟨a5, c5, rfl, _, _⟩ := r2.form
    clear r2
    clear d0 d1 d2 g0 g1 g2 lx
    replace BL := Lib.hid (step BL.out k1)
    replace PL := Lib.hid (PL.out.on k1)
    replace X := Lib.hid (X.out.on k1)
    have R1 := Lib.hid (r1)
    clear k1
    clear r1
    obtain ⟨⟨d0, d1, d2⟩, g0, g1, g2⟩ := X.out
    have lx := X.out.lt
    go_wp2_with fail
    refine (spec_RunPlan _ (B : Int) (q : Int) a n c S PL.out.ps PL.out.pf hn2 a2 L.length c2 (nI L) (nC L) PL.out.ls PL.out.lf hm2).mono ?_
    rw [HOK.out]
    rw [HL1.out]
    rw [HL2.out]
    rintro e v2 ⟨p3, p4, rfl, r3, r4, _, k2⟩
    obtain ⟨a6, c6, rfl, _, _⟩ := r3.form
    obtain ⟨a7, c7, rfl, _, _⟩ := r4.form
    clear r4
    clear d0 d1 d2 g0 g1 g2 lx
    replace BL := Lib.hid (step BL.out k2)
    replace PL := Lib.hid (PL.out.on k2)
    replace X := Lib.hid (X.out.on k2)
    replace R1 := Lib.hid (R1.out.on k2)
    have R3 := Lib.hid (r3)
    clear k2
    clear r3
    obtain ⟨⟨d0, d1, d2⟩, g0, g1, g2⟩ := X.out
    have lx := X.out.lt
    go_wp2_with fail
    refine (soBatch_row _ _ _ _ _ _ R1.out R3.out (by omega)).mono ?_
    rintro e v3 ⟨rfl, k3⟩
    clear d0 d1 d2 g0 g1 g2 lx
    replace BL := Lib.hid (step BL.out k3)
    replace PL := Lib.hid (PL.out.on k3)
    replace X := Lib.hid (X.out.on k3)
    replace R1 := Lib.hid (R1.out.on k3)
    replace R3 := Lib.hid (R3.out.on k3)
    clear k3
    clear R3
    obtain ⟨⟨d0, d1, d2⟩, g0, g1, g2⟩ := X.out
    have lx := X.out.lt
    have h60 := (HB.out 0).2.2
    rw [HZ.out] at h60
    have LT0 : Hid (Lts v3 a2 L.length (nI (PL0 0)) (nC (PL0 0))) := by
      unfold Hid
      rw [HZ.out]
      exact PL.out.ls
    have LN0 : Hid (L.length = (PL0 0).length) := by unfold Hid; rw [HZ.out]
    have hq4 : q ≤ 4 := by omega
    go_wp2
    go_loopw [11, 12] (fun x i wr => ∃ (j : Nat) (ax : Option Addr) (nx cx : Nat), j ≤ q ∧ i = .int .i64 j ∧ x = .slice ax nx cx ∧ Hid (nx = (PL0 j).length) ∧ Hid (Lts wr ax nx (nI (PL0 j)) (nC (PL0 j))) ∧ Hid (Below v3.heap.size v3 wr)) (fun _ i _ => q - (intOf i).toNat)
    case atStart => exact ⟨0, a2, L.length, c2, Nat.zero_le _, rfl, rfl, LN0, LT0, Below.refl _ _⟩
    case round =>
      obtain ⟨j, ax, nx, cx, hj, rfl, rfl, hnx, hlx, hbw⟩ := hrel
      have X2 := Lib.hid (X.out.on hbw.out)
      have PL2 := Lib.hid (PL.out.on hbw.out)
      have R2 := Lib.hid (R1.out.on hbw.out)
      have hj2 := Lib.hid ((HJ.out.on BL.out).on hbw.out)
      clear d0 d1 d2 g0 g1 g2 lx
      obtain ⟨⟨d0, d1, d2⟩, g0, g1, g2⟩ := X2.out
      have lx := X2.out.lt
      by_cases hlt : j < q
      · have hji : (j : Int) < (q : Int) := by omega
        have hPt : Hid (Calls Tryd.prog 16 #[.agg #[.int .i64 B, .int .i64 q, .slice a n c], .slice ax nx cx, .int .i64 j] wr (PassRes wr true B (stepB B n S (PL0 j) j) (M.restTo (M.planKey B n S (nC (PL0 j)) j) (nI (PL0 j)) (nC (PL0 j)) (PL0 j).length))) := by
          have e := hnx.out
          subst e
          exact HPP.out (PL0 j) (HB.out j) j hji wr ax cx PL2.out.ps PL2.out.pf hlx.out
        have hsu := Lib.hid (HSU.out j)
        have hcok := HB.out (j + 1)
        rw [hsu.out] at hcok
        have hfn := Lib.hid (HFN.out j hlt)
        obtain ⟨MMx, hMM⟩ : ∃ F, stepB (B : Int) n S (PL0 j) j = F := ⟨_, rfl⟩
        obtain ⟨LR9, hLR9⟩ : ∃ F, M.restTo (M.planKey (B : Int) n S (nC (PL0 j)) j) (nI (PL0 j)) (nC (PL0 j)) (PL0 j).length = F := ⟨_, rfl⟩
        rw [hMM, hLR9] at hPt
        rw [hMM] at hsu hcok hfn
        clear hMM hLR9
        go_wp2_with fail
        refine hPt.out.mono ?_
        rintro e w1 ⟨vm, Vm, um, rfl, hm1, hr1, _, k1⟩
        obtain ⟨ar, cr, rfl, _, _⟩ := hr1.form
        have HM1 := Lib.hid hm1
        have B1 := Lib.hid (sstep hbw.out k1)
        have h60c := hcok.2.2
        have HFT : Hid (FitsL (M.flat MMx B)) := hcok.fits
        have X3 := Lib.hid (X2.out.on k1)
        have PL3 := Lib.hid (PL2.out.on k1)
        have R3 := Lib.hid (R2.out.on k1)
        have HJ3 := Lib.hid (hj2.out.on k1)
        have hcm : Hid (M.collOk B MMx = true ∧ M.coll B MMx = M.flat MMx B) := by
          have h1 : M.collOk B MMx = true := by
            unfold M.collOk
            rw [decide_eq_true (show B ≤ 60 by omega), (batchL_list _).2 hcok]
            rfl
          refine ⟨h1, ?_⟩
          unfold M.coll
          rw [if_pos h1]
        clear hm1 hr1 hPt d0 d1 d2 g0 g1 g2 lx hcok k1 X2 PL2 R2 hj2
        obtain ⟨⟨d0, d1, d2⟩, g0, g1, g2⟩ := X3.out
        have lx := X3.out.lt
        go_wp2_with fail
        refine (impl_FinishPasses w1 J HJ3.out (B : Int) (q : Int) a n c S PL3.out.ps PL3.out.pf hn2 _ vm B Vm MMx HM1.out (by omega) (by omega) HFT.out (j : Int)).mono ?_
        rw [hfn.out.1, hfn.out.2]
        rintro e w2 ⟨vy, rfl, ry, k2⟩
        obtain ⟨ay, cy, rfl, _, _⟩ := ry.form
        have RY := Lib.hid ry
        have R4 := Lib.hid (R3.out.on k2)
        have HM2 := Lib.hid (HM1.out.on k2)
        have B2 := Lib.hid (step B1.out k2)
        have X4 := Lib.hid (X3.out.on k2)
        clear ry k2 R3 HM1 B1 X3 PL3 HJ3 d0 d1 d2 g0 g1 g2 lx
        go_wp2_with fail
        refine (soBatch_row w2 _ _ _ _ _ RY.out R4.out (by omega)).mono ?_
        rintro e w3 ⟨rfl, k3⟩
        have HM3 := Lib.hid (HM2.out.on k3)
        have B3 := Lib.hid (step B2.out k3)
        have X5 := Lib.hid (X4.out.on k3)
        clear k3 RY R4 HM2 B2 X4
        go_wp2_with fail
        refine (impl_CollectBins w3 _ vm B Vm MMx HM3.out (by omega) (by omega) HFT.out).mono ?_
        rw [hcm.out.1, hcm.out.2]
        rintro e w4 ⟨v9, rfl, r9, k9⟩
        obtain ⟨a9, c9, rfl, _, l9⟩ := r9.form
        have B9 := Lib.hid (step B3.out k9)
        have X9 := Lib.hid (X5.out.on k9)
        have L9 : Hid (Lts w4 a9 (M.flat MMx B).length (nI (PL0 (j + 1))) (nC (PL0 (j + 1)))) := by unfold Hid; rw [hsu.out]; exact l9
        have N9 : Hid ((M.flat MMx B).length = (PL0 (j + 1)).length) := by unfold Hid; rw [hsu.out]
        obtain ⟨n9, hn9⟩ : ∃ k, (M.flat MMx B).length = k := ⟨_, rfl⟩
        rw [hn9] at L9 N9 ⊢
        clear r9 l9 k9 hn9 hcm X5 B3 HM3
        obtain ⟨⟨d0, d1, d2⟩, g0, g1, g2⟩ := X9.out
        have lx := X9.out.lt
        go_wp2
        go_roundw
        case rel => exact ⟨j + 1, a9, n9, c9, by omega, by go_num, rfl, N9.out, L9.out, B9.out⟩
        case measure => simp [intOf]; omega
      · obtain rfl : j = q := by omega
        go_wp2
        go_ret
        exact ⟨rfl, step BL.out hbw.out⟩

set_option maxRecDepth 100000 in
theorem lifted (os : Os) (started : os.Started) (H : Type) (enc : TypeId × Value → H) :
    ReturnsInHanded {} Tryd.checked os 7 .any (fun w args => (Rows.fnFinishFirstSpec.pre enc Tryd.prog Tryd.f7 [] false w args ∧ laidMetH Tryd.prog Rows.fnFinishFirstRow.laid w) ∧ sizedMet enc Tryd.prog Tryd.f7 (OpenSpec.ofChange Rows.fnFinishFirstSpec) false w args)
      (Rows.fnFinishFirstSpec.post enc Tryd.prog Tryd.f7 false true false false) := by
  refine returnsInHanded_of_change_and (C := Tryd.checked) (X := fun w _ => laidMetH Tryd.prog Rows.fnFinishFirstRow.laid w) (fun _ _ _ hh h => h.of_heap hh) own started (by kernel_rfl) Tryd.func7
    (ChangeSpec.witness_shaped (enc := enc) (C := Tryd.checked) (os := os) (X := fun w _ => laidMetH Tryd.prog Rows.fnFinishFirstRow.laid w) false (World.laidAll Tryd.prog os Rows.fnFinishFirstRow.laid) #[.slice none 0 0] 8 (World.laidAll_os _ _ _) (World.shaped_of_ZipB (by kernel_rfl) (by kernel_rfl)) (by kernel_rfl) (by kernel_rfl) (by kernel_rfl) (Laid.door_jam os _)) ?_
  intro W base args ds gs before hval0 hW _ _ hL _
  have hval : ∀ (j : Nat) t v, Tryd.f7.params[j]? = some t → args[j]? = some v → Value.okWide Tryd.prog W .any base t v := hval0
  have hW' := hW
  obtain ⟨p, q, hA0, hV, rfl, hfz, hnd⟩ := hW
  have hA : DataW.TrodAll enc Tryd.prog W 0 (fun _ => true) true Tryd.f7.params.toList args.toList ds p := hA0
  rw [Tryd.params7] at hA hval
  obtain ⟨v0, vs0, d0, ds0, p0, q0, hargs, rfl, rfl, h0, r0⟩ := trodAll_cons hA
  obtain ⟨rfl, rfl, rfl⟩ := trodAll_nil r0
  obtain rfl : args = #[v0] := by cases args; simp_all
  have hV' : DataW.TrodVars enc Tryd.prog W (fun _ => true) ["loop.example/sortingoffice/impl.errJam"] gs q := hV
  obtain ⟨J, hvJ, hJ⟩ := Laid.of_jam hL
  obtain ⟨rfl, rfl⟩ := hV'.unique (Laid.jam_read enc hvJ _)
  have g0 := h0
  have lt0 : ∀ x ∈ p0, x.block < W.heap.size := by obtain ⟨m, hm⟩ := g0; exact DataW.trod_lt m _ _ _ hm
  obtain ⟨a0, l0, k0, rfl⟩ := okWide_slice Tryd.underlying22 (hval 0 22 v0 rfl rfl)
  obtain ⟨z0, w0⟩ : ∃ zs, IsRow .u8 W a0 l0 k0 zs := by
    obtain ⟨fuel, hf⟩ := h0
    rcases open_ints Tryd.underlying22 Tryd.underlying5 (by kernel_rfl) hf with ⟨hcs, _⟩ | ⟨x, l, c, zs, hcs, _, hl, hm, hz, _, hcell, hwz⟩
    · simp [Value.cells] at hcs
      obtain ⟨rfl, rfl, rfl⟩ := hcs
      exact ⟨[], .inl ⟨rfl, rfl, rfl, rfl⟩⟩
    · simp [Value.cells] at hcs
      obtain ⟨rfl, rfl, rfl⟩ := hcs
      exact ⟨zs, .inr ⟨_, rfl, hl, hm, by simpa using hz, hcell, hwz⟩⟩
  clear hA0 hval0
  refine (walk W a0 l0 k0 z0 w0 J hJ).mono fun e W' ⟨he, bel⟩ => ?_
  subst he
  exact ⟨_, rfl, _, _, _, [], _, _, hW', trodAll_mk1 (shut_bool Tryd.underlying4 _), (trodAll_cons_mk (Below.trod laidOut (by kernel_rfl) (of_decide_eq_true (by kernel_rfl)) g0 bel lt0) trodAll_mk0), Laid.jam_read enc (Go.Joins.var_stays Laid.jam_named hvJ bel (Nat.le_refl _)) _, bel.frame _, fun h => by cases h⟩

theorem row_holds : Rows.FnFinishFirstSaid :=
  OpenClaim.holds_of_wide 7 Tryd.f7 rfl rfl rfl rfl rfl rfl rfl ⟨rfl, rfl, rfl, rfl, rfl⟩ rfl rfl rfl rfl rfl (by kernel_rfl) Tryd.func7 (by kernel_rfl)
    (of_decide_eq_true (by kernel_rfl)) (by unfold Func.isWrapper; first | (rw [if_pos (by decide +kernel)]; kernel_rfl) | (rw [if_neg (by decide +kernel)]; exact ⟨rfl, rfl⟩))
    (fun os started H enc _ => lifted os started H enc)

theorem proved : Rows.FnFinishFirstCardSaid :=
  Claim7.holds_tied_plain_at .later [] [.sentinel] true Rows.fnFinishFirstCard.stood.harness true
    row_holds (fun _ h => by cases h) (by kernel_rfl) (fun _ h => by cases h) fnFinishFirst_row_tie rfl ⟨rfl, rfl⟩ (by kernel_rfl) rfl
    (fun f fn hf hfn => by
      obtain rfl : f = 7 := Option.some.inj ((show Tryd.prog.funcNamed Rows.fnFinishFirstRow.func = some 7 by kernel_rfl).symm.trans hf) |>.symm
      obtain rfl : fn = Tryd.f7 := (Option.some.inj (Tryd.func7.symm.trans hfn)).symm
      exact ⟨by kernel_rfl, fun j t ht => by
        rw [Tryd.params7] at ht
        have hm : t ∈ [22] := by simpa using Array.mem_of_getElem? ht
        have hall : ([22].all fun u => !Tryd.prog.wantsStandIn u) = true := by kernel_rfl
        exact (show Tryd.prog.wantsStandIn t = false by simpa using List.all_eq_true.1 hall t hm)⟩)
    (by kernel_rfl)
#print axioms proved
end Go.Proofs.YtnaghfppeejaoaaDoor.fnFinishFirst
