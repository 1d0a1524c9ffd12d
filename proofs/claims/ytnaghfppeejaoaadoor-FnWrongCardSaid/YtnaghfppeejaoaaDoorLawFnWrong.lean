/-
  For every slice of bytes, laws.FnWrong returns true.
-/
import Derived.Test.YtnaghfppeejaoaaDoorCards
import Derived.Test.YtnaghfppeejaoaaDoorDr7
import Derived.Test.YtnaghfppeejaoaaDoorWrgA
import Derived.Test.YtnaghfppeejaoaaDoorErrA
import Derived.Test.YtnaghfppeejaoaaDoorLateA
import Derived.Test.YtnaghfppeejaoaaDoorMSp
import Derived.Test.YtnaghfppeejaoaaDoorSoA
import Derived.Test.YtnaghfppeejaoaaDoorLaidJ
import Derived.Test.YtnaghfppeejaoaaDoorTie
import Derived.LaidMore
import Derived.Stop.Joined
import Derived.SevenTiedAt
import Derived.Lay
import Derived.Deep.RegionHeld3
import Derived.BigQuiet
import Derived.WalkKit
import Derived.ProofKit
import Derived.OpenShut
import Derived.ShutString
import Derived.ChangeOld
import Derived.Below
import Derived.Handy
import Derived.Lib.Hide
namespace Go.Proofs.YtnaghfppeejaoaaDoor.fnWrong
open Go.ChangeShapes Go.WideShapes Go.ChangeAt Go.RowKit
open Go.ChangeMaps (open_string shut_string)
open Go.PlainAid (bt get_bt bt_nonneg bt_le)
set_option linter.unusedVariables false

theorem own : ownKnob Tryd.prog.godebug = none := by kernel_rfl
theorem laidOut : laidOutB Tryd.prog = true := by kernel_rfl

set_option maxHeartbeats 40000000 in
set_option maxRecDepth 100000 in
theorem walk (w : World) (a0 : Option Addr) (l0 k0 : Nat) (z0 : List Int) (w0 : IsRow .u8 w a0 l0 k0 z0) (J : Addr) (hJ : Jam w J) :
    Calls Tryd.prog 4 #[.slice a0 l0 k0] w fun e w' => e = .returned (.bool true) ∧ Below w.heap.size w w' := by
  by_cases hl : 1048576 < l0
  · go_enter Tryd.func4, Tryd.ntmps4
    go_wp2
    go_ret
    exact ⟨rfl, Below.refl _ _⟩
  go_enter Tryd.func4, Tryd.ntmps4
  go_wp2_with fail
  refine (DrawFaultyPass_any a0 l0 k0 z0 w w0).mono ?_
  rintro e u ⟨b, p, a, n, c, S, a2, m, c2, I, C, x, a3, LM, c3, rfl, hpl, hx9, bl, hcp, hmd⟩
  have HCP := Lib.hid hcp
  clear hcp
  obtain ⟨L, hmL, hpl2⟩ := hpl.list
  subst hmL
  clear hpl
  have hpl := hpl2
  clear hpl2
  have ba := below_alloc0 u (.cells #[.int .i64 b, .int .i64 p, .slice a n c] 25)
  have PL := Lib.hid (hpl.on ba)
  have MD := Lib.hid (hmd.on ba)
  have HJ := Lib.hid ((hJ.on bl).on ba)
  have X := Lib.hid (tri_made u (.int .i64 b) (.int .i64 p) (.slice a n c) 25)
  have BL := Lib.hid (step bl ba)
  obtain ⟨v0, hv0⟩ : ∃ v0, u.alloc (.cells #[.int .i64 b, .int .i64 p, .slice a n c] 25) = v0 := ⟨_, rfl⟩
  rw [hv0] at PL X BL MD HJ
  have HV0 := Lib.hid hv0
  have hn := PL.out.pn
  have hm := PL.out.ln
  have hn2 : n ≤ 1048576 := by omega
  have hm2 : L.length ≤ 1048576 := by omega
  have hm5 := MD.out.mn
  have hm3 : LM.length ≤ 1048576 := by omega
  clear hpl bl ba hv0 hmd hJ
  cases hok : faultyOk b p n S L.length (nI L) (nC L) x LM.length (mI LM) (mC LM)
  · have HOK := Lib.hid hok
    clear hok
    obtain ⟨⟨d0, d1, d2⟩, g0, g1, g2⟩ := X.out
    have lx := X.out.lt
    go_wp2_with fail
    rw [HV0.out]
    refine (impl_FaultyPass _ J HJ.out b p a n c S PL.out.ps PL.out.pf hn2 a2 L.length c2 (nI L) (nC L) PL.out.ls PL.out.lf x a3 LM.length c3 (mI LM) (mC LM) MD.out.ms MD.out.mf).mono ?_
    rw [HOK.out]
    rintro e v1 ⟨p1, V1, u1, rfl, _, _, _, k1⟩
    clear d0 d1 d2 g0 g1 g2 lx
    replace BL := Lib.hid (step BL.out k1)
    replace PL := Lib.hid (PL.out.on k1)
    replace X := Lib.hid (X.out.on k1)
    replace MD := Lib.hid (MD.out.on k1)
    replace HJ := Lib.hid (HJ.out.on k1)
    clear k1
    obtain ⟨⟨d0, d1, d2⟩, g0, g1, g2⟩ := X.out
    have lx := X.out.lt
    go_wp2_with fail
    refine (spec_FaultyPass _ b p a n c S PL.out.ps PL.out.pf hn2 a2 L.length c2 (nI L) (nC L) PL.out.ls PL.out.lf hm2 x a3 LM.length c3 (mI LM) (mC LM) MD.out.ms MD.out.mf hm3).mono ?_
    rw [HOK.out]
    rintro e v2 ⟨p2, V2, u2, rfl, _, _, _, k2⟩
    clear d0 d1 d2 g0 g1 g2 lx
    replace BL := Lib.hid (step BL.out k2)
    replace PL := Lib.hid (PL.out.on k2)
    replace X := Lib.hid (X.out.on k2)
    replace MD := Lib.hid (MD.out.on k2)
    replace HJ := Lib.hid (HJ.out.on k2)
    clear k2
    obtain ⟨⟨d0, d1, d2⟩, g0, g1, g2⟩ := X.out
    have lx := X.out.lt
    go_wp2
    go_ret
    exact ⟨rfl, BL.out⟩
  · have HOK := Lib.hid hok
    have hk := hok
    rw [faultyOk_eq] at hk
    simp only [Bool.and_eq_true, decide_eq_true_eq] at hk
    obtain ⟨⟨⟨hp, hb⟩, hx⟩, hmi⟩ := hk
    obtain ⟨_, hm60, hmt⟩ := M.mis_true hmi
    obtain ⟨s1, s2, s3, s4⟩ := M.plan_shape hp
    have hbl := (batchL_list L).1 hb
    have h60 := hbl.2.2
    obtain ⟨q, rfl⟩ := Int.eq_ofNat_of_zero_le hx.1
    have hqp : (q : Int) < p := by omega
    obtain ⟨m3, hm3e⟩ : ∃ k, LM.length = k := ⟨_, rfl⟩
    obtain ⟨QI, hQI⟩ : ∃ F, mI LM = F := ⟨_, rfl⟩
    obtain ⟨QB, hQB⟩ : ∃ F, mC LM = F := ⟨_, rfl⟩
    have HMS := Lib.hid MD.out.ms
    have HMF := Lib.hid MD.out.mf
    rw [hm3e, hQI, hQB] at HMS HMF hmt hok HOK
    rw [hm3e] at hm5 hm3 ⊢
    clear MD hm3e hQI hQB
    have hfm := falM_ok (n := n) (S := S) s1 hbl q hmt
    obtain ⟨N, hN⟩ : ∃ N, b.toNat = N := ⟨_, rfl⟩
    have hfN : faultyN b p n S L.length (nI L) (nC L) (q : Int) m3 QI QB = N := by
      unfold faultyN
      rw [hok, if_pos rfl]
      exact hN
    have hn16 : N ≤ 16 := by omega
    have hNb : (N : Int) = b := by omega
    rw [hN] at hfm
    have hwi : wrongIds b p n S N (falM b n S L q m3 QI QB) (q : Int) = wids b n S q (falM b n S L q m3 QI QB) N := by
      unfold wrongIds
      have h1 : binsAll b p n S N (falM b n S L q m3 QI QB) (q : Int) = true := by
        unfold binsAll
        rw [hp, hfm, decide_eq_true (show (0 : Int) ≤ (q : Int) ∧ (q : Int) ≤ p - 1 by omega)]
        rfl
      rw [if_pos h1, Int.toNat_natCast]
    have hfl := (falM_perm (n := n) (S := S) (L := L) s1 q hmt)
    have hbf := (hbl.perm hfl.symm).left
    have hwl := wids_cnt (n := n) (S := S) (q := q) (L := L) s1 hmt
    have hwh := fun J (hJ : J < m3) k (hk : k < L.length) => wids_has (n := n) (S := S) (q := q) (L := L) s1 hmt hJ hk
    have hcs := fun J (hJ : J < m3) => cnt_same (n := n) (S := S) (q := q) (L := L) hmt hJ
    have hcm := fun J (hJ : J < m3) k (hk : k < L.length) => cnt_more (n := n) (S := S) (q := q) hbl hmt hJ hk
    have hc0 : cntB b n S q QI QB L 0 = 0 := cnt_zero
    have hcb : ∀ J, cntB b n S q QI QB L J ≤ 60 := fun J => Nat.le_trans (List.length_filter_le _ _) h60
    have hpd := fun s => plan_due hp hqp s
    rw [hN] at hwl hwh hbf
    obtain ⟨MM, hMM⟩ : ∃ F, falM b n S L q m3 QI QB = F := ⟨_, rfl⟩
    have HMM : Hid (M.binTo (fkey b n S (nC L) (q : Int).toNat (nI L) m3 QI QB) (nI L) (nC L) L.length = MM) := by
      unfold Hid
      rw [Int.toNat_natCast]
      exact hMM
    rw [hMM] at hwi hwl hwh hbf
    obtain ⟨W, hW⟩ : ∃ F, wids b n S q MM N = F := ⟨_, rfl⟩
    rw [hW] at hwi hwl hwh
    obtain ⟨CN, hCN⟩ : ∃ F, cntB b n S q QI QB L = F := ⟨_, rfl⟩
    rw [hCN] at hwl hcs hcm hc0 hcb
    have HW := Lib.hid hwi
    have HWL := Lib.hid hwl
    have HWH := Lib.hid hwh
    have HCS := Lib.hid hcs
    have HCM := Lib.hid hcm
    have HC0 := Lib.hid hc0
    have HCB := Lib.hid hcb
    have HPD := Lib.hid hpd
    have HBL := Lib.hid hbl
    have HFN := Lib.hid hfN
    have HBF := Lib.hid hbf.fits
    have hf60 := hbf.2.2
    have hn9 : N ≤ 1048576 := by omega
    have hfl9 : (M.flat MM N).length ≤ 1048576 := by omega
    have hw60 : W.length ≤ 60 := by rw [hwl]; exact hcb m3
    have hw9 : W.length ≤ 1048576 := by omega
    clear hok hp hb hx hmi hmt hbl hfm hfN hwi hfl hbf hwl hwh hcs hcm hc0 hcb hpd hMM hW hCN hN
    obtain ⟨⟨d0, d1, d2⟩, g0, g1, g2⟩ := X.out
    have lx := X.out.lt
    go_wp2_with fail
    rw [HV0.out]
    refine (impl_FaultyPass _ J HJ.out b p a n c S PL.out.ps PL.out.pf hn2 a2 L.length c2 (nI L) (nC L) PL.out.ls PL.out.lf (q : Int) a3 m3 c3 QI QB HMS.out HMF.out).mono ?_
    rw [HOK.out]
    rw [HFN.out]
    rw [HMM.out]
    rintro e v1 ⟨p1, V1, u1, rfl, m1, _, _, k1⟩
    clear d0 d1 d2 g0 g1 g2 lx
    replace BL := Lib.hid (step BL.out k1)
    replace PL := Lib.hid (PL.out.on k1)
    replace X := Lib.hid (X.out.on k1)
    replace HMS := Lib.hid (HMS.out.on k1)
    replace HJ := Lib.hid (HJ.out.on k1)
    have HM1 := Lib.hid (m1)
    clear k1
    clear m1
    obtain ⟨⟨d0, d1, d2⟩, g0, g1, g2⟩ := X.out
    have lx := X.out.lt
    go_wp2_with fail
    refine (spec_FaultyPass _ b p a n c S PL.out.ps PL.out.pf hn2 a2 L.length c2 (nI L) (nC L) PL.out.ls PL.out.lf hm2 (q : Int) a3 m3 c3 QI QB HMS.out HMF.out hm3).mono ?_
    rw [HOK.out]
    rintro e v2 ⟨p2, V2, u2, rfl, _, _, _, k2⟩
    clear d0 d1 d2 g0 g1 g2 lx
    replace BL := Lib.hid (step BL.out k2)
    replace PL := Lib.hid (PL.out.on k2)
    replace X := Lib.hid (X.out.on k2)
    replace HMS := Lib.hid (HMS.out.on k2)
    replace HJ := Lib.hid (HJ.out.on k2)
    replace HM1 := Lib.hid (HM1.out.on k2)
    clear k2
    obtain ⟨⟨d0, d1, d2⟩, g0, g1, g2⟩ := X.out
    have lx := X.out.lt
    go_wp2_with fail
    refine (impl_WrongLetters _ J HJ.out b p a n c S PL.out.ps PL.out.pf hn2 _ p1 N V1 MM HM1.out hn9 hfl9 HBF.out (q : Int)).mono ?_
    rw [HW.out]
    rintro e v3 ⟨p3, rfl, r3, k3⟩
    obtain ⟨aw, cw, rfl, _⟩ := r3.cells
    clear d0 d1 d2 g0 g1 g2 lx
    replace BL := Lib.hid (step BL.out k3)
    replace PL := Lib.hid (PL.out.on k3)
    replace X := Lib.hid (X.out.on k3)
    replace HMS := Lib.hid (HMS.out.on k3)
    replace HJ := Lib.hid (HJ.out.on k3)
    replace HM1 := Lib.hid (HM1.out.on k3)
    have R3 := Lib.hid (r3)
    clear k3
    clear r3
    obtain ⟨⟨d0, d1, d2⟩, g0, g1, g2⟩ := X.out
    have lx := X.out.lt
    go_wp2_with fail
    refine (spec_WrongLetters _ b p a n c S PL.out.ps PL.out.pf hn2 _ p1 N V1 MM HM1.out hn9 hfl9 HBF.out (q : Int)).mono ?_
    rw [HW.out]
    rintro e v4 ⟨p4, rfl, r4, k4⟩
    obtain ⟨aw4, cw4, rfl, _⟩ := r4.cells
    clear d0 d1 d2 g0 g1 g2 lx
    replace BL := Lib.hid (step BL.out k4)
    replace PL := Lib.hid (PL.out.on k4)
    replace X := Lib.hid (X.out.on k4)
    replace HMS := Lib.hid (HMS.out.on k4)
    replace HJ := Lib.hid (HJ.out.on k4)
    replace HM1 := Lib.hid (HM1.out.on k4)
    replace R3 := Lib.hid (R3.out.on k4)
    have R4 := Lib.hid (r4)
    clear k4
    clear r4
    obtain ⟨⟨d0, d1, d2⟩, g0, g1, g2⟩ := X.out
    have lx := X.out.lt
    go_wp2_with fail
    refine (soInts_same _ _ _ _ _ W R3.out R4.out hw9).mono ?_
    rintro e v5 ⟨rfl, k5⟩
    clear d0 d1 d2 g0 g1 g2 lx
    replace BL := Lib.hid (step BL.out k5)
    replace PL := Lib.hid (PL.out.on k5)
    replace X := Lib.hid (X.out.on k5)
    replace HMS := Lib.hid (HMS.out.on k5)
    replace HJ := Lib.hid (HJ.out.on k5)
    replace HM1 := Lib.hid (HM1.out.on k5)
    replace R3 := Lib.hid (R3.out.on k5)
    replace R4 := Lib.hid (R4.out.on k5)
    clear k5
    clear R4
    obtain ⟨⟨d0, d1, d2⟩, g0, g1, g2⟩ := X.out
    have lx := X.out.lt
    go_wp2
    go_loopw [14, 15] (fun nn i wr => ∃ (j c : Nat), j ≤ m3 ∧ i = .int .i64 j ∧ nn = .int .i64 c ∧ Hid (c = CN j) ∧ Hid (Below v5.heap.size v5 wr)) (fun _ i _ => m3 - (intOf i).toNat)
    case atStart => exact ⟨0, 0, Nat.zero_le _, rfl, rfl, HC0.out.symm, Below.refl _ _⟩
    case round =>
      obtain ⟨j, cc, hj, rfl, rfl, hcc, hbw⟩ := hrel
      have X2 := Lib.hid (X.out.on hbw.out)
      have PL2 := Lib.hid (PL.out.on hbw.out)
      have MS2 := Lib.hid (HMS.out.on hbw.out)
      have R2 := Lib.hid (R3.out.on hbw.out)
      have hc60 : cc ≤ 60 := by rw [hcc.out]; exact HCB.out j
      clear d0 d1 d2 g0 g1 g2 lx
      obtain ⟨⟨d0, d1, d2⟩, g0, g1, g2⟩ := X2.out
      have lx := X2.out.lt
      by_cases hlt : j < m3
      · have hji : (j : Int) < (m3 : Int) := by omega
        have hj0 : (0 : Int) ≤ (j : Int) := by omega
        obtain ⟨gb, go, ha3, t0, t1⟩ := MS2.out j hlt
        subst ha3
        have hfp := find_place HBL.out (QI j)
        have hcsj := HCS.out j hlt
        have hcmj := HCM.out j hlt
        have hwhj := HWH.out j hlt
        obtain ⟨yi, hyi⟩ : ∃ y, QI j = y := ⟨_, rfl⟩
        obtain ⟨yb, hyb⟩ : ∃ y, QB j = y := ⟨_, rfl⟩
        rw [hyi] at t0 hfp hcsj hcmj hwhj
        rw [hyb] at t1 hcsj hcmj hwhj
        have lgb := World.block_lt_of_cell? _ _ t0
        have HCSJ := Lib.hid hcsj
        have HCMJ := Lib.hid hcmj
        have HWHJ := Lib.hid hwhj
        clear hyi hyb hcsj hcmj hwhj
        rcases hfp with ⟨hf, hno⟩ | ⟨k, hk, hki, hf⟩
        · have HF := Lib.hid hf
          have CS := Lib.hid (HCSJ.out fun k hk e => absurd e (hno k hk))
          have HC9 : Hid (cc = CN (j + 1)) := by unfold Hid; rw [CS.out]; exact hcc.out
          clear hf hno
          go_wp2_with fail
          refine (soPlace_any wr a2 L.length c2 (nI L) (nC L) PL2.out.ls PL2.out.lf yi).mono ?_
          rw [HF.out]
          rintro e w1 ⟨rfl, k1⟩
          have B1 := Lib.hid (step hbw.out k1)
          clear k1 d0 d1 d2 g0 g1 g2 lx t0 t1
          go_wp2
          go_quiet (fail)
          go_wp2
          go_roundw
          case rel => exact ⟨j + 1, cc, by omega, by go_num, rfl, HC9, below_drewS B1.out _⟩
          case measure => simp [intOf]; omega
        · have HF := Lib.hid hf
          clear hf
          obtain ⟨bb, oo, ha2, _, z1⟩ := PL2.out.ls k hk
          have HLS := Lib.hid PL2.out.ls
          have HPS := Lib.hid PL2.out.ps
          have HLF := Lib.hid PL2.out.lf
          have HPF := Lib.hid PL2.out.pf
          clear PL2
          subst ha2
          have hkk : (k : Int) < (L.length : Int) := by omega
          have hk0 : (0 : Int) ≤ (k : Int) := by omega
          have lbb := World.block_lt_of_cell? _ _ z1
          have hcs2 : dueBin b n S q (nC L k) = yb → CN (j + 1) = CN j := fun e => HCSJ.out fun k' hk' e' => by
            have h1 := find_at HBL.out hk'
            have h2 := HF.out
            rw [e', h2] at h1
            have h3 : k = k' := by omega
            rw [← h3]
            exact e
          have hcm2 := HCMJ.out k hk hki
          have hwh2 := HWHJ.out k hk hki
          rw [← HPD.out (nC L k)] at hcs2 hcm2 hwh2
          obtain ⟨sy, hsy⟩ : ∃ s, nC L k = s := ⟨_, rfl⟩
          rw [hsy] at z1 hcs2 hcm2 hwh2
          obtain ⟨pb, hpb⟩ : ∃ s, M.planBin b p n S sy (q : Int) = s := ⟨_, rfl⟩
          rw [hpb] at hcs2 hcm2 hwh2
          have HPB := Lib.hid hpb
          have HCS2 := Lib.hid hcs2
          have HCM2 := Lib.hid hcm2
          have HWH2 := Lib.hid hwh2
          clear hsy hpb hki hcs2 hcm2 hwh2
          go_wp2_with fail
          refine (soPlace_any wr (some ⟨bb, oo, none⟩) L.length c2 (nI L) (nC L) HLS.out HLF.out yi).mono ?_
          rw [HF.out]
          rintro e w1 ⟨rfl, k1⟩
          have B1 := Lib.hid (step hbw.out k1)
          have PS1 := Lib.hid (HPS.out.on k1)
          have R4 := Lib.hid (R2.out.on k1)
          have t0 := (k1.cell (p := ⟨gb, go + j * 2, none⟩) lgb).trans t0
          have t1 := (k1.cell (p := ⟨gb, go + j * 2 + 1, none⟩) lgb).trans t1
          have z1 := (k1.cell (p := ⟨bb, oo + k * 2 + 1, none⟩) lbb).trans z1
          have X4 := Lib.hid (X2.out.on k1)
          have lgb := Nat.lt_of_lt_of_le lgb k1.size
          have lbb := Nat.lt_of_lt_of_le lbb k1.size
          clear k1 d0 d1 d2 g0 g1 g2 lx
          obtain ⟨⟨d0, d1, d2⟩, g0, g1, g2⟩ := X4.out
          have lx := X4.out.lt
          have s0 : w1.cell? ⟨u.heap.size, 0, none⟩ = some (.int .i64 b) ∧ w1.cell? ⟨u.heap.size, 1, none⟩ = some (.int .i64 p) ∧ w1.cell? ⟨u.heap.size, 2, none⟩ = some (.slice a n c) ∧ w1.cell? ⟨bb, oo + k * 2 + 1, none⟩ = some (.string sy) ∧ w1.cell? ⟨gb, go + j * 2 + 1, none⟩ = some (.int .i64 yb) := ⟨d0, d1, d2, z1, t1⟩
          by_cases hne : pb = yb
          · have hbe : (pb != yb) = false := by simp [hne]
            have hbq : (pb == yb) = true := by simp [hne]
            have HC9 : Hid (cc = CN (j + 1)) := by unfold Hid; rw [HCS2.out hne]; exact hcc.out
            clear hne
            go_wp2_with fail
            go_region_held3 (fun w' => w'.cell? ⟨u.heap.size, 0, none⟩ = some (.int .i64 b) ∧ w'.cell? ⟨u.heap.size, 1, none⟩ = some (.int .i64 p) ∧ w'.cell? ⟨u.heap.size, 2, none⟩ = some (.slice a n c) ∧ w'.cell? ⟨bb, oo + k * 2 + 1, none⟩ = some (.string sy) ∧ w'.cell? ⟨gb, go + j * 2 + 1, none⟩ = some (.int .i64 yb)) (first | exact s0 | exact s7) (first
              | (go_at_call 17; refine (impl_PlanBin _ b p a n c S (PS1.out.on (by go_grown)) HPF.out hn2 sy (q : Int)).mono ?_; rw [HPB.out]; rintro e w7 ⟨rfl, k7⟩; have K7 : Below w1.heap.size w1 w7 := (by exact sstep (by go_grown) k7); have s7 : w7.cell? ⟨u.heap.size, 0, none⟩ = some (.int .i64 b) ∧ w7.cell? ⟨u.heap.size, 1, none⟩ = some (.int .i64 p) ∧ w7.cell? ⟨u.heap.size, 2, none⟩ = some (.slice a n c) ∧ w7.cell? ⟨bb, oo + k * 2 + 1, none⟩ = some (.string sy) ∧ w7.cell? ⟨gb, go + j * 2 + 1, none⟩ = some (.int .i64 yb) := ⟨(K7.cell (p := ⟨u.heap.size, 0, none⟩) lx).trans d0, (K7.cell (p := ⟨u.heap.size, 1, none⟩) lx).trans d1, (K7.cell (p := ⟨u.heap.size, 2, none⟩) lx).trans d2, (K7.cell (p := ⟨bb, oo + k * 2 + 1, none⟩) lbb).trans z1, (K7.cell (p := ⟨gb, go + j * 2 + 1, none⟩) lgb).trans t1⟩))
            have B2 := Lib.hid (step B1.out K7)
            clear k7 K7 s0 s7 t0 t1 z1 d0 d1 d2 g0 g1 g2 lx
            go_wp2
            go_roundw
            case rel => exact ⟨j + 1, cc, by omega, by go_num, rfl, HC9, by first | exact B2.out | exact below_drewS B2.out _⟩
            case measure => simp [intOf]; omega
          · have hbe : (pb != yb) = true := by simp [hne]
            have hbq : (pb == yb) = false := by simp [hne]
            have HC9 : Hid (cc + 1 = CN (j + 1)) := by unfold Hid; rw [HCM2.out hne, hcc.out]
            have HW9 := Lib.hid (HWH2.out hne)
            clear hne
            go_wp2_with fail
            go_region_held3 (fun w' => w'.cell? ⟨u.heap.size, 0, none⟩ = some (.int .i64 b) ∧ w'.cell? ⟨u.heap.size, 1, none⟩ = some (.int .i64 p) ∧ w'.cell? ⟨u.heap.size, 2, none⟩ = some (.slice a n c) ∧ w'.cell? ⟨bb, oo + k * 2 + 1, none⟩ = some (.string sy) ∧ w'.cell? ⟨gb, go + j * 2 + 1, none⟩ = some (.int .i64 yb)) (first | exact s0 | exact s7) (first
              | (go_at_call 17; refine (impl_PlanBin _ b p a n c S (PS1.out.on (by go_grown)) HPF.out hn2 sy (q : Int)).mono ?_; rw [HPB.out]; rintro e w7 ⟨rfl, k7⟩; have K7 : Below w1.heap.size w1 w7 := (by exact sstep (by go_grown) k7); have s7 : w7.cell? ⟨u.heap.size, 0, none⟩ = some (.int .i64 b) ∧ w7.cell? ⟨u.heap.size, 1, none⟩ = some (.int .i64 p) ∧ w7.cell? ⟨u.heap.size, 2, none⟩ = some (.slice a n c) ∧ w7.cell? ⟨bb, oo + k * 2 + 1, none⟩ = some (.string sy) ∧ w7.cell? ⟨gb, go + j * 2 + 1, none⟩ = some (.int .i64 yb) := ⟨(K7.cell (p := ⟨u.heap.size, 0, none⟩) lx).trans d0, (K7.cell (p := ⟨u.heap.size, 1, none⟩) lx).trans d1, (K7.cell (p := ⟨u.heap.size, 2, none⟩) lx).trans d2, (K7.cell (p := ⟨bb, oo + k * 2 + 1, none⟩) lbb).trans z1, (K7.cell (p := ⟨gb, go + j * 2 + 1, none⟩) lgb).trans t1⟩))
            have B2 := Lib.hid (step B1.out K7)
            have R5 := Lib.hid (R4.out.on K7)
            have t0 := (K7.cell (p := ⟨gb, go + j * 2, none⟩) lgb).trans t0
            clear k7 K7 s0 s7 t1 z1 d0 d1 d2 g0 g1 g2 lx
            go_wp2_with fail
            refine (soNumber_any w7 _ _ W R5.out hw9 yi).mono ?_
            rw [HW9.out]
            rintro e w8 ⟨rfl, k8⟩
            have B3 := Lib.hid (step B2.out k8)
            clear k8 t0
            go_wp2
            go_roundw
            case rel => exact ⟨j + 1, cc + 1, by omega, by go_num, by go_num, HC9, B3⟩
            case measure => simp [intOf]; omega
      · obtain rfl : j = m3 := by omega
        have hce : cc = W.length := by rw [HWL.out]; exact hcc.out
        subst hce
        go_wp2
        go_ret
        exact ⟨rfl, step BL.out hbw.out⟩

set_option maxRecDepth 100000 in
theorem lifted (os : Os) (started : os.Started) (H : Type) (enc : TypeId × Value → H) :
    ReturnsInHanded {} Tryd.checked os 4 .any (fun w args => (Rows.fnWrongSpec.pre enc Tryd.prog Tryd.f4 [] false w args ∧ laidMetH Tryd.prog Rows.fnWrongRow.laid w) ∧ sizedMet enc Tryd.prog Tryd.f4 (OpenSpec.ofChange Rows.fnWrongSpec) false w args)
      (Rows.fnWrongSpec.post enc Tryd.prog Tryd.f4 false true false false) := by
  refine returnsInHanded_of_change_and (C := Tryd.checked) (X := fun w _ => laidMetH Tryd.prog Rows.fnWrongRow.laid w) (fun _ _ _ hh h => h.of_heap hh) own started (by kernel_rfl) Tryd.func4
    (ChangeSpec.witness_shaped (enc := enc) (C := Tryd.checked) (os := os) (X := fun w _ => laidMetH Tryd.prog Rows.fnWrongRow.laid w) false (World.laidAll Tryd.prog os Rows.fnWrongRow.laid) #[.slice none 0 0] 8 (World.laidAll_os _ _ _) (World.shaped_of_ZipB (by kernel_rfl) (by kernel_rfl)) (by kernel_rfl) (by kernel_rfl) (by kernel_rfl) (Laid.door_jam os _)) ?_
  intro W base args ds gs before hval0 hW _ _ hL _
  have hval : ∀ (j : Nat) t v, Tryd.f4.params[j]? = some t → args[j]? = some v → Value.okWide Tryd.prog W .any base t v := hval0
  have hW' := hW
  obtain ⟨p, q, hA0, hV, rfl, hfz, hnd⟩ := hW
  have hA : DataW.TrodAll enc Tryd.prog W 0 (fun _ => true) true Tryd.f4.params.toList args.toList ds p := hA0
  rw [Tryd.params4] at hA hval
  obtain ⟨v0, vs0, d0, ds0, p0, q0, hargs, rfl, rfl, h0, r0⟩ := trodAll_cons hA
  obtain ⟨rfl, rfl, rfl⟩ := trodAll_nil r0
  obtain rfl : args = #[v0] := by cases args; simp_all
  have hV' : DataW.TrodVars enc Tryd.prog W (fun _ => true) ["loop.example/sortingoffice/impl.errJam"] gs q := hV
  obtain ⟨J, hvJ, hJ⟩ := Laid.of_jam hL
  obtain ⟨rfl, rfl⟩ := hV'.unique (Laid.jam_read enc hvJ _)
  have g0 := h0
  have lt0 : ∀ x ∈ p0, x.block < W.heap.size := by obtain ⟨m, hm⟩ := g0; exact DataW.trod_lt m _ _ _ hm
  obtain ⟨a0, l0, k0, rfl⟩ := okWide_slice Tryd.underlying22 (hval 0 22 v0 rfl rfl)
  obtain ⟨z0, w0⟩ : ∃ zs, IsRow .u8 W a0 l0 k0 zs := by
    obtain ⟨fuel, hf⟩ := h0
    rcases open_ints Tryd.underlying22 Tryd.underlying5 (by kernel_rfl) hf with ⟨hcs, _⟩ | ⟨x, l, c, zs, hcs, _, hl, hm, hz, _, hcell, hwz⟩
    · simp [Value.cells] at hcs
      obtain ⟨rfl, rfl, rfl⟩ := hcs
      exact ⟨[], .inl ⟨rfl, rfl, rfl, rfl⟩⟩
    · simp [Value.cells] at hcs
      obtain ⟨rfl, rfl, rfl⟩ := hcs
      exact ⟨zs, .inr ⟨_, rfl, hl, hm, by simpa using hz, hcell, hwz⟩⟩
  clear hA0 hval0
  refine (walk W a0 l0 k0 z0 w0 J hJ).mono fun e W' ⟨he, bel⟩ => ?_
  subst he
  exact ⟨_, rfl, _, _, _, [], _, _, hW', trodAll_mk1 (shut_bool Tryd.underlying4 _), (trodAll_cons_mk (Below.trod laidOut (by kernel_rfl) (of_decide_eq_true (by kernel_rfl)) g0 bel lt0) trodAll_mk0), Laid.jam_read enc (Go.Joins.var_stays Laid.jam_named hvJ bel (Nat.le_refl _)) _, bel.frame _, fun h => by cases h⟩

theorem row_holds : Rows.FnWrongSaid :=
  OpenClaim.holds_of_wide 4 Tryd.f4 rfl rfl rfl rfl rfl rfl rfl ⟨rfl, rfl, rfl, rfl, rfl⟩ rfl rfl rfl rfl rfl (by kernel_rfl) Tryd.func4 (by kernel_rfl)
    (of_decide_eq_true (by kernel_rfl)) (by unfold Func.isWrapper; first | (rw [if_pos (by decide +kernel)]; kernel_rfl) | (rw [if_neg (by decide +kernel)]; exact ⟨rfl, rfl⟩))
    (fun os started H enc _ => lifted os started H enc)

theorem proved : Rows.FnWrongCardSaid :=
  Claim7.holds_tied_plain_at .later [] [.sentinel] true Rows.fnWrongCard.stood.harness true
    row_holds (fun _ h => by cases h) (by kernel_rfl) (fun _ h => by cases h) fnWrong_row_tie rfl ⟨rfl, rfl⟩ (by kernel_rfl) rfl
    (fun f fn hf hfn => by
      obtain rfl : f = 4 := Option.some.inj ((show Tryd.prog.funcNamed Rows.fnWrongRow.func = some 4 by kernel_rfl).symm.trans hf) |>.symm
      obtain rfl : fn = Tryd.f4 := (Option.some.inj (Tryd.func4.symm.trans hfn)).symm
      exact ⟨by kernel_rfl, fun j t ht => by
        rw [Tryd.params4] at ht
        have hm : t ∈ [22] := by simpa using Array.mem_of_getElem? ht
        have hall : ([22].all fun u => !Tryd.prog.wantsStandIn u) = true := by kernel_rfl
        exact (show Tryd.prog.wantsStandIn t = false by simpa using List.all_eq_true.1 hall t hm)⟩)
    (by kernel_rfl)
#print axioms proved
end Go.Proofs.YtnaghfppeejaoaaDoor.fnWrong
