/-
  For every slice of bytes, laws.FnTreat returns true.
-/
import Derived.Test.YtbcoklognedffaaRows
import Derived.Test.YtbcoklognedffaaDrawX
import Derived.Test.YtbcoklognedffaaRadN
import Derived.Test.YtbcoklognedffaaTreat
import Derived.Test.YtbcoklognedffaaPass
import Derived.Test.YtbcoklognedffaaTreatM
import Derived.WalkKit
import Derived.ProofKit
import Derived.OpenShut
import Derived.ShutString
import Derived.ChangeOld
import Derived.Below
import Derived.Handy
import Derived.Lib.Hide
namespace Go.Proofs.Ytbcoklognedffaa.fnTreat
open Go.ChangeShapes Go.WideShapes Go.ChangeAt Go.RowKit
open Go.ChangeMaps (open_string shut_string)
open Go.PlainAid (bt get_bt bt_nonneg bt_le)
set_option linter.unusedVariables false

theorem own : ownKnob Try.prog.godebug = none := by kernel_rfl
theorem laidOut : laidOutB Try.prog = true := by kernel_rfl

set_option maxHeartbeats 40000000 in
set_option maxRecDepth 100000 in
theorem walk (w : World) (a0 : Option Addr) (l0 k0 : Nat) (z0 : List Int) (w0 : IsRow .u8 w a0 l0 k0 z0) :
    Calls Try.prog 6 #[.slice a0 l0 k0] w fun e w' => e = .returned (.bool true) ∧ Below w.heap.size w w' := by
  by_cases hl : 1048576 < l0
  · go_enter Try.func6, Try.ntmps6
    go_wp2
    go_ret
    exact ⟨rfl, Below.refl _ _⟩
  go_enter Try.func6, Try.ntmps6
  go_wp2_with fail
  refine (DrawTreatCount_any a0 l0 k0 z0 w w0).mono ?_
  rintro e u ⟨b, p, a, n, c, S, a2, m, c2, I, C, rfl, hpl, bl, hcp⟩
  have HCP := Lib.hid hcp
  clear hcp
  have ba := below_alloc0 u (.cells #[.int .i64 b, .int .i64 p, .slice a n c] 25)
  have PL := Lib.hid (hpl.on ba)
  have X := Lib.hid (tri_made u (.int .i64 b) (.int .i64 p) (.slice a n c) 25)
  have BL := Lib.hid (step bl ba)
  obtain ⟨v0, hv0⟩ : ∃ v0, u.alloc (.cells #[.int .i64 b, .int .i64 p, .slice a n c] 25) = v0 := ⟨_, rfl⟩
  rw [hv0] at PL X BL
  have HV0 := Lib.hid hv0
  have hn := PL.out.pn
  have hm := PL.out.ln
  have hn2 : n ≤ 1048576 := by omega
  have hm2 : m ≤ 1048576 := by omega
  clear hpl bl ba hv0
  obtain ⟨o, ho⟩ : ∃ o, M.treat b p n S m C I = o := ⟨_, rfl⟩
  have HO := Lib.hid ho
  cases hok : runOk b p n S m I C
  · have ho1 : o = -1 := by
      rw [← ho]
      unfold M.treat
      unfold runOk at hok
      rw [if_neg (by rw [hok]; decide)]
    subst ho1
    clear ho hok
    obtain ⟨⟨d0, d1, d2⟩, g0, g1, g2⟩ := X.out
    have lx := X.out.lt
    go_wp2_with fail
    rw [HV0.out]
    refine (impl_TreatCount _ b p a n c S PL.out.ps PL.out.pf hn2 a2 m c2 I C PL.out.ls PL.out.lf).mono ?_
    rw [HO.out]
    rintro e v1 ⟨rfl, k1⟩
    clear d0 d1 d2 g0 g1 g2 lx
    replace BL := Lib.hid (step BL.out k1)
    replace PL := Lib.hid (PL.out.on k1)
    replace X := Lib.hid (X.out.on k1)
    clear k1
    obtain ⟨⟨d0, d1, d2⟩, g0, g1, g2⟩ := X.out
    have lx := X.out.lt
    go_wp2_with fail
    refine (spec_TreatCount _ b p a n c S PL.out.ps PL.out.pf hn2 a2 m c2 I C PL.out.ls PL.out.lf hm2).mono ?_
    rw [HO.out]
    rintro e v2 ⟨rfl, k2⟩
    clear d0 d1 d2 g0 g1 g2 lx
    replace BL := Lib.hid (step BL.out k2)
    replace PL := Lib.hid (PL.out.on k2)
    replace X := Lib.hid (X.out.on k2)
    clear k2
    obtain ⟨⟨d0, d1, d2⟩, g0, g1, g2⟩ := X.out
    have lx := X.out.lt
    go_wp2_with fail
    refine (spec_TreatCount _ b p a n c S PL.out.ps PL.out.pf hn2 a2 m c2 I C PL.out.ls PL.out.lf hm2).mono ?_
    rw [HO.out]
    rintro e v3 ⟨rfl, k3⟩
    clear d0 d1 d2 g0 g1 g2 lx
    replace BL := Lib.hid (step BL.out k3)
    replace PL := Lib.hid (PL.out.on k3)
    replace X := Lib.hid (X.out.on k3)
    clear k3
    obtain ⟨⟨d0, d1, d2⟩, g0, g1, g2⟩ := X.out
    have lx := X.out.lt
    go_wp2
    go_ret
    exact ⟨rfl, BL.out⟩
  · have HOK := Lib.hid hok
    obtain ⟨hp, hb⟩ := runOk_yes hok
    obtain ⟨s1, s2, s3, s4⟩ := M.plan_shape hp
    have HB := Lib.hid (fun k => passL_batch (n := n) (S := S) (f := 0) s1 ((batchL_iff m I C).1 hb) k)
    have ht1 : o = M.treatTo S C n p m := by
      rw [← ho]
      unfold M.treat
      unfold runOk at hok
      rw [if_pos hok]
    have htb := M.treat_bd S C n p s3 s4 m
    have htr := M.treat_rest b S C n p I m
    have hrl := M.restTo_len (M.planKey b n S C 0) I C m
    have hrp := run_passes s1 s2 hok
    obtain ⟨q, rfl⟩ := Int.eq_ofNat_of_zero_le (show 0 ≤ p by omega)
    obtain ⟨B, rfl⟩ := Int.eq_ofNat_of_zero_le (show 0 ≤ b by omega)
    rw [Int.toNat_natCast] at hrp
    have HPP := Lib.hid (fun (L : List (Int × ByteArray)) (hL : BatchL L) (x : Nat) (hx : (x : Int) < (q : Int)) (W : World) (a3 : Option Addr) (c3 : Nat) (hs : Strs W a n S) (hf : SFits n S) (hl : Lts W a3 L.length (nI L) (nC L)) => pass_again hp hL hx W a c a3 c3 hs hf hn2 hl)
    rw [Int.toNat_natCast] at HPP
    have HST := Lib.hid (fun k => passL_rest (n := n) (S := S) s1 s2 (M.lst I C m) k)
    have HSU : Hid (∀ k, passL (B : Int) n S 0 (M.lst I C m) (k + 1) = M.flat (stepB (B : Int) n S (passL (B : Int) n S 0 (M.lst I C m) k) k) B) := fun k => by
      show M.flat (stepB (B : Int) n S (passL (B : Int) n S 0 (M.lst I C m) k) (0 + k)) (B : Int).toNat = _
      rw [Int.toNat_natCast, Nat.zero_add]
    have HZ : Hid (passL (B : Int) n S 0 (M.lst I C m) 0 = M.lst I C m) := rfl
    have HLN := Lib.hid (fun k => passL_len (n := n) (S := S) s1 (M.lst I C m) k)
    have hr0 : (M.restTo (M.planKey (B : Int) n S C 0) I C m).length = ((M.lst I C m).filter fun y => !hasR n S y).length := by rw [← runRest_filter hok]; unfold runRest; rw [if_pos hok]
    have hin : M.inOrder (B : Int) (q : Int) n S (srt n S (M.lst I C m)).length (nI (srt n S (M.lst I C m))) (nC (srt n S (M.lst I C m))) = true := by
      have hb2 : M.batch (srt n S (M.lst I C m)).length (nI (srt n S (M.lst I C m))) (nC (srt n S (M.lst I C m))) = true := (batchL_list _).2 (by rw [← runList_srt hok]; exact runList_batch hok)
      unfold M.inOrder
      rw [hp, hb2, decide_eq_true (ord_srt n S _)]
      rfl
    rw [hrp] at hin
    obtain ⟨PL0, hPL0⟩ : ∃ F, passL (B : Int) n S 0 (M.lst I C m) = F := ⟨_, rfl⟩
    rw [hPL0] at HB HST HSU HZ HLN hin
    have HIN := Lib.hid hin
    rw [hr0] at hrl htr
    obtain ⟨rl, hrl0⟩ : ∃ k, ((M.lst I C m).filter fun y => !hasR n S y).length = k := ⟨_, rfl⟩
    rw [hrl0] at hrl htr HLN
    rw [← ht1] at htb htr
    have hneg : ¬ o < 0 := by omega
    have HTR := Lib.hid htr
    clear hok hp hb ho ht1 hPL0 hin hr0 hrl0 hrp htr
    obtain ⟨⟨d0, d1, d2⟩, g0, g1, g2⟩ := X.out
    have lx := X.out.lt
    go_wp2_with fail
    rw [HV0.out]
    refine (impl_TreatCount _ (B : Int) (q : Int) a n c S PL.out.ps PL.out.pf hn2 a2 m c2 I C PL.out.ls PL.out.lf).mono ?_
    rw [HO.out]
    rintro e v1 ⟨rfl, k1⟩
    clear d0 d1 d2 g0 g1 g2 lx
    replace BL := Lib.hid (step BL.out k1)
    replace PL := Lib.hid (PL.out.on k1)
    replace X := Lib.hid (X.out.on k1)
    clear k1
    obtain ⟨⟨d0, d1, d2⟩, g0, g1, g2⟩ := X.out
    have lx := X.out.lt
    go_wp2_with fail
    refine (spec_TreatCount _ (B : Int) (q : Int) a n c S PL.out.ps PL.out.pf hn2 a2 m c2 I C PL.out.ls PL.out.lf hm2).mono ?_
    rw [HO.out]
    rintro e v2 ⟨rfl, k2⟩
    clear d0 d1 d2 g0 g1 g2 lx
    replace BL := Lib.hid (step BL.out k2)
    replace PL := Lib.hid (PL.out.on k2)
    replace X := Lib.hid (X.out.on k2)
    clear k2
    obtain ⟨⟨d0, d1, d2⟩, g0, g1, g2⟩ := X.out
    have lx := X.out.lt
    have h60 := (HB.out 0).2.2
    rw [HZ.out, M.lst_length] at h60
    have LT0 : Hid (Lts v2 a2 m (nI (PL0 0)) (nC (PL0 0))) := by
      unfold Hid
      rw [HZ.out]
      intro i hi
      rw [(lst_at hi).1, (lst_at hi).2]
      exact PL.out.ls i hi
    have LN0 : Hid (m = (PL0 0).length) := by unfold Hid; rw [HZ.out, M.lst_length]
    have hq4 : q ≤ 4 := by omega
    go_wp2
    go_loopw [6, 7, 8] (fun s x i wr => ∃ (j : Nat) (ax : Option Addr) (nx cx : Nat) (sm : Int), j ≤ q ∧ i = .int .i64 j ∧ x = .slice ax nx cx ∧ s = .int .i64 sm ∧ Hid (nx = (PL0 j).length) ∧ Hid (sm = (if j = 0 then 0 else (m : Int) + ((j : Int) - 1) * ((m : Int) - (rl : Int)))) ∧ Hid (Lts wr ax nx (nI (PL0 j)) (nC (PL0 j))) ∧ Hid (Below v2.heap.size v2 wr)) (fun _ _ i _ => q - (intOf i).toNat)
    case atStart => exact ⟨0, a2, m, c2, 0, Nat.zero_le _, rfl, rfl, rfl, LN0, rfl, LT0, Below.refl _ _⟩
    case round =>
      obtain ⟨j, ax, nx, cx, sm, hj, rfl, rfl, rfl, hnx, hsm, hlx, hbw⟩ := hrel
      have X2 := Lib.hid (X.out.on hbw.out)
      have PL2 := Lib.hid (PL.out.on hbw.out)
      clear d0 d1 d2 g0 g1 g2 lx
      obtain ⟨⟨d0, d1, d2⟩, g0, g1, g2⟩ := X2.out
      have lx := X2.out.lt
      have hnl := HLN.out j
      have hb61 := (HB.out j).2.2
      rw [← hnx.out] at hb61 hnl
      have HNL := Lib.hid hnl
      clear hnl
      by_cases hlt : j < q
      · have hji : (j : Int) < (q : Int) := by omega
        have hPt : Hid (Calls Try.prog 12 #[.agg #[.int .i64 B, .int .i64 q, .slice a n c], .slice ax nx cx, .int .i64 j] wr (PassRes wr true B (stepB B n S (PL0 j) j) (M.restTo (M.planKey B n S (nC (PL0 j)) j) (nI (PL0 j)) (nC (PL0 j)) (PL0 j).length))) := by
          have e := hnx.out
          subst e
          exact HPP.out (PL0 j) (HB.out j) j hji wr ax cx PL2.out.ps PL2.out.pf hlx.out
        have hrest := HST.out j
        have hsu := Lib.hid (HSU.out j)
        have hcok := HB.out (j + 1)
        rw [hsu.out] at hcok
        obtain ⟨MMx, hMM⟩ : ∃ F, stepB (B : Int) n S (PL0 j) j = F := ⟨_, rfl⟩
        obtain ⟨LR, hLR⟩ : ∃ F, M.restTo (M.planKey (B : Int) n S (nC (PL0 j)) j) (nI (PL0 j)) (nC (PL0 j)) (PL0 j).length = F := ⟨_, rfl⟩
        rw [hMM, hLR] at hPt
        rw [hMM] at hsu hcok
        rw [hLR] at hrest
        have HRS : Hid (0 < j → LR = []) := fun h => hrest h
        clear hMM hLR hrest
        go_wp2_with fail
        refine hPt.out.mono ?_
        rintro e w1 ⟨vm, Vm, um, rfl, hm1, hr1, _, k1⟩
        obtain ⟨ar, cr, rfl, _, _⟩ := hr1.form
        have HM1 := Lib.hid hm1
        have B1 := Lib.hid (sstep hbw.out k1)
        have h60c := hcok.2.2
        have HFT : Hid (FitsL (M.flat MMx B)) := hcok.fits
        have hcm : Hid (M.collOk B MMx = true ∧ M.coll B MMx = M.flat MMx B) := by
          have h1 : M.collOk B MMx = true := by
            unfold M.collOk
            rw [decide_eq_true (show B ≤ 60 by omega), (batchL_list _).2 hcok]
            rfl
          refine ⟨h1, ?_⟩
          unfold M.coll
          rw [if_pos h1]
        have hws : IntKind.i64.wrap (sm + (nx : Int)) = sm + (nx : Int) := IntWalk.i64_in _ (by have h := (sumb (j := j) (m := m) (rl := rl) (sm := sm) (by omega) (by omega) hrl hsm.out).resolve_right id; omega)
        clear hm1 hr1 hPt d0 d1 d2 g0 g1 g2 lx hcok
        by_cases hj0 : j = 0
        · subst hj0
          go_wp2_with fail
          refine (impl_CollectBins w1 _ vm B Vm MMx HM1.out (by omega) (by omega) HFT.out).mono ?_
          rw [hcm.out.1, hcm.out.2]
          rintro e w2 ⟨v9, rfl, r9, k9⟩
          obtain ⟨a9, c9, rfl, _, l9⟩ := r9.form
          have B9 := Lib.hid (sstep B1.out k9)
          have L9 : Hid (Lts w2 a9 (M.flat MMx B).length (nI (PL0 (0 + 1))) (nC (PL0 (0 + 1)))) := by unfold Hid; rw [hsu.out]; exact l9
          have N9 : Hid ((M.flat MMx B).length = (PL0 (0 + 1)).length) := by unfold Hid; rw [hsu.out]
          obtain ⟨n9, hn9⟩ : ∃ k, (M.flat MMx B).length = k := ⟨_, rfl⟩
          rw [hn9] at L9 N9 ⊢
          have S9 : Hid (sm + (nx : Int) = (if 0 + 1 = 0 then 0 else (m : Int) + (((0 + 1 : Nat) : Int) - 1) * ((m : Int) - (rl : Int)))) := by
            have h1 := hsm.out
            unfold Hid
            rw [if_neg (by omega)]
            have h2 : sm = 0 := h1.trans (if_pos trivial)
            have hnl := HNL.out.trans (if_pos trivial)
            rw [M.lst_length] at hnl
            rw [h2, hnl, Int.zero_add]
            simp
          clear r9 l9 k9 hn9 hcm
          go_wp2
          go_roundw
          case rel => exact ⟨0 + 1, a9, n9, c9, sm + (nx : Int), by omega, by go_num, rfl, by go_num, N9.out, S9.out, L9.out, B9.out⟩
          case measure => simp [intOf]; omega
        · have hjp : (0 : Int) < (j : Int) := by omega
          have hl0 : LR = [] := HRS.out (by omega)
          subst hl0
          go_wp2_with fail
          refine (impl_CollectBins w1 _ vm B Vm MMx HM1.out (by omega) (by omega) HFT.out).mono ?_
          rw [hcm.out.1, hcm.out.2]
          rintro e w2 ⟨v9, rfl, r9, k9⟩
          obtain ⟨a9, c9, rfl, _, l9⟩ := r9.form
          have B9 := Lib.hid (sstep B1.out k9)
          have L9 : Hid (Lts w2 a9 (M.flat MMx B).length (nI (PL0 (j + 1))) (nC (PL0 (j + 1)))) := by unfold Hid; rw [hsu.out]; exact l9
          have N9 : Hid ((M.flat MMx B).length = (PL0 (j + 1)).length) := by unfold Hid; rw [hsu.out]
          obtain ⟨n9, hn9⟩ : ∃ k, (M.flat MMx B).length = k := ⟨_, rfl⟩
          rw [hn9] at L9 N9 ⊢
          have S9 : Hid (sm + (nx : Int) = (if j + 1 = 0 then 0 else (m : Int) + (((j + 1 : Nat) : Int) - 1) * ((m : Int) - (rl : Int)))) := by
            have h1 := hsm.out
            unfold Hid
            rw [if_neg (by omega)]
            have hnl := HNL.out
            rw [if_neg hj0] at h1 hnl
            rw [M.lst_length] at hnl
            have hd : (nx : Int) = (m : Int) - (rl : Int) := by omega
            rw [h1, hd, Int.natCast_add, Int.natCast_one, Int.add_sub_cancel, Int.sub_mul, Int.one_mul]
            omega
          clear r9 l9 k9 hn9 hcm
          go_wp2
          go_roundw
          case rel => exact ⟨j + 1, a9, n9, c9, sm + (nx : Int), by omega, by go_num, rfl, by go_num, N9.out, S9.out, L9.out, B9.out⟩
          case measure => simp [intOf]; omega
      · obtain rfl : j = q := by omega
        have hfin : sm = o := by
          have h1 := hsm.out
          rw [if_neg (by omega)] at h1
          rw [h1, HTR.out]
          exact treat_sum _ _ _
        subst hfin
        have e := hnx.out
        subst e
        go_wp2_with fail
        refine (impl_InOrder wr B j a n c S PL2.out.ps PL2.out.pf hn2 ax _ cx _ _ hlx.out (HB.out j).fits).mono ?_
        rw [HIN.out]
        rintro e w3 ⟨rfl, k3⟩
        clear d0 d1 d2 g0 g1 g2 lx
        go_wp2
        go_ret
        exact ⟨rfl, sstep (step BL.out hbw.out) k3⟩

set_option maxRecDepth 100000 in
theorem lifted (os : Os) (started : os.Started) (H : Type) (enc : TypeId × Value → H) :
    ReturnsInHanded {} Try.checked os 6 .any (Rows.fnTreatSpec.pre6 enc Try.prog Try.f6 Rows.fnTreatRow.domain false) (Rows.fnTreatSpec.post enc Try.prog Try.f6 false true false false) := by
  refine returnsInHanded_of_change (C := Try.checked) own started (by kernel_rfl) Try.func6
    (ChangeSpec.witness6 (enc := enc) (C := Try.checked) false ⟨#[], #[.slice none 0 0], []⟩ 8 (by kernel_rfl) (by kernel_rfl) (by kernel_rfl) (by kernel_rfl)) ?_
  intro W base args ds gs before hval0 hW hcnd _
  have hval : ∀ (j : Nat) t v, Try.f6.params[j]? = some t → args[j]? = some v → Value.okWide Try.prog W .any base t v := hval0
  have hW' := hW
  obtain ⟨p, q, hA0, hV, rfl, hfz, hnd⟩ := hW
  have hA : DataW.TrodAll enc Try.prog W 0 (fun _ => true) true Try.f6.params.toList args.toList ds p := hA0
  rw [Try.params6] at hA hval
  obtain ⟨v0, vs0, d0, ds0, p0, q0, hargs, rfl, rfl, h0, r0⟩ := trodAll_cons hA
  obtain ⟨rfl, rfl, rfl⟩ := trodAll_nil r0
  obtain rfl : args = #[v0] := by cases args; simp_all
  obtain ⟨rfl, rfl⟩ := trodVars_none hV
  have g0 := h0
  have lt0 : ∀ x ∈ p0, x.block < W.heap.size := by obtain ⟨m, hm⟩ := g0; exact DataW.trod_lt m _ _ _ hm
  obtain ⟨a0, l0, k0, rfl⟩ := okWide_slice Try.underlying22 (hval 0 22 v0 rfl rfl)
  obtain ⟨z0, w0⟩ : ∃ zs, IsRow .u8 W a0 l0 k0 zs := by
    obtain ⟨fuel, hf⟩ := h0
    rcases open_ints Try.underlying22 Try.underlying5 (by kernel_rfl) hf with ⟨hcs, _⟩ | ⟨x, l, c, zs, hcs, _, hl, hm, hz, _, hcell, hwz⟩
    · simp [Value.cells] at hcs
      obtain ⟨rfl, rfl, rfl⟩ := hcs
      exact ⟨[], .inl ⟨rfl, rfl, rfl, rfl⟩⟩
    · simp [Value.cells] at hcs
      obtain ⟨rfl, rfl, rfl⟩ := hcs
      exact ⟨zs, .inr ⟨_, rfl, hl, hm, by simpa using hz, hcell, hwz⟩⟩
  clear hA0 hval0
  refine (walk W a0 l0 k0 z0 w0).mono fun e W' ⟨he, bel⟩ => ?_
  subst he
  exact ⟨_, rfl, _, _, _, [], _, [], hW', trodAll_mk1 (shut_bool Try.underlying4 _), (trodAll_cons_mk (Below.trod laidOut (by kernel_rfl) (of_decide_eq_true (by kernel_rfl)) g0 bel lt0) trodAll_mk0), rfl, bel.frame _, fun h => by cases h⟩

theorem proved : Rows.FnTreatSaid :=
  OpenClaim.holds_of_wide 6 Try.f6 rfl rfl rfl rfl rfl rfl rfl ⟨rfl, rfl, rfl, rfl, rfl⟩ rfl rfl rfl rfl rfl (by kernel_rfl) Try.func6 (by kernel_rfl)
    (of_decide_eq_true (by kernel_rfl)) (by unfold Func.isWrapper; first | (rw [if_pos (by decide +kernel)]; kernel_rfl) | (rw [if_neg (by decide +kernel)]; exact ⟨rfl, rfl⟩))
    (fun os started H enc _ => lifted os started H enc)
#print axioms proved
end Go.Proofs.Ytbcoklognedffaa.fnTreat
