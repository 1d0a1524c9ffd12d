/-
  For every slice of bytes, laws.FnRepairedLast returns true.
-/
import Derived.Test.YtnaghfppeejaoaaDoorCards
import Derived.Test.YtnaghfppeejaoaaDoorDr7
import Derived.Test.YtnaghfppeejaoaaDoorErrA
import Derived.Test.YtnaghfppeejaoaaDoorKeptA
import Derived.Test.YtnaghfppeejaoaaDoorCap
import Derived.Test.YtnaghfppeejaoaaDoorStab
import Derived.Test.YtnaghfppeejaoaaDoorLaidJ
import Derived.Test.YtnaghfppeejaoaaDoorTie
import Derived.LaidMore
import Derived.Stop.Joined
import Derived.SevenTiedAt
import Derived.Lay
import Derived.Deep.RegionHeld3
import Derived.WalkKit
import Derived.ProofKit
import Derived.OpenShut
import Derived.ShutString
import Derived.ChangeOld
import Derived.Below
import Derived.Handy
import Derived.Lib.Hide
namespace Go.Proofs.YtnaghfppeejaoaaDoor.fnRepairedLast
open Go.ChangeShapes Go.WideShapes Go.ChangeAt Go.RowKit
open Go.ChangeMaps (open_string shut_string)
open Go.PlainAid (bt get_bt bt_nonneg bt_le)
set_option linter.unusedVariables false

theorem held_on {w w' : World} {P bb o1 o2 : Nat} {x y z s t : Value} (h : w.cell? ⟨P, 0, none⟩ = some x ∧ w.cell? ⟨P, 1, none⟩ = some y ∧ w.cell? ⟨P, 2, none⟩ = some z ∧ w.cell? ⟨bb, o1, none⟩ = some s ∧ w.cell? ⟨bb, o2, none⟩ = some t) (hb : Below w.heap.size w w') (hP : P < w.heap.size) (hl : bb < w.heap.size) : w'.cell? ⟨P, 0, none⟩ = some x ∧ w'.cell? ⟨P, 1, none⟩ = some y ∧ w'.cell? ⟨P, 2, none⟩ = some z ∧ w'.cell? ⟨bb, o1, none⟩ = some s ∧ w'.cell? ⟨bb, o2, none⟩ = some t :=
  ⟨(hb.cell (p := ⟨P, 0, none⟩) hP).trans h.1, (hb.cell (p := ⟨P, 1, none⟩) hP).trans h.2.1, (hb.cell (p := ⟨P, 2, none⟩) hP).trans h.2.2.1, (hb.cell (p := ⟨bb, o1, none⟩) hl).trans h.2.2.2.1, (hb.cell (p := ⟨bb, o2, none⟩) hl).trans h.2.2.2.2⟩
theorem own : ownKnob Tryd.prog.godebug = none := by kernel_rfl
theorem laidOut : laidOutB Tryd.prog = true := by kernel_rfl

set_option maxHeartbeats 40000000 in
set_option maxRecDepth 100000 in
theorem walk (w : World) (a0 : Option Addr) (l0 k0 : Nat) (z0 : List Int) (w0 : IsRow .u8 w a0 l0 k0 z0) (J : Addr) (hJ : Jam w J) :
    Calls Tryd.prog 9 #[.slice a0 l0 k0] w fun e w' => e = .returned (.bool true) ∧ Below w.heap.size w w' := by
  by_cases hl : 1048576 < l0
  · go_enter Tryd.func9, Tryd.ntmps9
    go_wp2
    go_ret
    exact ⟨rfl, Below.refl _ _⟩
  go_enter Tryd.func9, Tryd.ntmps9
  go_wp2_with fail
  refine (DrawRunRepaired_any a0 l0 k0 z0 w w0).mono ?_
  rintro e u ⟨b, p, a, n, c, S, a2, m, c2, I, C, x, a3, LM, c3, rfl, hpl, hx9, bl, hcp, hmd⟩
  have HCP := Lib.hid hcp
  clear hcp
  obtain ⟨L, hmL, hpl2⟩ := hpl.list
  subst hmL
  clear hpl
  have hpl := hpl2
  clear hpl2
  have ba := below_alloc0 u (.cells #[.int .i64 b, .int .i64 p, .slice a n c] 25)
  have PL := Lib.hid (hpl.on ba)
  have MD := Lib.hid (hmd.on ba)
  have HJ := Lib.hid ((hJ.on bl).on ba)
  have X := Lib.hid (tri_made u (.int .i64 b) (.int .i64 p) (.slice a n c) 25)
  have BL := Lib.hid (step bl ba)
  obtain ⟨v0, hv0⟩ : ∃ v0, u.alloc (.cells #[.int .i64 b, .int .i64 p, .slice a n c] 25) = v0 := ⟨_, rfl⟩
  rw [hv0] at PL X BL MD HJ
  have HV0 := Lib.hid hv0
  have hn := PL.out.pn
  have hm := PL.out.ln
  have hn2 : n ≤ 1048576 := by omega
  have hm2 : L.length ≤ 1048576 := by omega
  have hm5 := MD.out.mn
  have hm3 : LM.length ≤ 1048576 := by omega
  clear hpl bl ba hv0 hmd hJ
  cases hok : faultyOk b p n S L.length (nI L) (nC L) x LM.length (mI LM) (mC LM)
  · have HOK := Lib.hid hok
    have HL : Hid (okAns b p n S L.length (nI L) (nC L) x LM.length (mI LM) (mC LM) (repAns b p n S L.length (nI L) (nC L) (x : Int).toNat LM.length (mI LM) (mC LM)) = []) := by
      unfold Hid okAns
      rw [hok, if_neg (by decide)]
    clear hok
    obtain ⟨⟨d0, d1, d2⟩, g0, g1, g2⟩ := X.out
    have lx := X.out.lt
    go_wp2_with fail
    rw [HV0.out]
    refine (impl_RunRepaired _ J HJ.out b p a n c S PL.out.ps PL.out.pf hn2 a2 L.length c2 (nI L) (nC L) PL.out.ls PL.out.lf x a3 LM.length c3 (mI LM) (mC LM) MD.out.ms MD.out.mf).mono ?_
    rw [HL.out]
    rw [HOK.out]
    rintro e v1 ⟨p1, rfl, r1, k1⟩
    obtain ⟨a4, c4, rfl, _, _⟩ := r1.form
    clear r1
    clear d0 d1 d2 g0 g1 g2 lx
    replace BL := Lib.hid (step BL.out k1)
    replace PL := Lib.hid (PL.out.on k1)
    replace X := Lib.hid (X.out.on k1)
    replace MD := Lib.hid (MD.out.on k1)
    replace HJ := Lib.hid (HJ.out.on k1)
    clear k1
    obtain ⟨⟨d0, d1, d2⟩, g0, g1, g2⟩ := X.out
    have lx := X.out.lt
    go_wp2_with fail
    refine (spec_RunRepaired _ b p a n c S PL.out.ps PL.out.pf hn2 a2 L.length c2 (nI L) (nC L) PL.out.ls PL.out.lf hm2 x a3 LM.length c3 (mI LM) (mC LM) MD.out.ms MD.out.mf hm3).mono ?_
    rw [HL.out]
    rw [HOK.out]
    rintro e v2 ⟨p2, rfl, r2, k2⟩
    obtain ⟨a5, c5, rfl, _, _⟩ := r2.form
    clear r2
    clear d0 d1 d2 g0 g1 g2 lx
    replace BL := Lib.hid (step BL.out k2)
    replace PL := Lib.hid (PL.out.on k2)
    replace X := Lib.hid (X.out.on k2)
    replace MD := Lib.hid (MD.out.on k2)
    replace HJ := Lib.hid (HJ.out.on k2)
    clear k2
    obtain ⟨⟨d0, d1, d2⟩, g0, g1, g2⟩ := X.out
    have lx := X.out.lt
    go_wp2
    go_ret
    exact ⟨rfl, BL.out⟩
  · have HOK := Lib.hid hok
    have hk := hok
    rw [faultyOk_eq] at hk
    simp only [Bool.and_eq_true, decide_eq_true_eq] at hk
    obtain ⟨⟨⟨hp, hb⟩, hx⟩, hmi⟩ := hk
    obtain ⟨_, hm60, hmt⟩ := M.mis_true hmi
    have hbl := (batchL_list L).1 hb
    have hsL := srt_batch (n := n) (S := S) hbl
    have hl1 := runList_srt (runOk_list hp hbl)
    rw [lst_nI] at hl1
    obtain ⟨s1, s2, s3, s4⟩ := M.plan_shape hp
    obtain ⟨q, hq⟩ : ∃ q : Nat, p = (q : Int) + 1 := ⟨(p - 1).toNat, by omega⟩
    subst hq
    obtain ⟨R, hR, hRb, hasc, hmv⟩ := rep_last (I' := nI L) (C := nC L) (m := L.length) hp hb (x := q) rfl hmt
    have hokl : faultyOk b ((q : Int) + 1) n S L.length (nI L) (nC L) (q : Int) LM.length (mI LM) (mC LM) = true := by
      rw [faultyOk_eq, hp, hb, hmi, decide_eq_true (show (0 : Int) ≤ (q : Int) ∧ (q : Int) ≤ (q : Int) + 1 - 1 by omega)]
      rfl
    obtain ⟨Y, hY⟩ : ∃ Y, repAns b ((q : Int) + 1) n S L.length (nI L) (nC L) x.toNat LM.length (mI LM) (mC LM) = Y := ⟨_, rfl⟩
    have HL : Hid (okAns b ((q : Int) + 1) n S L.length (nI L) (nC L) x LM.length (mI LM) (mC LM) (repAns b ((q : Int) + 1) n S L.length (nI L) (nC L) (x : Int).toNat LM.length (mI LM) (mC LM)) = Y) := by
      unfold Hid okAns
      rw [hok, if_pos rfl]
      exact hY
    have HLL : Hid (okAns b ((q : Int) + 1) n S L.length (nI L) (nC L) (q : Int) LM.length (mI LM) (mC LM) (repAns b ((q : Int) + 1) n S L.length (nI L) (nC L) ((q : Int) : Int).toNat LM.length (mI LM) (mC LM)) = R) := by
      unfold Hid okAns
      rw [hokl, if_pos rfl, Int.toNat_natCast]
      exact hR
    have HOKL := Lib.hid hokl
    have hio : q = 0 → M.inOrder b ((q : Int) + 1) n S R.length (nI R) (nC R) = true := fun e => by
      subst e
      obtain ⟨E, hE, hfr⟩ := rep_first (I' := nI L) (C := nC L) (m := L.length) hp hb hmt
      have := inOrder_srt hp hE
      rw [← hfr, hR] at this
      exact this
    have HIO := Lib.hid hio
    have hcp2 : 0 < q → 2 ≤ M.cap b (q : Int) := fun h0 => by
      have h1 : M.shape b (q : Int) = true := by
        unfold M.shape
        simp only [Bool.and_eq_true, decide_eq_true_eq]
        omega
      rw [M.cap_yes h1, Int.toNat_natCast]
      have h2 := M.pw_mono_p (b := b) (k := 1) (j := q) (by omega) s2 (by omega) (by omega)
      have h3 : M.pw b 1 = b := by rw [M.pw_succ, M.pw_zero, Int.one_mul]
      omega
    have HC2 := Lib.hid hcp2
    have HASC := Lib.hid hasc
    have HRB := Lib.hid hRb
    obtain ⟨mv, hmv0⟩ : ∃ k, M.moved b ((q : Int) + 1) n S R.length (nI R) (nC R) = k := ⟨_, rfl⟩
    rw [hmv0] at hmv
    have HMV := Lib.hid hmv0
    have hq1 : R.length ≤ 1048576 := by have := hRb.2.2; omega
    have hR60 := hRb.2.2
    have hq4 : q ≤ 3 := by omega
    clear hok hp hb hx hmi hmt hbl hsL hl1 hR hRb hasc hokl hY hio hcp2 hmv0
    obtain ⟨⟨d0, d1, d2⟩, g0, g1, g2⟩ := X.out
    have lx := X.out.lt
    go_wp2_with fail
    rw [HV0.out]
    refine (impl_RunRepaired _ J HJ.out b ((q : Int) + 1) a n c S PL.out.ps PL.out.pf hn2 a2 L.length c2 (nI L) (nC L) PL.out.ls PL.out.lf x a3 LM.length c3 (mI LM) (mC LM) MD.out.ms MD.out.mf).mono ?_
    rw [HL.out]
    rw [HOK.out]
    rintro e v1 ⟨p1, rfl, r1, k1⟩
    obtain ⟨a4, c4, rfl, _, _⟩ := r1.form
    clear r1
    clear d0 d1 d2 g0 g1 g2 lx
    replace BL := Lib.hid (step BL.out k1)
    replace PL := Lib.hid (PL.out.on k1)
    replace X := Lib.hid (X.out.on k1)
    replace MD := Lib.hid (MD.out.on k1)
    replace HJ := Lib.hid (HJ.out.on k1)
    clear k1
    obtain ⟨⟨d0, d1, d2⟩, g0, g1, g2⟩ := X.out
    have lx := X.out.lt
    go_wp2_with fail
    refine (spec_RunRepaired _ b ((q : Int) + 1) a n c S PL.out.ps PL.out.pf hn2 a2 L.length c2 (nI L) (nC L) PL.out.ls PL.out.lf hm2 x a3 LM.length c3 (mI LM) (mC LM) MD.out.ms MD.out.mf hm3).mono ?_
    rw [HL.out]
    rw [HOK.out]
    rintro e v2 ⟨p2, rfl, r2, k2⟩
    obtain ⟨a5, c5, rfl, _, _⟩ := r2.form
    clear r2
    clear d0 d1 d2 g0 g1 g2 lx
    replace BL := Lib.hid (step BL.out k2)
    replace PL := Lib.hid (PL.out.on k2)
    replace X := Lib.hid (X.out.on k2)
    replace MD := Lib.hid (MD.out.on k2)
    replace HJ := Lib.hid (HJ.out.on k2)
    clear k2
    obtain ⟨⟨d0, d1, d2⟩, g0, g1, g2⟩ := X.out
    have lx := X.out.lt
    go_wp2_with fail
    refine (impl_RunRepaired _ J HJ.out b ((q : Int) + 1) a n c S PL.out.ps PL.out.pf hn2 a2 L.length c2 (nI L) (nC L) PL.out.ls PL.out.lf (q : Int) a3 LM.length c3 (mI LM) (mC LM) MD.out.ms MD.out.mf).mono ?_
    rw [HLL.out]
    rw [HOKL.out]
    rintro e v3 ⟨p3, rfl, r3, k3⟩
    obtain ⟨a6, c6, rfl, _, _⟩ := r3.form
    clear d0 d1 d2 g0 g1 g2 lx
    replace BL := Lib.hid (step BL.out k3)
    replace PL := Lib.hid (PL.out.on k3)
    replace X := Lib.hid (X.out.on k3)
    replace MD := Lib.hid (MD.out.on k3)
    replace HJ := Lib.hid (HJ.out.on k3)
    have R3 := Lib.hid (r3)
    clear k3
    clear r3
    obtain ⟨⟨d0, d1, d2⟩, g0, g1, g2⟩ := X.out
    have lx := X.out.lt
    go_wp2
    go_loopw [14] (fun i wr => ∃ (j : Nat), 1 ≤ j ∧ (j ≤ R.length ∨ j = 1) ∧ i = .int .i64 j ∧ Hid (Below v3.heap.size v3 wr)) (fun i _ => R.length + 1 - (intOf i).toNat)
    case atStart => exact ⟨1, Nat.le_refl _, Or.inr rfl, rfl, Below.refl _ _⟩
    case round =>
      obtain ⟨j, hj1, hj, rfl, hbw⟩ := hrel
      have X2 := Lib.hid (X.out.on hbw.out)
      have PL2 := Lib.hid (PL.out.on hbw.out)
      have R3b := Lib.hid (R3.out.on hbw.out)
      clear d0 d1 d2 g0 g1 g2 lx
      obtain ⟨⟨d0, d1, d2⟩, g0, g1, g2⟩ := X2.out
      have lx := X2.out.lt
      by_cases hlt : j < R.length
      · obtain ⟨i, hi⟩ : ∃ i, j = i + 1 := ⟨j - 1, by omega⟩
        have hji : (j : Int) < (R.length : Int) := by omega
        have hj0 : (0 : Int) ≤ (j : Int) := by omega
        have hk0 : (0 : Int) ≤ (i : Int) := by omega
        have hk1 : (i : Int) < (R.length : Int) := by omega
        have hil : i < R.length := by omega
        have hkw : IntKind.i64.wrap ((j : Int) - 1) = (i : Int) := (IntWalk.i64_in _ (by omega)).trans (by omega)
        have hle : M.planBin b ((q : Int) + 1) n S (nC R i) q ≤ M.planBin b ((q : Int) + 1) n S (nC R j) q := by
          subst hi
          exact HASC.out i hlt
        clear hi
        have hl1 : Lts wr a6 R.length (nI R) (nC R) := by
          obtain ⟨a9, c9, e9, _, l9⟩ := R3b.out.form
          injection e9 with q1 q2 q3 <;> (subst q1; exact l9)
        obtain ⟨bb, oo, ha, t0, t1⟩ := hl1 j hlt
        obtain ⟨bb', oo', ha', t2, t3⟩ := hl1 i hil
        subst ha
        obtain ⟨rfl, rfl, _⟩ := Addr.mk.inj (Option.some.inj ha')
        clear ha' hl1 t0 t2
        generalize nC R j = sj at t1 hle
        generalize nC R i = si at t3 hle
        obtain ⟨qj, hqj⟩ : ∃ k, M.planBin b ((q : Int) + 1) n S sj q = k := ⟨_, rfl⟩
        obtain ⟨qi, hqi⟩ : ∃ k, M.planBin b ((q : Int) + 1) n S si q = k := ⟨_, rfl⟩
        rw [hqj, hqi] at hle
        have HQJ := Lib.hid hqj
        have HQI := Lib.hid hqi
        have hnl : ¬ qj < qi := by omega
        have hlb : bb < wr.heap.size := World.block_lt_of_cell? _ _ t1
        have KL : Below wr.heap.size wr wr := Below.refl _ _
        have s0 : wr.cell? ⟨u.heap.size, 0, none⟩ = some (.int .i64 b) ∧ wr.cell? ⟨u.heap.size, 1, none⟩ = some (.int .i64 ((q : Int) + 1)) ∧ wr.cell? ⟨u.heap.size, 2, none⟩ = some (.slice a n c) ∧ wr.cell? ⟨bb, oo + j * 2 + 1, none⟩ = some (.string sj) ∧ wr.cell? ⟨bb, oo + i * 2 + 1, none⟩ = some (.string si) := ⟨d0, d1, d2, t1, t3⟩
        clear hqj hqi hle
        go_wp2_with fail
        go_region_held3 (fun w' => w'.cell? ⟨u.heap.size, 0, none⟩ = some (.int .i64 b) ∧ w'.cell? ⟨u.heap.size, 1, none⟩ = some (.int .i64 ((q : Int) + 1)) ∧ w'.cell? ⟨u.heap.size, 2, none⟩ = some (.slice a n c) ∧ w'.cell? ⟨bb, oo + j * 2 + 1, none⟩ = some (.string sj) ∧ w'.cell? ⟨bb, oo + i * 2 + 1, none⟩ = some (.string si)) (first | exact s0 | exact s7 | exact s8) (first
          | (go_at_call_of 17 (Value.string sj); refine (impl_PlanBin _ b ((q : Int) + 1) a n c S ((PL2.out.ps.on KL).on (by go_grown)) PL2.out.pf hn2 sj (q : Int)).mono ?_; rw [HQJ.out]; rintro e w7 ⟨rfl, k7⟩; have KL : Below wr.heap.size wr w7 := (by exact sstep (sstep KL (by go_grown)) k7); have s7 := held_on s0 KL lx hlb)
          | (go_at_call_of 17 (Value.string si); refine (impl_PlanBin _ b ((q : Int) + 1) a n c S ((PL2.out.ps.on KL).on (by go_grown)) PL2.out.pf hn2 si (q : Int)).mono ?_; rw [HQI.out]; rintro e w8 ⟨rfl, k8⟩; have KL : Below wr.heap.size wr w8 := (by exact sstep (sstep KL (by go_grown)) k8); have s8 := held_on s0 KL lx hlb))
        all_goals
          have B9 := Lib.hid (step hbw.out KL)
          clear k7 k8 s0 s7 s8 t1 t3 d0 d1 d2 g0 g1 g2 lx
          go_wp2
          go_roundw
          case rel => exact ⟨j + 1, by omega, Or.inl (by omega), by go_num, by first | exact B9.out | exact below_drewS B9.out _⟩
          case measure => simp [intOf]; omega
      · have LR : Hid (Lts wr a6 R.length (nI R) (nC R)) := by
          obtain ⟨a9, c9, e9, _, l9⟩ := R3b.out.form
          injection e9 with q1 q2 q3 <;> (subst q1; exact l9)
        have hmle : mv ≤ (LM.length : Int) := hmv
        by_cases hq0 : q = 0
        · have HI2 := Lib.hid (HIO.out hq0)
          have hqi0 : ¬ (0 : Int) < (q : Int) := by omega
          clear hq0
          go_wp2_with fail
          refine (impl_MovedLetters wr b ((q : Int) + 1) a n c S PL2.out.ps PL2.out.pf hn2 a6 R.length c6 (nI R) (nC R) LR.out HRB.out.fits hq1).mono ?_
          rw [HMV.out]
          rintro e w3 ⟨rfl, k3⟩
          have X4 := Lib.hid (X2.out.on k3)
          have PL4 := Lib.hid (PL2.out.on k3)
          have LR4 := Lib.hid (LR.out.on k3)
          have B4 := Lib.hid (step hbw.out k3)
          clear k3 d0 d1 d2 g0 g1 g2 lx
          obtain ⟨⟨d0, d1, d2⟩, g0, g1, g2⟩ := X4.out
          have lx := X4.out.lt
          go_wp2_with fail
          refine (impl_InOrder w3 b ((q : Int) + 1) a n c S PL4.out.ps PL4.out.pf hn2 a6 R.length c6 (nI R) (nC R) LR4.out HRB.out.fits).mono ?_
          rw [HI2.out]
          rintro e w5 ⟨rfl, k5⟩
          clear d0 d1 d2 g0 g1 g2 lx
          go_wp2
          go_ret
          exact ⟨rfl, sstep (step BL.out B4.out) k5⟩
        · have hqi0 : (0 : Int) < (q : Int) := by omega
          obtain ⟨cq, hcq⟩ : ∃ k, M.cap b (q : Int) = k := ⟨_, rfl⟩
          have hc2 := HC2.out (by omega)
          rw [hcq] at hc2
          have HCQ := Lib.hid hcq
          have hc1 : (1 : Int) < cq := by omega
          clear hcq hc2 hq0
          go_wp2_with fail
          refine (impl_CapacityOf b (q : Int) wr).mono ?_
          rw [HCQ.out]
          rintro e w2 ⟨rfl, rfl⟩
          go_wp2_with fail
          refine (impl_MovedLetters wr b ((q : Int) + 1) a n c S PL2.out.ps PL2.out.pf hn2 a6 R.length c6 (nI R) (nC R) LR.out HRB.out.fits hq1).mono ?_
          rw [HMV.out]
          rintro e w3 ⟨rfl, k3⟩
          clear d0 d1 d2 g0 g1 g2 lx
          go_wp2
          go_ret
          exact ⟨rfl, sstep (step BL.out hbw.out) k3⟩

set_option maxRecDepth 100000 in
theorem lifted (os : Os) (started : os.Started) (H : Type) (enc : TypeId × Value → H) :
    ReturnsInHanded {} Tryd.checked os 9 .any (fun w args => (Rows.fnRepairedLastSpec.pre enc Tryd.prog Tryd.f9 [] false w args ∧ laidMetH Tryd.prog Rows.fnRepairedLastRow.laid w) ∧ sizedMet enc Tryd.prog Tryd.f9 (OpenSpec.ofChange Rows.fnRepairedLastSpec) false w args)
      (Rows.fnRepairedLastSpec.post enc Tryd.prog Tryd.f9 false true false false) := by
  refine returnsInHanded_of_change_and (C := Tryd.checked) (X := fun w _ => laidMetH Tryd.prog Rows.fnRepairedLastRow.laid w) (fun _ _ _ hh h => h.of_heap hh) own started (by kernel_rfl) Tryd.func9
    (ChangeSpec.witness_shaped (enc := enc) (C := Tryd.checked) (os := os) (X := fun w _ => laidMetH Tryd.prog Rows.fnRepairedLastRow.laid w) false (World.laidAll Tryd.prog os Rows.fnRepairedLastRow.laid) #[.slice none 0 0] 8 (World.laidAll_os _ _ _) (World.shaped_of_ZipB (by kernel_rfl) (by kernel_rfl)) (by kernel_rfl) (by kernel_rfl) (by kernel_rfl) (Laid.door_jam os _)) ?_
  intro W base args ds gs before hval0 hW _ _ hL _
  have hval : ∀ (j : Nat) t v, Tryd.f9.params[j]? = some t → args[j]? = some v → Value.okWide Tryd.prog W .any base t v := hval0
  have hW' := hW
  obtain ⟨p, q, hA0, hV, rfl, hfz, hnd⟩ := hW
  have hA : DataW.TrodAll enc Tryd.prog W 0 (fun _ => true) true Tryd.f9.params.toList args.toList ds p := hA0
  rw [Tryd.params9] at hA hval
  obtain ⟨v0, vs0, d0, ds0, p0, q0, hargs, rfl, rfl, h0, r0⟩ := trodAll_cons hA
  obtain ⟨rfl, rfl, rfl⟩ := trodAll_nil r0
  obtain rfl : args = #[v0] := by cases args; simp_all
  have hV' : DataW.TrodVars enc Tryd.prog W (fun _ => true) ["loop.example/sortingoffice/impl.errJam"] gs q := hV
  obtain ⟨J, hvJ, hJ⟩ := Laid.of_jam hL
  obtain ⟨rfl, rfl⟩ := hV'.unique (Laid.jam_read enc hvJ _)
  have g0 := h0
  have lt0 : ∀ x ∈ p0, x.block < W.heap.size := by obtain ⟨m, hm⟩ := g0; exact DataW.trod_lt m _ _ _ hm
  obtain ⟨a0, l0, k0, rfl⟩ := okWide_slice Tryd.underlying22 (hval 0 22 v0 rfl rfl)
  obtain ⟨z0, w0⟩ : ∃ zs, IsRow .u8 W a0 l0 k0 zs := by
    obtain ⟨fuel, hf⟩ := h0
    rcases open_ints Tryd.underlying22 Tryd.underlying5 (by kernel_rfl) hf with ⟨hcs, _⟩ | ⟨x, l, c, zs, hcs, _, hl, hm, hz, _, hcell, hwz⟩
    · simp [Value.cells] at hcs
      obtain ⟨rfl, rfl, rfl⟩ := hcs
      exact ⟨[], .inl ⟨rfl, rfl, rfl, rfl⟩⟩
    · simp [Value.cells] at hcs
      obtain ⟨rfl, rfl, rfl⟩ := hcs
      exact ⟨zs, .inr ⟨_, rfl, hl, hm, by simpa using hz, hcell, hwz⟩⟩
  clear hA0 hval0
  refine (walk W a0 l0 k0 z0 w0 J hJ).mono fun e W' ⟨he, bel⟩ => ?_
  subst he
  exact ⟨_, rfl, _, _, _, [], _, _, hW', trodAll_mk1 (shut_bool Tryd.underlying4 _), (trodAll_cons_mk (Below.trod laidOut (by kernel_rfl) (of_decide_eq_true (by kernel_rfl)) g0 bel lt0) trodAll_mk0), Laid.jam_read enc (Go.Joins.var_stays Laid.jam_named hvJ bel (Nat.le_refl _)) _, bel.frame _, fun h => by cases h⟩

theorem row_holds : Rows.FnRepairedLastSaid :=
  OpenClaim.holds_of_wide 9 Tryd.f9 rfl rfl rfl rfl rfl rfl rfl ⟨rfl, rfl, rfl, rfl, rfl⟩ rfl rfl rfl rfl rfl (by kernel_rfl) Tryd.func9 (by kernel_rfl)
    (of_decide_eq_true (by kernel_rfl)) (by unfold Func.isWrapper; first | (rw [if_pos (by decide +kernel)]; kernel_rfl) | (rw [if_neg (by decide +kernel)]; exact ⟨rfl, rfl⟩))
    (fun os started H enc _ => lifted os started H enc)

theorem proved : Rows.FnRepairedLastCardSaid :=
  Claim7.holds_tied_plain_at .later [] [.sentinel] true Rows.fnRepairedLastCard.stood.harness true
    row_holds (fun _ h => by cases h) (by kernel_rfl) (fun _ h => by cases h) fnRepairedLast_row_tie rfl ⟨rfl, rfl⟩ (by kernel_rfl) rfl
    (fun f fn hf hfn => by
      obtain rfl : f = 9 := Option.some.inj ((show Tryd.prog.funcNamed Rows.fnRepairedLastRow.func = some 9 by kernel_rfl).symm.trans hf) |>.symm
      obtain rfl : fn = Tryd.f9 := (Option.some.inj (Tryd.func9.symm.trans hfn)).symm
      exact ⟨by kernel_rfl, fun j t ht => by
        rw [Tryd.params9] at ht
        have hm : t ∈ [22] := by simpa using Array.mem_of_getElem? ht
        have hall : ([22].all fun u => !Tryd.prog.wantsStandIn u) = true := by kernel_rfl
        exact (show Tryd.prog.wantsStandIn t = false by simpa using List.all_eq_true.1 hall t hm)⟩)
    (by kernel_rfl)
#print axioms proved
end Go.Proofs.YtnaghfppeejaoaaDoor.fnRepairedLast
