/-
  For every slice of bytes, laws.FnFaultyPass returns true.
-/
import Derived.Test.YtnaghfppeejaoaaDoorCards
import Derived.Test.YtnaghfppeejaoaaDoorDr7
import Derived.Test.YtnaghfppeejaoaaDoorWrgA
import Derived.Test.YtnaghfppeejaoaaDoorErrA
import Derived.Test.YtnaghfppeejaoaaDoorLateA
import Derived.Test.YtnaghfppeejaoaaDoorSoA
import Derived.Test.YtnaghfppeejaoaaDoorCat
import Derived.Test.YtnaghfppeejaoaaDoorLaidJ
import Derived.Test.YtnaghfppeejaoaaDoorTie
import Derived.LaidMore
import Derived.Stop.Joined
import Derived.SevenTiedAt
import Derived.Lay
import Derived.BigQuiet
import Derived.WalkKit
import Derived.ProofKit
import Derived.OpenShut
import Derived.ShutString
import Derived.ChangeOld
import Derived.Below
import Derived.Handy
import Derived.Lib.Hide
namespace Go.Proofs.YtnaghfppeejaoaaDoor.fnFaultyPass
open Go.ChangeShapes Go.WideShapes Go.ChangeAt Go.RowKit
open Go.ChangeMaps (open_string shut_string)
open Go.PlainAid (bt get_bt bt_nonneg bt_le)
set_option linter.unusedVariables false

/-- A letter's own box. -/
def Two (w : World) (b : Nat) (i : Int) (s : ByteArray) : Prop := w.cell? ⟨b, 0, none⟩ = some (.int .i64 i) ∧ w.cell? ⟨b, 1, none⟩ = some (.string s)
theorem Two.on {w w' : World} {b : Nat} {i : Int} {s : ByteArray} (h : Two w b i s) (hb : Below w.heap.size w w') (hl : b < w.heap.size) : Two w' b i s := ⟨(hb.cell (p := ⟨b, 0, none⟩) hl).trans h.1, (hb.cell (p := ⟨b, 1, none⟩) hl).trans h.2⟩
theorem two_made (w : World) (i : Int) (s : ByteArray) : Two (w.alloc (.cells #[.int .i64 i, .string s] 37)) w.heap.size i s := ⟨by simp [go_sem], by simp [go_sem]⟩
theorem drew_add (w : World) (m n : Nat) : ∃ k, (w.drewN m).drewN n = w.drewN k := ⟨m + n, by simp⟩
theorem row_drewN {w : World} {base : Nat} {v : Value} {L : List (Int × ByteArray)} (h : Row w base v L) (n : Nat) : Row (w.drewN n) base v L := h
theorem own : ownKnob Tryd.prog.godebug = none := by kernel_rfl
theorem laidOut : laidOutB Tryd.prog = true := by kernel_rfl

set_option maxHeartbeats 40000000 in
set_option maxRecDepth 100000 in
theorem walk (w : World) (a0 : Option Addr) (l0 k0 : Nat) (z0 : List Int) (w0 : IsRow .u8 w a0 l0 k0 z0) (J : Addr) (hJ : Jam w J) :
    Calls Tryd.prog 3 #[.slice a0 l0 k0] w fun e w' => e = .returned (.bool true) ∧ Below w.heap.size w w' := by
  by_cases hl : 1048576 < l0
  · go_enter Tryd.func3, Tryd.ntmps3
    go_wp2
    go_ret
    exact ⟨rfl, Below.refl _ _⟩
  go_enter Tryd.func3, Tryd.ntmps3
  go_wp2_with fail
  refine (DrawFaultyPass_any a0 l0 k0 z0 w w0).mono ?_
  rintro e u ⟨b, p, a, n, c, S, a2, m, c2, I, C, x, a3, LM, c3, rfl, hpl, hx9, bl, hcp, hmd⟩
  have HCP := Lib.hid hcp
  clear hcp
  obtain ⟨L, hmL, hpl2⟩ := hpl.list
  subst hmL
  clear hpl
  have hpl := hpl2
  clear hpl2
  have ba := below_alloc0 u (.cells #[.int .i64 b, .int .i64 p, .slice a n c] 25)
  have PL := Lib.hid (hpl.on ba)
  have MD := Lib.hid (hmd.on ba)
  have HJ := Lib.hid ((hJ.on bl).on ba)
  have X := Lib.hid (tri_made u (.int .i64 b) (.int .i64 p) (.slice a n c) 25)
  have BL := Lib.hid (step bl ba)
  obtain ⟨v0, hv0⟩ : ∃ v0, u.alloc (.cells #[.int .i64 b, .int .i64 p, .slice a n c] 25) = v0 := ⟨_, rfl⟩
  rw [hv0] at PL X BL MD HJ
  have HV0 := Lib.hid hv0
  have hn := PL.out.pn
  have hm := PL.out.ln
  have hn2 : n ≤ 1048576 := by omega
  have hm2 : L.length ≤ 1048576 := by omega
  have hm5 := MD.out.mn
  have hm3 : LM.length ≤ 1048576 := by omega
  clear hpl bl ba hv0 hmd hJ
  cases hok : faultyOk b p n S L.length (nI L) (nC L) x LM.length (mI LM) (mC LM)
  · have HOK := Lib.hid hok
    have HN0 : Hid (faultyN b p n S L.length (nI L) (nC L) x LM.length (mI LM) (mC LM) = 0) := by
      unfold Hid faultyN
      rw [hok, if_neg (by decide)]
    have HL0 : Hid (faultyL b p n S L.length (nI L) (nC L) x LM.length (mI LM) (mC LM) = []) := by
      unfold Hid faultyL
      rw [hok, if_neg (by decide)]
    obtain ⟨MM, hMM⟩ : ∃ F, M.binTo (fkey b n S (nC L) x.toNat (nI L) LM.length (mI LM) (mC LM)) (nI L) (nC L) L.length = F := ⟨_, rfl⟩
    have HMM := Lib.hid hMM
    have hz9 : (0 : Nat) ≤ 1048576 := by omega
    have hz8 : ([] : List (Int × ByteArray)).length ≤ 1048576 := by simp
    have hzl : ∀ i, i < 0 → (MM i).length ≤ 1048576 := fun i hi => absurd hi (by omega)
    have HZL := Lib.hid hzl
    clear hok hMM hzl
    obtain ⟨⟨d0, d1, d2⟩, g0, g1, g2⟩ := X.out
    have lx := X.out.lt
    go_wp2_with fail
    rw [HV0.out]
    refine (impl_FaultyPass _ J HJ.out b p a n c S PL.out.ps PL.out.pf hn2 a2 L.length c2 (nI L) (nC L) PL.out.ls PL.out.lf x a3 LM.length c3 (mI LM) (mC LM) MD.out.ms MD.out.mf).mono ?_
    rw [HOK.out]
    rw [HN0.out]
    rw [HMM.out]
    rw [HL0.out]
    rintro e v1 ⟨p1, V1, u1, rfl, m1, r1, _, k1⟩
    clear d0 d1 d2 g0 g1 g2 lx
    replace BL := Lib.hid (step BL.out k1)
    replace PL := Lib.hid (PL.out.on k1)
    replace X := Lib.hid (X.out.on k1)
    replace MD := Lib.hid (MD.out.on k1)
    replace HJ := Lib.hid (HJ.out.on k1)
    have HM1 := Lib.hid (m1)
    have R1 := Lib.hid (r1)
    clear k1
    clear m1 r1
    obtain ⟨⟨d0, d1, d2⟩, g0, g1, g2⟩ := X.out
    have lx := X.out.lt
    go_wp2_with fail
    refine (spec_FaultyPass _ b p a n c S PL.out.ps PL.out.pf hn2 a2 L.length c2 (nI L) (nC L) PL.out.ls PL.out.lf hm2 x a3 LM.length c3 (mI LM) (mC LM) MD.out.ms MD.out.mf hm3).mono ?_
    rw [HOK.out]
    rw [HN0.out]
    rw [HMM.out]
    rw [HL0.out]
    rintro e v2 ⟨p2, V2, u2, rfl, m2, r2, _, k2⟩
    clear d0 d1 d2 g0 g1 g2 lx
    replace BL := Lib.hid (step BL.out k2)
    replace PL := Lib.hid (PL.out.on k2)
    replace X := Lib.hid (X.out.on k2)
    replace MD := Lib.hid (MD.out.on k2)
    replace HJ := Lib.hid (HJ.out.on k2)
    replace HM1 := Lib.hid (HM1.out.on k2)
    replace R1 := Lib.hid (R1.out.on k2)
    have HM2 := Lib.hid (m2)
    have R2 := Lib.hid (r2)
    clear k2
    clear m2 r2
    obtain ⟨⟨d0, d1, d2⟩, g0, g1, g2⟩ := X.out
    have lx := X.out.lt
    go_wp2_with fail
    refine (soBins_mat _ _ _ p1 p2 0 V1 V2 MM HM1.out HM2.out hz9 HZL.out).mono ?_
    rintro e v3 ⟨rfl, k3⟩
    clear d0 d1 d2 g0 g1 g2 lx
    replace BL := Lib.hid (step BL.out k3)
    replace PL := Lib.hid (PL.out.on k3)
    replace X := Lib.hid (X.out.on k3)
    replace MD := Lib.hid (MD.out.on k3)
    replace HJ := Lib.hid (HJ.out.on k3)
    replace HM1 := Lib.hid (HM1.out.on k3)
    replace R1 := Lib.hid (R1.out.on k3)
    replace HM2 := Lib.hid (HM2.out.on k3)
    replace R2 := Lib.hid (R2.out.on k3)
    clear k3
    obtain ⟨⟨d0, d1, d2⟩, g0, g1, g2⟩ := X.out
    have lx := X.out.lt
    go_wp2_with fail
    refine (soBatch_row _ _ _ _ _ _ R1.out R2.out hz8).mono ?_
    rintro e v4 ⟨rfl, k4⟩
    clear d0 d1 d2 g0 g1 g2 lx
    replace BL := Lib.hid (step BL.out k4)
    replace PL := Lib.hid (PL.out.on k4)
    replace X := Lib.hid (X.out.on k4)
    replace MD := Lib.hid (MD.out.on k4)
    replace HJ := Lib.hid (HJ.out.on k4)
    replace HM1 := Lib.hid (HM1.out.on k4)
    replace R1 := Lib.hid (R1.out.on k4)
    replace HM2 := Lib.hid (HM2.out.on k4)
    replace R2 := Lib.hid (R2.out.on k4)
    clear k4
    obtain ⟨⟨d0, d1, d2⟩, g0, g1, g2⟩ := X.out
    have lx := X.out.lt
    go_wp2_with fail
    refine (soBins_mat _ _ _ p1 p2 0 V1 V2 MM HM1.out HM2.out hz9 HZL.out).mono ?_
    rintro e v5 ⟨rfl, k5⟩
    clear d0 d1 d2 g0 g1 g2 lx
    replace BL := Lib.hid (step BL.out k5)
    replace PL := Lib.hid (PL.out.on k5)
    replace X := Lib.hid (X.out.on k5)
    replace MD := Lib.hid (MD.out.on k5)
    replace HJ := Lib.hid (HJ.out.on k5)
    replace HM1 := Lib.hid (HM1.out.on k5)
    replace R1 := Lib.hid (R1.out.on k5)
    replace HM2 := Lib.hid (HM2.out.on k5)
    replace R2 := Lib.hid (R2.out.on k5)
    clear k5
    obtain ⟨⟨d0, d1, d2⟩, g0, g1, g2⟩ := X.out
    have lx := X.out.lt
    go_wp2_with fail
    refine (soBatch_row _ _ _ _ _ _ R1.out R2.out hz8).mono ?_
    rintro e v6 ⟨rfl, k6⟩
    clear d0 d1 d2 g0 g1 g2 lx
    replace BL := Lib.hid (step BL.out k6)
    replace PL := Lib.hid (PL.out.on k6)
    replace X := Lib.hid (X.out.on k6)
    replace MD := Lib.hid (MD.out.on k6)
    replace HJ := Lib.hid (HJ.out.on k6)
    replace HM1 := Lib.hid (HM1.out.on k6)
    replace R1 := Lib.hid (R1.out.on k6)
    replace HM2 := Lib.hid (HM2.out.on k6)
    replace R2 := Lib.hid (R2.out.on k6)
    clear k6
    obtain ⟨⟨d0, d1, d2⟩, g0, g1, g2⟩ := X.out
    have lx := X.out.lt
    go_wp2
    go_ret
    exact ⟨rfl, BL.out⟩
  · have HOK := Lib.hid hok
    have hk := hok
    rw [faultyOk_eq] at hk
    simp only [Bool.and_eq_true, decide_eq_true_eq] at hk
    obtain ⟨⟨⟨hp, hb⟩, hx⟩, hmi⟩ := hk
    obtain ⟨_, hm60, hmt⟩ := M.mis_true hmi
    obtain ⟨s1, s2, s3, s4⟩ := M.plan_shape hp
    have hbl := (batchL_list L).1 hb
    have h60 := hbl.2.2
    obtain ⟨q, rfl⟩ := Int.eq_ofNat_of_zero_le hx.1
    have hqp : (q : Int) < p := by omega
    obtain ⟨m3, hm3e⟩ : ∃ k, LM.length = k := ⟨_, rfl⟩
    obtain ⟨QI, hQI⟩ : ∃ F, mI LM = F := ⟨_, rfl⟩
    obtain ⟨QB, hQB⟩ : ∃ F, mC LM = F := ⟨_, rfl⟩
    have HMS := Lib.hid MD.out.ms
    have HMF := Lib.hid MD.out.mf
    rw [hm3e, hQI, hQB] at HMS HMF hmt hok HOK
    rw [hm3e] at hm5 hm3 ⊢
    clear MD hm3e hQI hQB
    have hfm := falM_ok (n := n) (S := S) s1 hbl q hmt
    obtain ⟨N, hN⟩ : ∃ N, b.toNat = N := ⟨_, rfl⟩
    have hfN : faultyN b p n S L.length (nI L) (nC L) (q : Int) m3 QI QB = N := by
      unfold faultyN
      rw [hok, if_pos rfl]
      exact hN
    have hn16 : N ≤ 16 := by omega
    have hNb : (N : Int) = b := by omega
    rw [hN] at hfm
    have hbt : b.toNat = N := hN
    have hfl := (falM_perm (n := n) (S := S) (L := L) s1 q hmt)
    have hbf := (hbl.perm hfl.symm).left
    have hfd := fun d i (hi : i < (falM b n S L q m3 QI QB d).length) => due_end hp hqp hmt (falM_key hi)
    rw [hN] at hfl hbf
    have hfL : faultyL b p n S L.length (nI L) (nC L) (q : Int) m3 QI QB = M.restTo (fkey b n S (nC L) q (nI L) m3 QI QB) (nI L) (nC L) L.length := by
      unfold faultyL
      rw [hok, if_pos rfl, Int.toNat_natCast]
    obtain ⟨LL, hLL⟩ : ∃ F, M.restTo (fkey b n S (nC L) q (nI L) m3 QI QB) (nI L) (nC L) L.length = F := ⟨_, rfl⟩
    rw [hLL] at hfL hfl
    obtain ⟨MM, hMM⟩ : ∃ F, falM b n S L q m3 QI QB = F := ⟨_, rfl⟩
    have HMM : Hid (M.binTo (fkey b n S (nC L) (q : Int).toNat (nI L) m3 QI QB) (nI L) (nC L) L.length = MM) := by
      unfold Hid
      rw [Int.toNat_natCast]
      exact hMM
    rw [hMM] at hfl hbf hfd
    have hmis0 : M.mis b p n S 0 QI QB = true := M.mis_yes hp (by omega) (M.misTo_zero _ _ _)
    have hokn : faultyOk b p n S L.length (nI L) (nC L) (q : Int) 0 QI QB = true := by
      rw [faultyOk_eq, hp, hb, hmis0, decide_eq_true (show (0 : Int) ≤ (q : Int) ∧ (q : Int) ≤ p - 1 by omega)]
      rfl
    have hfNn : faultyN b p n S L.length (nI L) (nC L) (q : Int) 0 QI QB = N := by
      unfold faultyN
      rw [hokn, if_pos rfl]
      exact hN
    obtain ⟨M0, hM0⟩ : ∃ F, stepB b n S L q = F := ⟨_, rfl⟩
    obtain ⟨L0, hL0⟩ : ∃ F, M.restTo (M.planKey b n S (nC L) q) (nI L) (nC L) L.length = F := ⟨_, rfl⟩
    have hpm0 := flat_rest (M.planKey b n S (nC L) q) (nI L) (nC L) b.toNat L.length fun i _ d hd => planKey_bd s1 hd
    have hs0 : M.binTo (M.planKey b n S (nC L) q) (nI L) (nC L) L.length = M0 := hM0
    rw [hs0, hL0, hN, lst_nI] at hpm0
    have h0b := (hbl.perm hpm0.symm).left
    have h0l : L0.length ≤ L.length := by have := hpm0.length_eq; rw [List.length_append] at this; omega
    have HM0N : Hid (M.binTo (fkey b n S (nC L) (q : Int).toNat (nI L) 0 QI QB) (nI L) (nC L) L.length = M0) := by
      unfold Hid
      rw [Int.toNat_natCast, fkey_none]
      exact hM0
    have HL0N : Hid (faultyL b p n S L.length (nI L) (nC L) (q : Int) 0 QI QB = L0) := by
      unfold Hid faultyL
      rw [hokn, if_pos rfl, Int.toNat_natCast, fkey_none]
      exact hL0
    have HPP := Lib.hid (fun (W : World) (hs : Strs W a n S) (hf : SFits n S) (hl : Lts W a2 L.length (nI L) (nC L)) => pass_again hp hbl hqp W a c a2 c2 hs hf hn2 hl)
    rw [hM0, hL0, hN] at HPP
    have HOKN := Lib.hid hokn
    have HN0 := Lib.hid hfN
    have HNN := Lib.hid hfNn
    have HL0 := Lib.hid hfL
    have HBL := Lib.hid hbl
    have HFD := Lib.hid hfd
    have HPF := Lib.hid hfl
    have hl60 : LL.length + (M.flat MM N).length = L.length := by have := hfl.length_eq; rw [List.length_append] at this; omega
    have hn9 : N ≤ 1048576 := by omega
    have HZL : Hid (∀ i, i < N → (MM i).length ≤ 1048576) := fun i hi => by have := flat_le MM hi; omega
    have HZ0 : Hid (∀ i, i < N → (M0 i).length ≤ 1048576) := fun i hi => by have h1 := flat_le M0 hi; have h2 := h0b.2.2; omega
    have HZM : Hid (∀ i, i < N → (MM i).length ≤ 60) := fun i hi => by have := flat_le MM hi; omega
    have hz8 : LL.length ≤ 1048576 := by omega
    have hz7 : L0.length ≤ 1048576 := by omega
    have HFO : Hid (∀ k i, k < N → i < (MM k).length → (M.flat MM k).length + i < (M.flat MM N).length) := fun k i => flat_one
    clear hok hp hb hx hmi hmt hbl hfm hfN hfl hbf hfd hfL hLL hMM hmis0 hokn hfNn hM0 hL0 hpm0 hs0 h0b hbt hN hNb
    obtain ⟨⟨d0, d1, d2⟩, g0, g1, g2⟩ := X.out
    have lx := X.out.lt
    go_wp2_with fail
    rw [HV0.out]
    refine (impl_FaultyPass _ J HJ.out b p a n c S PL.out.ps PL.out.pf hn2 a2 L.length c2 (nI L) (nC L) PL.out.ls PL.out.lf (q : Int) a3 m3 c3 QI QB HMS.out HMF.out).mono ?_
    rw [HOK.out]
    rw [HN0.out]
    rw [HMM.out]
    rw [HL0.out]
    rintro e v1 ⟨p1, V1, u1, rfl, m1, r1, _, k1⟩
    clear d0 d1 d2 g0 g1 g2 lx
    replace BL := Lib.hid (step BL.out k1)
    replace PL := Lib.hid (PL.out.on k1)
    replace X := Lib.hid (X.out.on k1)
    replace HMS := Lib.hid (HMS.out.on k1)
    replace HJ := Lib.hid (HJ.out.on k1)
    have HM1 := Lib.hid (m1)
    have R1 := Lib.hid (r1)
    clear k1
    clear m1 r1
    obtain ⟨⟨d0, d1, d2⟩, g0, g1, g2⟩ := X.out
    have lx := X.out.lt
    go_wp2_with fail
    refine (spec_FaultyPass _ b p a n c S PL.out.ps PL.out.pf hn2 a2 L.length c2 (nI L) (nC L) PL.out.ls PL.out.lf hm2 (q : Int) a3 m3 c3 QI QB HMS.out HMF.out hm3).mono ?_
    rw [HOK.out]
    rw [HN0.out]
    rw [HMM.out]
    rw [HL0.out]
    rintro e v2 ⟨p2, V2, u2, rfl, m2, r2, _, k2⟩
    clear d0 d1 d2 g0 g1 g2 lx
    replace BL := Lib.hid (step BL.out k2)
    replace PL := Lib.hid (PL.out.on k2)
    replace X := Lib.hid (X.out.on k2)
    replace HMS := Lib.hid (HMS.out.on k2)
    replace HJ := Lib.hid (HJ.out.on k2)
    replace HM1 := Lib.hid (HM1.out.on k2)
    replace R1 := Lib.hid (R1.out.on k2)
    have HM2 := Lib.hid (m2)
    have R2 := Lib.hid (r2)
    clear k2
    clear m2 r2
    obtain ⟨⟨d0, d1, d2⟩, g0, g1, g2⟩ := X.out
    have lx := X.out.lt
    go_wp2_with fail
    refine (soBins_mat _ _ _ p1 p2 N V1 V2 MM HM1.out HM2.out hn9 HZL.out).mono ?_
    rintro e v3 ⟨rfl, k3⟩
    clear d0 d1 d2 g0 g1 g2 lx
    replace BL := Lib.hid (step BL.out k3)
    replace PL := Lib.hid (PL.out.on k3)
    replace X := Lib.hid (X.out.on k3)
    replace HMS := Lib.hid (HMS.out.on k3)
    replace HJ := Lib.hid (HJ.out.on k3)
    replace HM1 := Lib.hid (HM1.out.on k3)
    replace R1 := Lib.hid (R1.out.on k3)
    replace HM2 := Lib.hid (HM2.out.on k3)
    replace R2 := Lib.hid (R2.out.on k3)
    clear k3
    obtain ⟨⟨d0, d1, d2⟩, g0, g1, g2⟩ := X.out
    have lx := X.out.lt
    go_wp2_with fail
    refine (soBatch_row _ _ _ _ _ _ R1.out R2.out hz8).mono ?_
    rintro e v4 ⟨rfl, k4⟩
    clear d0 d1 d2 g0 g1 g2 lx
    replace BL := Lib.hid (step BL.out k4)
    replace PL := Lib.hid (PL.out.on k4)
    replace X := Lib.hid (X.out.on k4)
    replace HMS := Lib.hid (HMS.out.on k4)
    replace HJ := Lib.hid (HJ.out.on k4)
    replace HM1 := Lib.hid (HM1.out.on k4)
    replace R1 := Lib.hid (R1.out.on k4)
    replace HM2 := Lib.hid (HM2.out.on k4)
    replace R2 := Lib.hid (R2.out.on k4)
    clear k4
    clear R2 HM2
    obtain ⟨⟨d0, d1, d2⟩, g0, g1, g2⟩ := X.out
    have lx := X.out.lt
    go_wp2_with fail
    refine (HPP.out _ PL.out.ps PL.out.pf PL.out.ls).mono ?_
    rintro e v5 ⟨p5, V5, u5, rfl, m5, r5, _, k5⟩
    clear d0 d1 d2 g0 g1 g2 lx
    replace BL := Lib.hid (step BL.out k5)
    replace PL := Lib.hid (PL.out.on k5)
    replace X := Lib.hid (X.out.on k5)
    replace HMS := Lib.hid (HMS.out.on k5)
    replace HJ := Lib.hid (HJ.out.on k5)
    replace HM1 := Lib.hid (HM1.out.on k5)
    replace R1 := Lib.hid (R1.out.on k5)
    have HM5 := Lib.hid (m5)
    have R5 := Lib.hid (r5)
    clear k5
    clear m5 r5
    obtain ⟨⟨d0, d1, d2⟩, g0, g1, g2⟩ := X.out
    have lx := X.out.lt
    go_wp2_with fail
    refine (impl_FaultyPass _ J HJ.out b p a n c S PL.out.ps PL.out.pf hn2 a2 L.length c2 (nI L) (nC L) PL.out.ls PL.out.lf (q : Int) none 0 0 QI QB (fun i hi => absurd hi (by omega)) (fun i hi => absurd hi (by omega))).mono ?_
    rw [HOKN.out]
    rw [HNN.out]
    rw [HM0N.out]
    rw [HL0N.out]
    rintro e v6 ⟨p6, V6, u6, rfl, m6, r6, _, k6⟩
    clear d0 d1 d2 g0 g1 g2 lx
    replace BL := Lib.hid (step BL.out k6)
    replace PL := Lib.hid (PL.out.on k6)
    replace X := Lib.hid (X.out.on k6)
    replace HMS := Lib.hid (HMS.out.on k6)
    replace HJ := Lib.hid (HJ.out.on k6)
    replace HM1 := Lib.hid (HM1.out.on k6)
    replace R1 := Lib.hid (R1.out.on k6)
    replace HM5 := Lib.hid (HM5.out.on k6)
    replace R5 := Lib.hid (R5.out.on k6)
    have HM6 := Lib.hid (m6)
    have R6 := Lib.hid (r6)
    clear k6
    clear m6 r6
    obtain ⟨⟨d0, d1, d2⟩, g0, g1, g2⟩ := X.out
    have lx := X.out.lt
    obtain ⟨a1, c1, hu1, _, _⟩ := R1.out.form
    subst hu1
    have LR1 : Hid (Lts v6 a1 LL.length (nI LL) (nC LL)) := by
      obtain ⟨a9, c9, e9, _, l9⟩ := R1.out.form
      injection e9 with q1 q2 q3 <;> (subst q1; exact l9)
    obtain ⟨G1, C1, hp1⟩ : ∃ g c, p1 = .slice g N c := by
      rcases HM1.out.form with ⟨rfl, rfl⟩ | ⟨g, c, rfl, _⟩
      · exact ⟨_, _, rfl⟩
      · exact ⟨_, _, rfl⟩
    subst hp1
    have HV6 := Lib.hid BL.out
    clear BL
    obtain ⟨Z, hZ⟩ : ∃ Z, v6 = Z := ⟨_, rfl⟩
    rw [hZ] at PL X HMS HJ HM1 R1 HM5 R5 HM6 R6 LR1 HV6 d0 d1 d2 g0 g1 g2 lx ⊢
    clear hZ
    clear HJ
    go_wp2_with (at_builtin; refine wpList_append_lts _ rfl _ _ rfl Z.heap.size (.slice (some ⟨Z.heap.size, 0, none⟩) 0 0) [] rfl (one_row Z) a1 LL.length c1 (nI LL) (nC LL) rfl (LR1.out.on (by go_grown)) (by simp; omega) (by simp) ?_)
    intro x1 w1 r1 gr1 ho1
    rw [lst_nI] at r1
    have K1 : Below Z.heap.size Z w1 := (below_alloc0 Z _).grown gr1 (by simp) (fun q e => by simp [Value.ownBlock] at e; omega)
    clear gr1 ho1
    have AL : Hid (Row w1 Z.heap.size x1 (LL ++ M.flat MM 0)) := by
      unfold Hid
      have e : LL ++ M.flat MM 0 = LL := List.append_nil _
      rw [e]
      exact r1
    have BK := Lib.hid K1
    clear r1 K1 d0 d1 d2 g0 g1 g2 lx
    go_wp2
    go_loopw [19, 20] (fun al i wr => ∃ (k : Nat), k ≤ N ∧ i = .int .i64 k ∧ Hid (Row wr Z.heap.size al (LL ++ M.flat MM k)) ∧ Hid (Below Z.heap.size Z wr)) (fun _ i _ => N - (intOf i).toNat)
    case atStart => exact ⟨0, Nat.zero_le _, rfl, AL, BK⟩
    case round =>
      obtain ⟨k, hk, rfl, hal, hbw⟩ := hrel
      by_cases hlt : k < N
      · have hki : (k : Int) < (N : Int) := by omega
        have hk0 : (0 : Int) ≤ (k : Int) := by omega
        have hmk := HZM.out k hlt
        obtain ⟨mk, hmke⟩ : ∃ n, (MM k).length = n := ⟨_, rfl⟩
        have HMK := Lib.hid hmke
        rw [hmke] at hmk
        clear hmke
        go_wp2
        go_loopw [19, 21] (fun al i wr => ∃ (j : Nat), j ≤ mk ∧ i = .int .i64 j ∧ Hid (Row wr Z.heap.size al (LL ++ M.flat MM k ++ (MM k).take j)) ∧ Hid (Below Z.heap.size Z wr)) (fun _ i _ => mk - (intOf i).toNat)
        case atStart => exact ⟨0, Nat.zero_le _, rfl, by rw [List.take_zero, List.append_nil]; exact hal, hbw⟩
        case round =>
          obtain ⟨i, hi, rfl, hal, hbi⟩ := hrel
          have X2 := Lib.hid (X.out.on hbi.out)
          have hm := HM1.out.on hbi.out
          obtain ⟨g, cg, hg, t0, _⟩ := hm.cell hlt
          injection hg with hg1 hg2 hg3
          subst hg1
          obtain ⟨ak, ck, hvk, hck, lk⟩ := (hm.2.1 k hlt).form
          rw [hvk, HMK.out] at t0
          rw [HMK.out] at lk
          have LK := Lib.hid lk
          clear hm hvk hck lk hg2 hg3
          obtain ⟨⟨d0, d1, d2⟩, g0, g1, g2⟩ := X2.out
          have lx := X2.out.lt
          by_cases hil : i < mk
          · have hii : (i : Int) < (mk : Int) := by omega
            have hi0 : (0 : Int) ≤ (i : Int) := by omega
            have hfo := HFO.out k i hlt (by rw [HMK.out]; exact hil)
            have hfd := HFD.out k i (by rw [HMK.out]; exact hil)
            have htk := take_next (L := MM k) (i := i) (by rw [HMK.out]; exact hil)
            obtain ⟨gk, ok, hak, y0, y1⟩ := LK.out i hil
            subst hak
            obtain ⟨yi, hyi⟩ : ∃ y, nI (MM k) i = y := ⟨_, rfl⟩
            obtain ⟨yc, hyc⟩ : ∃ y, nC (MM k) i = y := ⟨_, rfl⟩
            rw [hyi, hyc] at hfd htk
            rw [hyi] at y0
            rw [hyc] at y1
            obtain ⟨pb, hpb⟩ : ∃ z, M.planBin b p n S yc (q : Int) = z := ⟨_, rfl⟩
            rw [hpb] at hfd
            have HPB := Lib.hid hpb
            have HFDK := Lib.hid hfd
            have HTK := Lib.hid htk
            have hbox := two_made wr yi yc
            have BXO := Lib.hid hbox
            have ba := below_alloc0 wr (.cells #[.int .i64 yi, .string yc] 37)
            have HBA := Lib.hid ba
            have HX9 := Lib.hid (X2.out.on ba)
            have zi := hbi.out.size
            clear hyi hyc hpb hfd htk hbox
            go_wp2_with fail
            refine (impl_PlanBin _ b p a n c S (PL.out.ps.on (sstep hbi.out HBA.out)) PL.out.pf hn2 yc (q : Int)).mono ?_
            rw [HPB.out]
            rintro e w2 ⟨rfl, k2⟩
            have B2 := Lib.hid (sstep (sstep hbi.out HBA.out) k2)
            have R2 := Lib.hid ((hal.out.on HBA.out).on k2)
            have TB := Lib.hid (BXO.out.on k2 (by simp))
            have zw := k2.size
            simp at zw
            have MS2 := Lib.hid (HMS.out.on B2.out)
            clear k2 d0 d1 d2 g0 g1 g2 lx t0 y0 y1 ba
            go_wp2
            go_loopw [23, 24] (fun du j' wq => ∃ (j : Nat), j ≤ m3 ∧ j' = .int .i64 j ∧ du = .int .i64 (dueJ QI QB yi pb j) ∧ ∃ nd, wq = w2.drewN nd) (fun _ j' _ => m3 - (intOf j').toNat)
            case atStart => exact ⟨0, Nat.zero_le _, rfl, rfl, 0, rfl⟩
            case round =>
              obtain ⟨j, hj, rfl, rfl, nd, rfl⟩ := hrel
              obtain ⟨t0, t1⟩ := TB.out
              obtain ⟨dv, hdv⟩ : ∃ z, dueJ QI QB yi pb j = z := ⟨_, rfl⟩
              have HDV := Lib.hid hdv
              rw [hdv]
              by_cases hjl : j < m3
              · have hjj : (j : Int) < (m3 : Int) := by omega
                have hj0 : (0 : Int) ≤ (j : Int) := by omega
                obtain ⟨gm, om, hgm, z0, z1⟩ := MS2.out j hjl
                subst hgm
                have hds : dueJ QI QB yi pb (j + 1) = if QI j = yi then QB j else dv := by rw [← hdv]; rfl
                obtain ⟨si, hsi⟩ : ∃ y, QI j = y := ⟨_, rfl⟩
                obtain ⟨sb, hsb⟩ : ∃ y, QB j = y := ⟨_, rfl⟩
                rw [hsi] at z0 hds
                rw [hsb] at z1 hds
                have HDS := Lib.hid hds
                clear hdv hds hsi hsb
                have z0' : (w2.drewN nd).cell? ⟨gm, om + j * 2, none⟩ = some (.int .i64 si) := z0
                have z1' : (w2.drewN nd).cell? ⟨gm, om + j * 2 + 1, none⟩ = some (.int .i64 sb) := z1
                have t0' : (w2.drewN nd).cell? ⟨wr.heap.size, 0, none⟩ = some (.int .i64 yi) := t0
                obtain ⟨wq, hwq⟩ : ∃ wq, w2.drewN nd = wq := ⟨_, rfl⟩
                rw [hwq] at z0' z1' t0' ⊢
                have HWQ := Lib.hid hwq
                clear z0 z1 t0 t1 hwq
                by_cases hse : si = yi
                · have hb1 : (si == yi) = true := by simp [hse]
                  have HD9 : Hid (sb = dueJ QI QB yi pb (j + 1)) := by unfold Hid; rw [HDS.out, if_pos hse]
                  clear hse
                  go_wp2
                  go_quiet (fail)
                  go_wp2
                  go_roundw
                  case rel => exact ⟨j + 1, by omega, by go_num, by rw [← HD9.out], by rw [← HWQ.out]; exact drew_add _ _ _⟩
                  case measure => simp [intOf]; omega
                · have hb1 : (si == yi) = false := by simp [hse]
                  have HD9 : Hid (dv = dueJ QI QB yi pb (j + 1)) := by unfold Hid; rw [HDS.out, if_neg hse]
                  clear hse
                  go_wp2
                  go_quiet (fail)
                  go_wp2
                  go_roundw
                  case rel => exact ⟨j + 1, by omega, by go_num, by rw [← HD9.out], by rw [← HWQ.out]; exact drew_add _ _ _⟩
                  case measure => simp [intOf]; omega
              · obtain rfl : j = m3 := by omega
                have hdk : dv = (k : Int) := by rw [← hdv]; exact HFDK.out
                subst hdk
                have hkk : ((k : Int) != (k : Int)) = false := by simp
                have R3 := Lib.hid (row_drewN R2.out nd)
                have t0' : (w2.drewN nd).cell? ⟨wr.heap.size, 0, none⟩ = some (.int .i64 yi) := t0
                have t1' : (w2.drewN nd).cell? ⟨wr.heap.size, 1, none⟩ = some (.string yc) := t1
                have B3 : Hid (Below Z.heap.size Z (w2.drewN nd)) := below_drewS B2.out _
                obtain ⟨wq, hwq⟩ : ∃ wq, w2.drewN nd = wq := ⟨_, rfl⟩
                rw [hwq] at t0' t1' R3 B3 ⊢
                have hbk : Z.heap.size ≤ wq.heap.size := B3.out.size
                have hll9 : (LL ++ M.flat MM k ++ (MM k).take i).length ≤ 1048576 := by rw [List.length_append, List.length_append, List.length_take]; omega
                clear hwq hdv t0 t1
                go_wp2_with (at_builtin; refine wpList_append_letter _ rfl _ _ rfl Z.heap.size _ _ rfl (R3.out.alloc _) _ yi yc rfl ?_ hll9 (by simp; omega) ?_)
                · simp [go_sem]
                · intro v' w5 hr5 hg5 ho5
                  have K5 : Below Z.heap.size Z w5 := (B3.out.trans ((below_alloc0 wq _).mono hbk)).grown hg5 (by simp; omega) (fun q' e => (R3.out.lt q' e).1)
                  have R5' : Hid (Row w5 Z.heap.size v' (LL ++ M.flat MM k ++ (MM k).take (i + 1))) := by
                    have e : LL ++ M.flat MM k ++ (MM k).take (i + 1) = LL ++ M.flat MM k ++ (MM k).take i ++ [(yi, yc)] := by rw [HTK.out, ← List.append_assoc]
                    unfold Hid
                    rw [e]
                    first | exact hr5 | (simpa [List.append_assoc] using hr5)
                  have B5 := Lib.hid K5
                  clear hr5 hg5 ho5 K5 t0' t1'
                  go_wp2
                  go_roundw
                  case rel => first | exact ⟨i + 1, by omega, by go_num, R5', B5⟩ | ((repeat apply Exists.intro); exact ⟨⟨i + 1, by omega, by go_num, R5', B5⟩, rfl⟩)
                  case measure => simp [intOf]; omega
          · obtain rfl : i = mk := by omega
            have h1 := hal.out
            rw [← HMK.out, List.take_length, List.append_assoc] at h1
            have R9 := Lib.hid h1
            clear h1
            go_wp2
            go_roundw
            case rel => exact ⟨k + 1, by omega, by go_num, R9, hbi⟩
            case measure => simp [intOf]; omega
      · obtain rfl : k = N := by omega
        have B0 := hbw.out
        have R6a := Lib.hid (R6.out.on hbw.out)
        have R5a := Lib.hid (R5.out.on hbw.out)
        have M6a := Lib.hid (HM6.out.on hbw.out)
        have M5a := Lib.hid (HM5.out.on hbw.out)
        have PL9 := Lib.hid (PL.out.on hbw.out)
        obtain ⟨aa, ca, hae, _, la⟩ := hal.out.form
        subst hae
        have HPM : Hid ((LL ++ M.flat MM k).Perm L) := List.perm_append_comm.trans HPF.out
        obtain ⟨AB, hAB⟩ : ∃ R, LL ++ M.flat MM k = R := ⟨_, rfl⟩
        have LA := Lib.hid la
        rw [hAB] at LA HPM ⊢
        clear la hAB hal
        go_wp2_with fail
        refine (soBins_mat wr _ _ p6 p5 k V6 V5 M0 M6a.out M5a.out hn9 HZ0.out).mono ?_
        rintro e w1 ⟨rfl, k1⟩
        have R6b := Lib.hid (R6a.out.on k1)
        have R5b := Lib.hid (R5a.out.on k1)
        have LAb := Lib.hid (LA.out.on k1)
        have PLb := Lib.hid (PL9.out.on k1)
        have B1 := Lib.hid (sstep B0 k1)
        clear k1
        go_wp2_with fail
        refine (soBatch_row w1 _ _ _ _ L0 R6b.out R5b.out hz7).mono ?_
        rintro e w2 ⟨rfl, k2⟩
        have LAc := Lib.hid (LAb.out.on k2)
        have PLc := Lib.hid (PLb.out.on k2)
        have B2 := Lib.hid (sstep B1.out k2)
        clear k2
        go_wp2_with fail
        refine (soAll_perm w2 aa a2 ca c2 AB L LAc.out PLc.out.ls HBL.out HPM.out).mono ?_
        rintro e w3 ⟨rfl, k3⟩
        go_wp2
        go_ret
        exact ⟨rfl, step (step HV6.out B2.out) k3⟩

set_option maxRecDepth 100000 in
theorem lifted (os : Os) (started : os.Started) (H : Type) (enc : TypeId × Value → H) :
    ReturnsInHanded {} Tryd.checked os 3 .any (fun w args => (Rows.fnFaultyPassSpec.pre enc Tryd.prog Tryd.f3 [] false w args ∧ laidMetH Tryd.prog Rows.fnFaultyPassRow.laid w) ∧ sizedMet enc Tryd.prog Tryd.f3 (OpenSpec.ofChange Rows.fnFaultyPassSpec) false w args)
      (Rows.fnFaultyPassSpec.post enc Tryd.prog Tryd.f3 false true false false) := by
  refine returnsInHanded_of_change_and (C := Tryd.checked) (X := fun w _ => laidMetH Tryd.prog Rows.fnFaultyPassRow.laid w) (fun _ _ _ hh h => h.of_heap hh) own started (by kernel_rfl) Tryd.func3
    (ChangeSpec.witness_shaped (enc := enc) (C := Tryd.checked) (os := os) (X := fun w _ => laidMetH Tryd.prog Rows.fnFaultyPassRow.laid w) false (World.laidAll Tryd.prog os Rows.fnFaultyPassRow.laid) #[.slice none 0 0] 8 (World.laidAll_os _ _ _) (World.shaped_of_ZipB (by kernel_rfl) (by kernel_rfl)) (by kernel_rfl) (by kernel_rfl) (by kernel_rfl) (Laid.door_jam os _)) ?_
  intro W base args ds gs before hval0 hW _ _ hL _
  have hval : ∀ (j : Nat) t v, Tryd.f3.params[j]? = some t → args[j]? = some v → Value.okWide Tryd.prog W .any base t v := hval0
  have hW' := hW
  obtain ⟨p, q, hA0, hV, rfl, hfz, hnd⟩ := hW
  have hA : DataW.TrodAll enc Tryd.prog W 0 (fun _ => true) true Tryd.f3.params.toList args.toList ds p := hA0
  rw [Tryd.params3] at hA hval
  obtain ⟨v0, vs0, d0, ds0, p0, q0, hargs, rfl, rfl, h0, r0⟩ := trodAll_cons hA
  obtain ⟨rfl, rfl, rfl⟩ := trodAll_nil r0
  obtain rfl : args = #[v0] := by cases args; simp_all
  have hV' : DataW.TrodVars enc Tryd.prog W (fun _ => true) ["loop.example/sortingoffice/impl.errJam"] gs q := hV
  obtain ⟨J, hvJ, hJ⟩ := Laid.of_jam hL
  obtain ⟨rfl, rfl⟩ := hV'.unique (Laid.jam_read enc hvJ _)
  have g0 := h0
  have lt0 : ∀ x ∈ p0, x.block < W.heap.size := by obtain ⟨m, hm⟩ := g0; exact DataW.trod_lt m _ _ _ hm
  obtain ⟨a0, l0, k0, rfl⟩ := okWide_slice Tryd.underlying22 (hval 0 22 v0 rfl rfl)
  obtain ⟨z0, w0⟩ : ∃ zs, IsRow .u8 W a0 l0 k0 zs := by
    obtain ⟨fuel, hf⟩ := h0
    rcases open_ints Tryd.underlying22 Tryd.underlying5 (by kernel_rfl) hf with ⟨hcs, _⟩ | ⟨x, l, c, zs, hcs, _, hl, hm, hz, _, hcell, hwz⟩
    · simp [Value.cells] at hcs
      obtain ⟨rfl, rfl, rfl⟩ := hcs
      exact ⟨[], .inl ⟨rfl, rfl, rfl, rfl⟩⟩
    · simp [Value.cells] at hcs
      obtain ⟨rfl, rfl, rfl⟩ := hcs
      exact ⟨zs, .inr ⟨_, rfl, hl, hm, by simpa using hz, hcell, hwz⟩⟩
  clear hA0 hval0
  refine (walk W a0 l0 k0 z0 w0 J hJ).mono fun e W' ⟨he, bel⟩ => ?_
  subst he
  exact ⟨_, rfl, _, _, _, [], _, _, hW', trodAll_mk1 (shut_bool Tryd.underlying4 _), (trodAll_cons_mk (Below.trod laidOut (by kernel_rfl) (of_decide_eq_true (by kernel_rfl)) g0 bel lt0) trodAll_mk0), Laid.jam_read enc (Go.Joins.var_stays Laid.jam_named hvJ bel (Nat.le_refl _)) _, bel.frame _, fun h => by cases h⟩

theorem row_holds : Rows.FnFaultyPassSaid :=
  OpenClaim.holds_of_wide 3 Tryd.f3 rfl rfl rfl rfl rfl rfl rfl ⟨rfl, rfl, rfl, rfl, rfl⟩ rfl rfl rfl rfl rfl (by kernel_rfl) Tryd.func3 (by kernel_rfl)
    (of_decide_eq_true (by kernel_rfl)) (by unfold Func.isWrapper; first | (rw [if_pos (by decide +kernel)]; kernel_rfl) | (rw [if_neg (by decide +kernel)]; exact ⟨rfl, rfl⟩))
    (fun os started H enc _ => lifted os started H enc)

theorem proved : Rows.FnFaultyPassCardSaid :=
  Claim7.holds_tied_plain_at .later [] [.sentinel] true Rows.fnFaultyPassCard.stood.harness true
    row_holds (fun _ h => by cases h) (by kernel_rfl) (fun _ h => by cases h) fnFaultyPass_row_tie rfl ⟨rfl, rfl⟩ (by kernel_rfl) rfl
    (fun f fn hf hfn => by
      obtain rfl : f = 3 := Option.some.inj ((show Tryd.prog.funcNamed Rows.fnFaultyPassRow.func = some 3 by kernel_rfl).symm.trans hf) |>.symm
      obtain rfl : fn = Tryd.f3 := (Option.some.inj (Tryd.func3.symm.trans hfn)).symm
      exact ⟨by kernel_rfl, fun j t ht => by
        rw [Tryd.params3] at ht
        have hm : t ∈ [22] := by simpa using Array.mem_of_getElem? ht
        have hall : ([22].all fun u => !Tryd.prog.wantsStandIn u) = true := by kernel_rfl
        exact (show Tryd.prog.wantsStandIn t = false by simpa using List.all_eq_true.1 hall t hm)⟩)
    (by kernel_rfl)
#print axioms proved
end Go.Proofs.YtnaghfppeejaoaaDoor.fnFaultyPass
