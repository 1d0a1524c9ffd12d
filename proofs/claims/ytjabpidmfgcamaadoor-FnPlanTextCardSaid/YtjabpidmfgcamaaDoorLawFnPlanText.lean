/-
  For every two slices of bytes, laws.FnPlanText returns true. No condition.
-/
import Derived.Test.YtjabpidmfgcamaaDoorCards
import Derived.Test.YtjabpidmfgcamaaDoorDrawPt
import Derived.Test.YtjabpidmfgcamaaDoorPlnP
import Derived.Test.YtjabpidmfgcamaaDoorMgP2
import Derived.Test.YtjabpidmfgcamaaDoorShaped
import Derived.Lay
import Derived.Test.YtjabpidmfgcamaaDoorLaidPT
import Derived.Test.YtjabpidmfgcamaaDoorVars
import Derived.Test.YtjabpidmfgcamaaDoorTie
import Derived.LaidMore
import Derived.Stop.Joined
import Derived.SevenTiedAt
import Derived.BigQuiet
import Derived.WalkKit
import Derived.ProofKit
import Derived.OpenShut
import Derived.ShutString
import Derived.ChangeOld
import Derived.Below
import Derived.Handy
import Derived.Lib.Hide
namespace Go.Proofs.YtjabpidmfgcamaaDoor.fnPlanText
open Go.ChangeShapes Go.WideShapes Go.ChangeAt Go.RowKit
open Go.ChangeMaps (open_string shut_string)
open Go.PlainAid (bt get_bt bt_nonneg bt_le)
set_option linter.unusedVariables false

theorem own : ownKnob Tryd.prog.godebug = none := by kernel_rfl
theorem laidOut : laidOutB Tryd.prog = true := by kernel_rfl

set_option maxHeartbeats 40000000 in
set_option maxRecDepth 100000 in
theorem walk (w : World) (a0 : Option Addr) (l0 k0 : Nat) (z0 : List Int) (w0 : IsRow .u8 w a0 l0 k0 z0) (a1 : Option Addr) (l1 k1 : Nat) (z1 : List Int) (w1 : IsRow .u8 w a1 l1 k1 z1) (hL : Laid.nums w) :
    Calls Tryd.prog 3 #[.slice a0 l0 k0, .slice a1 l1 k1] w fun e w' => e = .returned (.bool true) ∧ Below w.heap.size w w' := by
  have HP := Lib.hid hL.pow
  have HT := Lib.hid hL.max
  have HE := Lib.hid hL.err
  clear hL
  by_cases hl : 1048576 < l0
  · go_enter Tryd.func3, Tryd.ntmps3
    go_wp2
    go_ret
    exact ⟨rfl, Below.refl _ _⟩
  by_cases hl' : 1048576 < l1
  · go_enter Tryd.func3, Tryd.ntmps3
    go_wp2
    go_ret
    exact ⟨rfl, Below.refl _ _⟩
  have HW1 := Lib.hid w1
  clear w1
  go_enter Tryd.func3, Tryd.ntmps3
  go_wp2_with fail
  refine (DrawFormatPlan_any a0 l0 k0 z0 w w0).mono ?_
  rintro e u ⟨b, p, a, c, L, B, rfl, hb, hp, rw1, hn, sm, hB, bl⟩
  have FI := Lib.hid (sm.fits (by omega))
  have ba := below_alloc0 u (.cells #[.int .i64 b, .int .i64 p, .slice a L.length c] 25)
  have LT := Lib.hid (rw1.strs'.on ba)
  have X := Lib.hid (tri_made u (.int .i64 b) (.int .i64 p) (.slice a L.length c) 25)
  have BL := Lib.hid (step bl ba)
  obtain ⟨v0, hv0⟩ : ∃ v0, u.alloc (.cells #[.int .i64 b, .int .i64 p, .slice a L.length c] 25) = v0 := ⟨_, rfl⟩
  rw [hv0] at LT X BL
  have HV0 := Lib.hid hv0
  have hn2 : L.length ≤ 1048576 := by omega
  clear bl rw1 sm w0 ba hv0 hB
  obtain ⟨T, hTT⟩ : ∃ T, M.planText b p L.length (sC L) = T := ⟨_, rfl⟩
  have HTT := Lib.hid hTT
  have CF : Hid (∀ W, Below w.heap.size w W → Strs W a L.length (sC L) → Calls Tryd.prog 5 #[.agg #[.int .i64 b, .int .i64 p, .slice a L.length c]] W fun e w' => e = .returned (.string T) ∧ Below W.heap.size W w') := fun W hb h => by
    have := impl_FormatPlan W b p a L.length c (sC L) (PowT.below HP.out hb) h FI.out hn2
    rw [hTT] at this
    exact this
  have CFS : Hid (∀ W, Strs W a L.length (sC L) → Calls Tryd.prog 6 #[.agg #[.int .i64 b, .int .i64 p, .slice a L.length c]] W fun e w' => e = .returned (.string T) ∧ Below W.heap.size W w') := fun W h => by
    have := spec_FormatPlan W b p a L.length c (sC L) h FI.out hn2
    rw [hTT] at this
    exact this
  have CV := Lib.hid (fun W h => impl_PlanValid W b p a L.length c (sC L) h FI.out hn2)
  clear hTT
  cases hb1 : M.plan b p L.length (sC L)
  · have hT0 : T = ⟨#[]⟩ := by rw [← HTT.out]; unfold M.planText; rw [hb1]; rfl
    subst hT0
    rw [hb1] at CV
    clear hb1
    obtain ⟨⟨d00, d01, d02⟩, g00, g01, g02⟩ := X.out
    have lx0 := X.out.lt
    go_wp2_with fail
    rw [HV0.out]
    refine (CF.out _ BL.out LT.out).mono ?_
    rintro e v1 ⟨rfl, k1⟩
    clear d00 d01 d02 g00 g01 g02 lx0
    replace BL := Lib.hid (step BL.out k1)
    replace LT := Lib.hid (LT.out.on k1)
    replace X := Lib.hid (X.out.on k1)
    clear k1
    obtain ⟨⟨d00, d01, d02⟩, g00, g01, g02⟩ := X.out
    have lx0 := X.out.lt
    go_wp2_with fail
    refine (CFS.out _ LT.out).mono ?_
    rintro e v2 ⟨rfl, k2⟩
    clear d00 d01 d02 g00 g01 g02 lx0
    replace BL := Lib.hid (step BL.out k2)
    replace LT := Lib.hid (LT.out.on k2)
    replace X := Lib.hid (X.out.on k2)
    clear k2
    obtain ⟨⟨d00, d01, d02⟩, g00, g01, g02⟩ := X.out
    have lx0 := X.out.lt
    go_wp2_with fail
    refine (CV.out _ LT.out).mono ?_
    rintro e v3 ⟨rfl, k3⟩
    clear d00 d01 d02 g00 g01 g02 lx0
    replace BL := Lib.hid (step BL.out k3)
    replace LT := Lib.hid (LT.out.on k3)
    replace X := Lib.hid (X.out.on k3)
    clear k3
    go_wp2_with fail
    refine (DrawParsePlan_any a1 l1 k1 z1 _ (HW1.out.past BL.out)).mono ?_
    rintro e vd ⟨s, rfl, hs, kd⟩
    replace BL := Lib.hid (step BL.out kd)
    clear kd LT X
    have hs2 : s.size ≤ 1048576 := by omega
    obtain ⟨ok2, b2, p2, L2, hI2⟩ := planIs_ex s
    have CI2 : Hid (∀ W, Below w.heap.size w W → Calls Tryd.prog 8 #[.string s] W (planPOut W ok2 b2 p2 L2)) := fun W hb => impl_ParsePlan s W (PowT.below HP.out hb) (MaxL.below HT.out hb) (ErrT.below HE.out hb) hs2 ok2 b2 p2 L2 hI2
    have CS2 : Hid (∀ W, Calls Tryd.prog 11 #[.string s] W (planPOut W ok2 b2 p2 L2)) := fun W => spec_ParsePlan s W hs2 ok2 b2 p2 L2 hI2
    have hl2 : L2.length ≤ 1048576 := by have := planIs_len hI2; omega
    have HI2 := Lib.hid hI2
    clear hI2
    go_wp2_with fail
    refine (CI2.out _ BL.out).mono ?_
    rintro e v4 ⟨a5, c5, rfl, r5, k4⟩
    have l5 := r5.strs'
    replace BL := Lib.hid (step BL.out k4)
    have LG := Lib.hid l5
    clear k4
    clear l5 r5
    have ba4 := below_alloc0 v4 (.cells #[.int .i64 b2, .int .i64 p2, .slice a5 L2.length c5] 25)
    have G := Lib.hid (tri_made v4 (.int .i64 b2) (.int .i64 p2) (.slice a5 L2.length c5) 25)
    replace BL := Lib.hid (step BL.out ba4)
    replace LG := Lib.hid (LG.out.on ba4)
    obtain ⟨u4, hu4⟩ : ∃ u4, v4.alloc (.cells #[.int .i64 b2, .int .i64 p2, .slice a5 L2.length c5] 25) = u4 := ⟨_, rfl⟩
    rw [hu4] at G BL LG
    have HU4 := Lib.hid hu4
    clear hu4 ba4
    go_wp2_with fail
    rw [HU4.out]
    refine (CS2.out _).mono ?_
    rintro e v5 ⟨a6, c6, rfl, r6, k5⟩
    have l6 := r6.strs'
    replace BL := Lib.hid (step BL.out k5)
    replace LG := Lib.hid (LG.out.on k5)
    replace G := Lib.hid (G.out.on k5)
    have LH := Lib.hid l6
    clear k5
    clear l6 r6
    have GO := G
    have ba5 := below_alloc0 v5 (.cells #[.int .i64 b2, .int .i64 p2, .slice a6 L2.length c6] 25)
    have H := Lib.hid (tri_made v5 (.int .i64 b2) (.int .i64 p2) (.slice a6 L2.length c6) 25)
    replace BL := Lib.hid (step BL.out ba5)
    replace LG := Lib.hid (LG.out.on ba5)
    replace G := Lib.hid (G.out.on ba5)
    replace LH := Lib.hid (LH.out.on ba5)
    obtain ⟨u5, hu5⟩ : ∃ u5, v5.alloc (.cells #[.int .i64 b2, .int .i64 p2, .slice a6 L2.length c6] 25) = u5 := ⟨_, rfl⟩
    rw [hu5] at H BL LG G LH
    have HU5 := Lib.hid hu5
    clear hu5 ba5
    cases ok2
    · obtain ⟨⟨d00, d01, d02⟩, g00, g01, g02⟩ := GO.out
      have lx0 := GO.out.lt
      go_wp2_with fail
      rw [HU5.out]
      refine (soPlans_same _ b2 p2 _ _ _ _ _ _ LG.out LH.out hl2).mono ?_
      rintro e v6 ⟨rfl, k6⟩
      clear d00 d01 d02 g00 g01 g02 lx0
      replace BL := Lib.hid (step BL.out k6)
      replace LG := Lib.hid (LG.out.on k6)
      replace G := Lib.hid (G.out.on k6)
      replace LH := Lib.hid (LH.out.on k6)
      replace H := Lib.hid (H.out.on k6)
      clear k6
      obtain ⟨⟨d00, d01, d02⟩, g00, g01, g02⟩ := G.out
      have lx0 := G.out.lt
      go_wp2
      go_ret
      exact ⟨rfl, BL.out⟩
    · have hof : PlanOf s b2 p2 L2 := by
        rcases HI2.out with ⟨_, h⟩ | ⟨h, _⟩
        · exact h
        · cases h
      have HF2 : Hid (SFits L2.length (sC L2)) := fun i hi => by
        have := (M.code_yes ((M.diffTo_iff _ _).1 (M.plan_yes hof.1).2 i hi).1).2
        unfold maxLen; omega
      have HX2 := Lib.hid hof.2
      have hss : (s.toList == s.toList) = true := by simp
      clear hof
      obtain ⟨⟨d00, d01, d02⟩, g00, g01, g02⟩ := GO.out
      have lx0 := GO.out.lt
      go_wp2_with fail
      rw [HU5.out]
      refine (soPlans_same _ b2 p2 _ _ _ _ _ _ LG.out LH.out hl2).mono ?_
      rintro e v6 ⟨rfl, k6⟩
      clear d00 d01 d02 g00 g01 g02 lx0
      replace BL := Lib.hid (step BL.out k6)
      replace LG := Lib.hid (LG.out.on k6)
      replace G := Lib.hid (G.out.on k6)
      replace LH := Lib.hid (LH.out.on k6)
      replace H := Lib.hid (H.out.on k6)
      clear k6
      obtain ⟨⟨d00, d01, d02⟩, g00, g01, g02⟩ := G.out
      have lx0 := G.out.lt
      go_wp2_with fail
      refine (impl_FormatPlan _ b2 p2 _ _ _ _ (PowT.below HP.out BL.out) LG.out HF2.out hl2).mono ?_
      rw [HX2.out]
      rintro e v7 ⟨rfl, k7⟩
      clear d00 d01 d02 g00 g01 g02 lx0
      replace BL := Lib.hid (step BL.out k7)
      replace LG := Lib.hid (LG.out.on k7)
      replace G := Lib.hid (G.out.on k7)
      replace LH := Lib.hid (LH.out.on k7)
      replace H := Lib.hid (H.out.on k7)
      clear k7
      go_wp2
      go_ret
      exact ⟨rfl, BL.out⟩
  · have hsz := plan_text_size hb1
    rw [HTT.out] at hsz
    have hof : PlanIs T true b p L := Or.inl ⟨rfl, hb1, HTT.out⟩
    rw [hb1] at CV
    have CI : Hid (∀ W, Below w.heap.size w W → Calls Tryd.prog 8 #[.string T] W (planPOut W true b p L)) := fun W hb => impl_ParsePlan T W (PowT.below HP.out hb) (MaxL.below HT.out hb) (ErrT.below HE.out hb) (by omega) true b p L hof
    have ht1 : ¬ T.toList = [] := text_some T (by omega)
    have ht2 : (T.toList == []) = false := by rw [beq_eq_false_iff_ne]; exact ht1
    have ht3 : (T.toList != []) = true := by rw [bne_iff_ne]; exact ht1
    have ht4 : T.toList.isEmpty = false := by rw [List.isEmpty_eq_false_iff]; exact ht1
    have ht5 : (T.toList == T.toList) = true := by simp
    have ht6 : (T.toList != T.toList) = false := by simp
    clear hb1 hof
    obtain ⟨⟨d00, d01, d02⟩, g00, g01, g02⟩ := X.out
    have lx0 := X.out.lt
    go_wp2_with fail
    rw [HV0.out]
    refine (CF.out _ BL.out LT.out).mono ?_
    rintro e v1 ⟨rfl, k1⟩
    clear d00 d01 d02 g00 g01 g02 lx0
    replace BL := Lib.hid (step BL.out k1)
    replace LT := Lib.hid (LT.out.on k1)
    replace X := Lib.hid (X.out.on k1)
    clear k1
    obtain ⟨⟨d00, d01, d02⟩, g00, g01, g02⟩ := X.out
    have lx0 := X.out.lt
    go_wp2_with fail
    refine (CFS.out _ LT.out).mono ?_
    rintro e v2 ⟨rfl, k2⟩
    clear d00 d01 d02 g00 g01 g02 lx0
    replace BL := Lib.hid (step BL.out k2)
    replace LT := Lib.hid (LT.out.on k2)
    replace X := Lib.hid (X.out.on k2)
    clear k2
    obtain ⟨⟨d00, d01, d02⟩, g00, g01, g02⟩ := X.out
    have lx0 := X.out.lt
    go_wp2_with fail
    refine (CV.out _ LT.out).mono ?_
    rintro e v3 ⟨rfl, k3⟩
    clear d00 d01 d02 g00 g01 g02 lx0
    replace BL := Lib.hid (step BL.out k3)
    replace LT := Lib.hid (LT.out.on k3)
    replace X := Lib.hid (X.out.on k3)
    clear k3
    go_wp2_with fail
    refine (CI.out _ BL.out).mono ?_
    rintro e v4 ⟨a4, c4, rfl, r4, k4⟩
    have l4 := r4.strs'
    replace BL := Lib.hid (step BL.out k4)
    replace LT := Lib.hid (LT.out.on k4)
    replace X := Lib.hid (X.out.on k4)
    have LB := Lib.hid l4
    clear k4
    clear l4 r4
    have XO := X
    have ba4 := below_alloc0 v4 (.cells #[.int .i64 b, .int .i64 p, .slice a4 L.length c4] 25)
    have Y := Lib.hid (tri_made v4 (.int .i64 b) (.int .i64 p) (.slice a4 L.length c4) 25)
    replace BL := Lib.hid (step BL.out ba4)
    replace LT := Lib.hid (LT.out.on ba4)
    replace X := Lib.hid (X.out.on ba4)
    replace LB := Lib.hid (LB.out.on ba4)
    obtain ⟨u4, hu4⟩ : ∃ u4, v4.alloc (.cells #[.int .i64 b, .int .i64 p, .slice a4 L.length c4] 25) = u4 := ⟨_, rfl⟩
    rw [hu4] at Y BL LT X LB
    have HU4 := Lib.hid hu4
    clear hu4 ba4
    obtain ⟨⟨d00, d01, d02⟩, g00, g01, g02⟩ := XO.out
    have lx0 := XO.out.lt
    go_wp2_with fail
    rw [HU4.out]
    refine (soPlans_same _ b p _ _ _ _ _ _ LB.out LT.out hn2).mono ?_
    rintro e v5 ⟨rfl, k5⟩
    clear d00 d01 d02 g00 g01 g02 lx0
    replace BL := Lib.hid (step BL.out k5)
    replace LT := Lib.hid (LT.out.on k5)
    replace X := Lib.hid (X.out.on k5)
    replace LB := Lib.hid (LB.out.on k5)
    replace Y := Lib.hid (Y.out.on k5)
    clear k5
    clear LB Y XO
    go_wp2_with fail
    refine (DrawParsePlan_any a1 l1 k1 z1 _ (HW1.out.past BL.out)).mono ?_
    rintro e vd ⟨s, rfl, hs, kd⟩
    replace BL := Lib.hid (step BL.out kd)
    clear kd LT X
    have hs2 : s.size ≤ 1048576 := by omega
    obtain ⟨ok2, b2, p2, L2, hI2⟩ := planIs_ex s
    have CI2 : Hid (∀ W, Below w.heap.size w W → Calls Tryd.prog 8 #[.string s] W (planPOut W ok2 b2 p2 L2)) := fun W hb => impl_ParsePlan s W (PowT.below HP.out hb) (MaxL.below HT.out hb) (ErrT.below HE.out hb) hs2 ok2 b2 p2 L2 hI2
    have CS2 : Hid (∀ W, Calls Tryd.prog 11 #[.string s] W (planPOut W ok2 b2 p2 L2)) := fun W => spec_ParsePlan s W hs2 ok2 b2 p2 L2 hI2
    have hl2 : L2.length ≤ 1048576 := by have := planIs_len hI2; omega
    have HI2 := Lib.hid hI2
    clear hI2
    go_wp2_with fail
    refine (CI2.out _ BL.out).mono ?_
    rintro e v6 ⟨a5, c5, rfl, r5, k6⟩
    have l5 := r5.strs'
    replace BL := Lib.hid (step BL.out k6)
    have LG := Lib.hid l5
    clear k6
    clear l5 r5
    have ba6 := below_alloc0 v6 (.cells #[.int .i64 b2, .int .i64 p2, .slice a5 L2.length c5] 25)
    have G := Lib.hid (tri_made v6 (.int .i64 b2) (.int .i64 p2) (.slice a5 L2.length c5) 25)
    replace BL := Lib.hid (step BL.out ba6)
    replace LG := Lib.hid (LG.out.on ba6)
    obtain ⟨u6, hu6⟩ : ∃ u6, v6.alloc (.cells #[.int .i64 b2, .int .i64 p2, .slice a5 L2.length c5] 25) = u6 := ⟨_, rfl⟩
    rw [hu6] at G BL LG
    have HU6 := Lib.hid hu6
    clear hu6 ba6
    go_wp2_with fail
    rw [HU6.out]
    refine (CS2.out _).mono ?_
    rintro e v7 ⟨a6, c6, rfl, r6, k7⟩
    have l6 := r6.strs'
    replace BL := Lib.hid (step BL.out k7)
    replace LG := Lib.hid (LG.out.on k7)
    replace G := Lib.hid (G.out.on k7)
    have LH := Lib.hid l6
    clear k7
    clear l6 r6
    have GO := G
    have ba7 := below_alloc0 v7 (.cells #[.int .i64 b2, .int .i64 p2, .slice a6 L2.length c6] 25)
    have H := Lib.hid (tri_made v7 (.int .i64 b2) (.int .i64 p2) (.slice a6 L2.length c6) 25)
    replace BL := Lib.hid (step BL.out ba7)
    replace LG := Lib.hid (LG.out.on ba7)
    replace G := Lib.hid (G.out.on ba7)
    replace LH := Lib.hid (LH.out.on ba7)
    obtain ⟨u7, hu7⟩ : ∃ u7, v7.alloc (.cells #[.int .i64 b2, .int .i64 p2, .slice a6 L2.length c6] 25) = u7 := ⟨_, rfl⟩
    rw [hu7] at H BL LG G LH
    have HU7 := Lib.hid hu7
    clear hu7 ba7
    cases ok2
    · obtain ⟨⟨d00, d01, d02⟩, g00, g01, g02⟩ := GO.out
      have lx0 := GO.out.lt
      go_wp2_with fail
      rw [HU7.out]
      refine (soPlans_same _ b2 p2 _ _ _ _ _ _ LG.out LH.out hl2).mono ?_
      rintro e v8 ⟨rfl, k8⟩
      clear d00 d01 d02 g00 g01 g02 lx0
      replace BL := Lib.hid (step BL.out k8)
      replace LG := Lib.hid (LG.out.on k8)
      replace G := Lib.hid (G.out.on k8)
      replace LH := Lib.hid (LH.out.on k8)
      replace H := Lib.hid (H.out.on k8)
      clear k8
      obtain ⟨⟨d00, d01, d02⟩, g00, g01, g02⟩ := G.out
      have lx0 := G.out.lt
      go_wp2
      go_ret
      exact ⟨rfl, BL.out⟩
    · have hof : PlanOf s b2 p2 L2 := by
        rcases HI2.out with ⟨_, h⟩ | ⟨h, _⟩
        · exact h
        · cases h
      have HF2 : Hid (SFits L2.length (sC L2)) := fun i hi => by
        have := (M.code_yes ((M.diffTo_iff _ _).1 (M.plan_yes hof.1).2 i hi).1).2
        unfold maxLen; omega
      have HX2 := Lib.hid hof.2
      have hss : (s.toList == s.toList) = true := by simp
      clear hof
      obtain ⟨⟨d00, d01, d02⟩, g00, g01, g02⟩ := GO.out
      have lx0 := GO.out.lt
      go_wp2_with fail
      rw [HU7.out]
      refine (soPlans_same _ b2 p2 _ _ _ _ _ _ LG.out LH.out hl2).mono ?_
      rintro e v8 ⟨rfl, k8⟩
      clear d00 d01 d02 g00 g01 g02 lx0
      replace BL := Lib.hid (step BL.out k8)
      replace LG := Lib.hid (LG.out.on k8)
      replace G := Lib.hid (G.out.on k8)
      replace LH := Lib.hid (LH.out.on k8)
      replace H := Lib.hid (H.out.on k8)
      clear k8
      obtain ⟨⟨d00, d01, d02⟩, g00, g01, g02⟩ := G.out
      have lx0 := G.out.lt
      go_wp2_with fail
      refine (impl_FormatPlan _ b2 p2 _ _ _ _ (PowT.below HP.out BL.out) LG.out HF2.out hl2).mono ?_
      rw [HX2.out]
      rintro e v9 ⟨rfl, k9⟩
      clear d00 d01 d02 g00 g01 g02 lx0
      replace BL := Lib.hid (step BL.out k9)
      replace LG := Lib.hid (LG.out.on k9)
      replace G := Lib.hid (G.out.on k9)
      replace LH := Lib.hid (LH.out.on k9)
      replace H := Lib.hid (H.out.on k9)
      clear k9
      go_wp2
      go_ret
      exact ⟨rfl, BL.out⟩

set_option maxRecDepth 100000 in
theorem lifted (os : Os) (started : os.Started) (H : Type) (enc : TypeId × Value → H) :
    ReturnsInHanded {} Tryd.checked os 3 .any (fun w args => (Rows.fnPlanTextSpec.pre enc Tryd.prog Tryd.f3 [] false w args ∧ laidMetH Tryd.prog Rows.fnPlanTextRow.laid w) ∧ sizedMet enc Tryd.prog Tryd.f3 (OpenSpec.ofChange Rows.fnPlanTextSpec) false w args)
      (Rows.fnPlanTextSpec.post enc Tryd.prog Tryd.f3 false true false false) := by
  refine returns_listed (C := Tryd.checked) (X := fun w _ => laidMetH Tryd.prog Rows.fnPlanTextRow.laid w) (fun _ _ _ hh h => h.of_heap hh) own started (by kernel_rfl) Tryd.func3
    (ChangeSpec.witness_shaped (enc := enc) (C := Tryd.checked) (os := os) (X := fun w _ => laidMetH Tryd.prog Rows.fnPlanTextRow.laid w) false (World.laidAll Tryd.prog os Rows.fnPlanTextRow.laid) #[.slice none 0 0, .slice none 0 0] 8 (World.laidAll_os _ _ _) (World.shaped_of_ZipB (by kernel_rfl) (by kernel_rfl)) (by kernel_rfl) (by kernel_rfl) (by kernel_rfl) (Laid.door_nums os _)) ?_
  intro W base args ds gs before hval0 hW hL hsh
  have hval : ∀ (j : Nat) t v, Tryd.f3.params[j]? = some t → args[j]? = some v → Value.okWide Tryd.prog W .any base t v := hval0
  have hW' := hW
  obtain ⟨p, q, hA0, hV, rfl, hfz, hnd⟩ := hW
  have hA : DataW.TrodAll enc Tryd.prog W 0 (fun _ => true) true Tryd.f3.params.toList args.toList ds p := hA0
  rw [Tryd.params3] at hA hval
  obtain ⟨v0, vs0, d0, ds0, p0, q0, hargs, rfl, rfl, h0, r0⟩ := trodAll_cons hA
  obtain ⟨v1, vs1, d1, ds1, p1, q1, rfl, rfl, rfl, h1, r1⟩ := trodAll_cons r0
  obtain ⟨rfl, rfl, rfl⟩ := trodAll_nil r1
  obtain rfl : args = #[v0, v1] := by cases args; simp_all
  obtain ⟨rfl, rfl⟩ := trodVars_none hV
  have g0 := h0
  have lt0 : ∀ x ∈ p0, x.block < W.heap.size := by obtain ⟨m, hm⟩ := g0; exact DataW.trod_lt m _ _ _ hm
  have g1 := h1
  have lt1 : ∀ x ∈ p1, x.block < W.heap.size := by obtain ⟨m, hm⟩ := g1; exact DataW.trod_lt m _ _ _ hm
  obtain ⟨a0, l0, k0, rfl⟩ := okWide_slice Tryd.underlying22 (hval 0 22 v0 rfl rfl)
  obtain ⟨z0, w0⟩ : ∃ zs, IsRow .u8 W a0 l0 k0 zs := by
    obtain ⟨fuel, hf⟩ := h0
    rcases open_ints Tryd.underlying22 Tryd.underlying5 (by kernel_rfl) hf with ⟨hcs, _⟩ | ⟨x, l, c, zs, hcs, _, hl, hm, hz, _, hcell, hwz⟩
    · simp [Value.cells] at hcs
      obtain ⟨rfl, rfl, rfl⟩ := hcs
      exact ⟨[], .inl ⟨rfl, rfl, rfl, rfl⟩⟩
    · simp [Value.cells] at hcs
      obtain ⟨rfl, rfl, rfl⟩ := hcs
      exact ⟨zs, .inr ⟨_, rfl, hl, hm, by simpa using hz, hcell, hwz⟩⟩
  obtain ⟨a1, l1, k1, rfl⟩ := okWide_slice Tryd.underlying22 (hval 1 22 v1 rfl rfl)
  obtain ⟨z1, w1⟩ : ∃ zs, IsRow .u8 W a1 l1 k1 zs := by
    obtain ⟨fuel, hf⟩ := h1
    rcases open_ints Tryd.underlying22 Tryd.underlying5 (by kernel_rfl) hf with ⟨hcs, _⟩ | ⟨x, l, c, zs, hcs, _, hl, hm, hz, _, hcell, hwz⟩
    · simp [Value.cells] at hcs
      obtain ⟨rfl, rfl, rfl⟩ := hcs
      exact ⟨[], .inl ⟨rfl, rfl, rfl, rfl⟩⟩
    · simp [Value.cells] at hcs
      obtain ⟨rfl, rfl, rfl⟩ := hcs
      exact ⟨zs, .inr ⟨_, rfl, hl, hm, by simpa using hz, hcell, hwz⟩⟩
  clear hA0 hval0
  refine (walk W a0 l0 k0 z0 w0 a1 l1 k1 z1 w1 (Laid.of_nums hL hsh)).mono fun e W' ⟨he, bel⟩ => ?_
  subst he
  exact ⟨_, rfl, _, _, _, [], _, [], hW', trodAll_mk1 (shut_bool Tryd.underlying4 _), (trodAll_cons_mk (Below.trod laidOut (by kernel_rfl) (of_decide_eq_true (by kernel_rfl)) g0 bel lt0) (trodAll_cons_mk (Below.trod laidOut (by kernel_rfl) (of_decide_eq_true (by kernel_rfl)) g1 bel lt1) trodAll_mk0)), rfl, bel.frame _, fun h => by cases h⟩

theorem row_holds : Rows.FnPlanTextSaid :=
  OpenClaim.holds_of_wide 3 Tryd.f3 rfl rfl rfl rfl rfl rfl rfl ⟨rfl, rfl, rfl, rfl, rfl⟩ rfl rfl rfl rfl rfl (by kernel_rfl) Tryd.func3 (by kernel_rfl)
    (of_decide_eq_true (by kernel_rfl)) (by unfold Func.isWrapper; first | (rw [if_pos (by decide +kernel)]; kernel_rfl) | (rw [if_neg (by decide +kernel)]; exact ⟨rfl, rfl⟩))
    (fun os started H enc _ => lifted os started H enc)

theorem proved : Rows.FnPlanTextCardSaid :=
  Claim7.holds_tied_plain_at .later [] [.data, .data, .data, .data, .sentinel, .sentinel, .pinned] true Rows.fnPlanTextCard.stood.harness true
    row_holds (fun _ h => by cases h) (by kernel_rfl) (fun _ h => by cases h) fnPlanText_row_tie rfl ⟨rfl, rfl⟩ (by kernel_rfl) rfl
    (fun f fn hf hfn => by
      obtain rfl : f = 3 := Option.some.inj ((show Tryd.prog.funcNamed Rows.fnPlanTextRow.func = some 3 by kernel_rfl).symm.trans hf) |>.symm
      obtain rfl : fn = Tryd.f3 := (Option.some.inj (Tryd.func3.symm.trans hfn)).symm
      exact ⟨by kernel_rfl, fun j t ht => by
        rw [Tryd.params3] at ht
        have hm : t ∈ [22, 22] := by simpa using Array.mem_of_getElem? ht
        have hall : ([22, 22].all fun u => !Tryd.prog.wantsStandIn u) = true := by kernel_rfl
        exact (show Tryd.prog.wantsStandIn t = false by simpa using List.all_eq_true.1 hall t hm)⟩)
    (by kernel_rfl)
#print axioms proved
end Go.Proofs.YtjabpidmfgcamaaDoor.fnPlanText
