/-
  For every slice of bytes, laws.FnPlanBin returns true.
-/
import Derived.Test.YtajinjfpgoieaaaRows
import Derived.Test.YtajinjfpgoieaaaDrawPB
import Derived.Test.YtajinjfpgoieaaaRank
import Derived.WalkKit
import Derived.ProofKit
import Derived.OpenShut
import Derived.ShutString
import Derived.ChangeOld
import Derived.Below
import Derived.Handy
import Derived.Lib.Hide
namespace Go.Proofs.Ytajinjfpgoieaaa.fnPlanBin
open Go.ChangeShapes Go.WideShapes Go.ChangeAt Go.RowKit
open Go.ChangeMaps (open_string shut_string)
open Go.PlainAid (bt get_bt bt_nonneg bt_le)
set_option linter.unusedVariables false

theorem own : ownKnob Try.prog.godebug = none := by kernel_rfl
theorem laidOut : laidOutB Try.prog = true := by kernel_rfl

set_option maxHeartbeats 4000000 in
set_option maxRecDepth 100000 in
theorem walk (w : World) (a0 : Option Addr) (l0 k0 : Nat) (z0 : List Int) (w0 : IsRow .u8 w a0 l0 k0 z0) :
    Calls Try.prog 12 #[.slice a0 l0 k0] w fun e w' => e = .returned (.bool true) ∧ Below w.heap.size w w' := by
  by_cases hl : 1048576 < l0
  · go_enter Try.func12, Try.ntmps12
    go_wp2
    go_ret
    exact ⟨rfl, Below.refl _ _⟩
  go_enter Try.func12, Try.ntmps12
  go_wp2_with fail
  refine (DrawPlanBin_any a0 l0 k0 z0 w w0).mono ?_
  rintro e w1 ⟨b, p, a, n, c, S, s, x, rfl, hb, hp, hst, hsf, hn, hs, hx, bl⟩
  have BL := Lib.hid bl
  have HS := Lib.hid hst
  have HF := Lib.hid hsf
  clear bl hst hsf
  have hn2 : n ≤ 1048576 := by omega
  replace BL := Lib.hid (sstep BL.out (below_alloc0 w1 (.cells #[.int .i64 b, .int .i64 p, .slice a n c] 27)))
  replace HS := Lib.hid (HS.out.on (below_alloc0 w1 (.cells #[.int .i64 b, .int .i64 p, .slice a n c] 27)))
  have BX := Lib.hid (tri_made w1 (.int .i64 b) (.int .i64 p) (.slice a n c) 27)
  obtain ⟨⟨d0BX, d1BX, d2BX⟩, g0BX, g1BX, g2BX⟩ := BX.out
  have ltBX := BX.out.lt
  have hrb := M.rank_bd S s n
  cases hpl : M.plan b p n S
  · have HR := Lib.hid (M.planRank_no (c := s) hpl)
    have HB := Lib.hid (M.planBin_no (c := s) (x := x) (Or.inl hpl))
    have HP := Lib.hid hpl
    clear hpl
    go_wp2_with fail
    refine (impl_PlanBin _ b p a n c S HS.out HF.out hn2 s x).mono ?_
    rw [HB.out]
    rintro e w2 ⟨rfl, k2⟩
    clear d0BX d1BX d2BX g0BX g1BX g2BX ltBX
    replace BL := Lib.hid (sstep BL.out k2)
    replace HS := Lib.hid (HS.out.on k2)
    replace BX := Lib.hid (BX.out.on k2)
    clear k2
    obtain ⟨⟨d0BX, d1BX, d2BX⟩, g0BX, g1BX, g2BX⟩ := BX.out
    have ltBX := BX.out.lt
    go_wp2_with fail
    refine (spec_PlanBin _ b p a n c S HS.out HF.out hn2 s x).mono ?_
    rw [HB.out]
    rintro e w3 ⟨rfl, k3⟩
    clear d0BX d1BX d2BX g0BX g1BX g2BX ltBX
    replace BL := Lib.hid (sstep BL.out k3)
    replace HS := Lib.hid (HS.out.on k3)
    replace BX := Lib.hid (BX.out.on k3)
    clear k3
    obtain ⟨⟨d0BX, d1BX, d2BX⟩, g0BX, g1BX, g2BX⟩ := BX.out
    have ltBX := BX.out.lt
    go_wp2_with fail
    refine (impl_PlanRank _ b p a n c S HS.out HF.out hn2 s).mono ?_
    rw [HR.out]
    rintro e w4 ⟨rfl, k4⟩
    clear d0BX d1BX d2BX g0BX g1BX g2BX ltBX
    replace BL := Lib.hid (sstep BL.out k4)
    replace HS := Lib.hid (HS.out.on k4)
    replace BX := Lib.hid (BX.out.on k4)
    clear k4
    obtain ⟨⟨d0BX, d1BX, d2BX⟩, g0BX, g1BX, g2BX⟩ := BX.out
    have ltBX := BX.out.lt
    go_wp2_with fail
    refine (impl_PlanValid _ b p a n c S HS.out HF.out hn2).mono ?_
    rw [HP.out]
    rintro e w5 ⟨rfl, k5⟩
    clear d0BX d1BX d2BX g0BX g1BX g2BX ltBX
    replace BL := Lib.hid (sstep BL.out k5)
    replace HS := Lib.hid (HS.out.on k5)
    replace BX := Lib.hid (BX.out.on k5)
    clear k5
    obtain ⟨⟨d0BX, d1BX, d2BX⟩, g0BX, g1BX, g2BX⟩ := BX.out
    have ltBX := BX.out.lt
    go_wp2
    go_ret
    exact ⟨rfl, BL.out⟩
  · obtain ⟨p1, p2, p3, p4⟩ := M.plan_shape hpl
    have HP := Lib.hid hpl
    by_cases x0 : x < 0
    · have HB := Lib.hid (M.planBin_no (b := b) (p := p) (n := n) (S := S) (c := s) (x := x) (Or.inr (Or.inl x0)))
      clear hpl hrb
      go_wp2_with fail
      refine (impl_PlanBin _ b p a n c S HS.out HF.out hn2 s x).mono ?_
      rw [HB.out]
      rintro e w2 ⟨rfl, k2⟩
      clear d0BX d1BX d2BX g0BX g1BX g2BX ltBX
      replace BL := Lib.hid (sstep BL.out k2)
      replace HS := Lib.hid (HS.out.on k2)
      replace BX := Lib.hid (BX.out.on k2)
      clear k2
      obtain ⟨⟨d0BX, d1BX, d2BX⟩, g0BX, g1BX, g2BX⟩ := BX.out
      have ltBX := BX.out.lt
      go_wp2_with fail
      refine (spec_PlanBin _ b p a n c S HS.out HF.out hn2 s x).mono ?_
      rw [HB.out]
      rintro e w3 ⟨rfl, k3⟩
      clear d0BX d1BX d2BX g0BX g1BX g2BX ltBX
      replace BL := Lib.hid (sstep BL.out k3)
      replace HS := Lib.hid (HS.out.on k3)
      replace BX := Lib.hid (BX.out.on k3)
      clear k3
      obtain ⟨⟨d0BX, d1BX, d2BX⟩, g0BX, g1BX, g2BX⟩ := BX.out
      have ltBX := BX.out.lt
      go_wp2_with fail
      refine (impl_PlanRank _ b p a n c S HS.out HF.out hn2 s).mono ?_
      rintro e w4 ⟨rfl, k4⟩
      clear d0BX d1BX d2BX g0BX g1BX g2BX ltBX
      replace BL := Lib.hid (sstep BL.out k4)
      replace HS := Lib.hid (HS.out.on k4)
      replace BX := Lib.hid (BX.out.on k4)
      clear k4
      obtain ⟨⟨d0BX, d1BX, d2BX⟩, g0BX, g1BX, g2BX⟩ := BX.out
      have ltBX := BX.out.lt
      go_wp2_with fail
      refine (impl_PlanValid _ b p a n c S HS.out HF.out hn2).mono ?_
      rw [HP.out]
      rintro e w5 ⟨rfl, k5⟩
      clear d0BX d1BX d2BX g0BX g1BX g2BX ltBX
      replace BL := Lib.hid (sstep BL.out k5)
      replace HS := Lib.hid (HS.out.on k5)
      replace BX := Lib.hid (BX.out.on k5)
      clear k5
      obtain ⟨⟨d0BX, d1BX, d2BX⟩, g0BX, g1BX, g2BX⟩ := BX.out
      have ltBX := BX.out.lt
      go_wp2
      go_ret
      exact ⟨rfl, BL.out⟩
    by_cases x1 : p ≤ x
    · have HB := Lib.hid (M.planBin_no (b := b) (p := p) (n := n) (S := S) (c := s) (x := x) (Or.inr (Or.inr (Or.inl x1))))
      clear hpl hrb
      go_wp2_with fail
      refine (impl_PlanBin _ b p a n c S HS.out HF.out hn2 s x).mono ?_
      rw [HB.out]
      rintro e w2 ⟨rfl, k2⟩
      clear d0BX d1BX d2BX g0BX g1BX g2BX ltBX
      replace BL := Lib.hid (sstep BL.out k2)
      replace HS := Lib.hid (HS.out.on k2)
      replace BX := Lib.hid (BX.out.on k2)
      clear k2
      obtain ⟨⟨d0BX, d1BX, d2BX⟩, g0BX, g1BX, g2BX⟩ := BX.out
      have ltBX := BX.out.lt
      go_wp2_with fail
      refine (spec_PlanBin _ b p a n c S HS.out HF.out hn2 s x).mono ?_
      rw [HB.out]
      rintro e w3 ⟨rfl, k3⟩
      clear d0BX d1BX d2BX g0BX g1BX g2BX ltBX
      replace BL := Lib.hid (sstep BL.out k3)
      replace HS := Lib.hid (HS.out.on k3)
      replace BX := Lib.hid (BX.out.on k3)
      clear k3
      obtain ⟨⟨d0BX, d1BX, d2BX⟩, g0BX, g1BX, g2BX⟩ := BX.out
      have ltBX := BX.out.lt
      go_wp2_with fail
      refine (impl_PlanRank _ b p a n c S HS.out HF.out hn2 s).mono ?_
      rintro e w4 ⟨rfl, k4⟩
      clear d0BX d1BX d2BX g0BX g1BX g2BX ltBX
      replace BL := Lib.hid (sstep BL.out k4)
      replace HS := Lib.hid (HS.out.on k4)
      replace BX := Lib.hid (BX.out.on k4)
      clear k4
      obtain ⟨⟨d0BX, d1BX, d2BX⟩, g0BX, g1BX, g2BX⟩ := BX.out
      have ltBX := BX.out.lt
      go_wp2_with fail
      refine (impl_PlanValid _ b p a n c S HS.out HF.out hn2).mono ?_
      rw [HP.out]
      rintro e w5 ⟨rfl, k5⟩
      clear d0BX d1BX d2BX g0BX g1BX g2BX ltBX
      replace BL := Lib.hid (sstep BL.out k5)
      replace HS := Lib.hid (HS.out.on k5)
      replace BX := Lib.hid (BX.out.on k5)
      clear k5
      obtain ⟨⟨d0BX, d1BX, d2BX⟩, g0BX, g1BX, g2BX⟩ := BX.out
      have ltBX := BX.out.lt
      go_wp2
      go_ret
      exact ⟨rfl, BL.out⟩
    obtain ⟨j, rfl⟩ := Int.eq_ofNat_of_zero_le (show 0 ≤ x by omega)
    have hj : j ≤ 3 := by omega
    have hpos := M.pw_pos b j p1 p2 (by omega)
    have hpbd := M.pw_bd b j (by omega) p2 (by omega)
    by_cases hr0 : M.rankTo S s n < 0
    · have HB := Lib.hid (M.planBin_no (b := b) (p := p) (n := n) (S := S) (c := s) (x := (j : Int)) (Or.inr (Or.inr (Or.inr hr0))))
      have hr1 : M.rankTo S s n = -1 := by omega
      have HR := Lib.hid ((M.planRank_yes (c := s) hpl).trans hr1)
      clear hpl hr0 hr1 hrb
      by_cases j0 : j = 0
      · have hj1 : (j : Int) ≤ 0 := by omega
        clear j0
        go_wp2_with fail
        refine (impl_PlanBin _ b p a n c S HS.out HF.out hn2 s j).mono ?_
        rw [HB.out]
        rintro e w2 ⟨rfl, k2⟩
        clear d0BX d1BX d2BX g0BX g1BX g2BX ltBX
        replace BL := Lib.hid (sstep BL.out k2)
        replace HS := Lib.hid (HS.out.on k2)
        replace BX := Lib.hid (BX.out.on k2)
        clear k2
        obtain ⟨⟨d0BX, d1BX, d2BX⟩, g0BX, g1BX, g2BX⟩ := BX.out
        have ltBX := BX.out.lt
        go_wp2_with fail
        refine (spec_PlanBin _ b p a n c S HS.out HF.out hn2 s j).mono ?_
        rw [HB.out]
        rintro e w3 ⟨rfl, k3⟩
        clear d0BX d1BX d2BX g0BX g1BX g2BX ltBX
        replace BL := Lib.hid (sstep BL.out k3)
        replace HS := Lib.hid (HS.out.on k3)
        replace BX := Lib.hid (BX.out.on k3)
        clear k3
        obtain ⟨⟨d0BX, d1BX, d2BX⟩, g0BX, g1BX, g2BX⟩ := BX.out
        have ltBX := BX.out.lt
        go_wp2_with fail
        refine (impl_PlanRank _ b p a n c S HS.out HF.out hn2 s).mono ?_
        rw [HR.out]
        rintro e w4 ⟨rfl, k4⟩
        clear d0BX d1BX d2BX g0BX g1BX g2BX ltBX
        replace BL := Lib.hid (sstep BL.out k4)
        replace HS := Lib.hid (HS.out.on k4)
        replace BX := Lib.hid (BX.out.on k4)
        clear k4
        obtain ⟨⟨d0BX, d1BX, d2BX⟩, g0BX, g1BX, g2BX⟩ := BX.out
        have ltBX := BX.out.lt
        go_wp2_with fail
        refine (impl_PlanValid _ b p a n c S HS.out HF.out hn2).mono ?_
        rw [HP.out]
        rintro e w5 ⟨rfl, k5⟩
        clear d0BX d1BX d2BX g0BX g1BX g2BX ltBX
        replace BL := Lib.hid (sstep BL.out k5)
        replace HS := Lib.hid (HS.out.on k5)
        replace BX := Lib.hid (BX.out.on k5)
        clear k5
        obtain ⟨⟨d0BX, d1BX, d2BX⟩, g0BX, g1BX, g2BX⟩ := BX.out
        have ltBX := BX.out.lt
        go_wp2
        go_quiet (fail)
        go_wp2
        go_ret
        exact ⟨rfl, below_drewN0 BL.out _⟩
      · have HC := Lib.hid (M.cap_yes (b := b) (p := (j : Int)) (decide_eq_true (by omega)))
        rw [Int.toNat_natCast] at HC
        go_wp2_with fail
        refine (impl_PlanBin _ b p a n c S HS.out HF.out hn2 s j).mono ?_
        rw [HB.out]
        rintro e w2 ⟨rfl, k2⟩
        clear d0BX d1BX d2BX g0BX g1BX g2BX ltBX
        replace BL := Lib.hid (sstep BL.out k2)
        replace HS := Lib.hid (HS.out.on k2)
        replace BX := Lib.hid (BX.out.on k2)
        clear k2
        obtain ⟨⟨d0BX, d1BX, d2BX⟩, g0BX, g1BX, g2BX⟩ := BX.out
        have ltBX := BX.out.lt
        go_wp2_with fail
        refine (spec_PlanBin _ b p a n c S HS.out HF.out hn2 s j).mono ?_
        rw [HB.out]
        rintro e w3 ⟨rfl, k3⟩
        clear d0BX d1BX d2BX g0BX g1BX g2BX ltBX
        replace BL := Lib.hid (sstep BL.out k3)
        replace HS := Lib.hid (HS.out.on k3)
        replace BX := Lib.hid (BX.out.on k3)
        clear k3
        obtain ⟨⟨d0BX, d1BX, d2BX⟩, g0BX, g1BX, g2BX⟩ := BX.out
        have ltBX := BX.out.lt
        go_wp2_with fail
        refine (impl_PlanRank _ b p a n c S HS.out HF.out hn2 s).mono ?_
        rw [HR.out]
        rintro e w4 ⟨rfl, k4⟩
        clear d0BX d1BX d2BX g0BX g1BX g2BX ltBX
        replace BL := Lib.hid (sstep BL.out k4)
        replace HS := Lib.hid (HS.out.on k4)
        replace BX := Lib.hid (BX.out.on k4)
        clear k4
        obtain ⟨⟨d0BX, d1BX, d2BX⟩, g0BX, g1BX, g2BX⟩ := BX.out
        have ltBX := BX.out.lt
        go_wp2_with fail
        refine (impl_PlanValid _ b p a n c S HS.out HF.out hn2).mono ?_
        rw [HP.out]
        rintro e w5 ⟨rfl, k5⟩
        clear d0BX d1BX d2BX g0BX g1BX g2BX ltBX
        replace BL := Lib.hid (sstep BL.out k5)
        replace HS := Lib.hid (HS.out.on k5)
        replace BX := Lib.hid (BX.out.on k5)
        clear k5
        obtain ⟨⟨d0BX, d1BX, d2BX⟩, g0BX, g1BX, g2BX⟩ := BX.out
        have ltBX := BX.out.lt
        go_wp2_with fail
        refine (impl_CapacityOf b j _).mono ?_
        rw [HC.out]
        rintro e w6 ⟨rfl, rfl⟩
        go_wp2
        go_quiet (fail)
        go_wp2
        go_ret
        exact ⟨rfl, below_drewN0 BL.out _⟩
    · have HR0 := M.planRank_yes (c := s) hpl
      obtain ⟨r, hr⟩ := Int.eq_ofNat_of_zero_le (show 0 ≤ M.rankTo S s n by omega)
      have HB0 := M.planBin_yes (c := s) (x := (j : Int)) hpl (by omega) (by omega) (by omega)
      rw [hr] at HR0 hrb HB0
      rw [Int.toNat_natCast] at HB0
      have hdb := M.rankBin_bd (b := b) (r := (r : Int)) (k := j) p1
      have hdt := M.rankBin_t b (r : Int) j p1 p2 (by omega) (by omega)
      obtain ⟨d, hd⟩ : ∃ d, M.rankBin b (r : Int) j = d := ⟨_, rfl⟩
      rw [hd] at HB0 hdb hdt
      obtain ⟨db0, db1⟩ := hdb
      have r00 : (0 : Int) ≤ (r : Int) := by omega
      have r01 : (r : Int) ≤ 1000 := by omega
      have pp1 := hpbd.2
      have hbz : ¬ b = 0 := by omega
      have hw1 : IntKind.i64.wrap (r : Int) = (r : Int) := IntWalk.i64_in _ (by omega)
      have HR := Lib.hid HR0
      have HB := Lib.hid HB0
      have eb : (b == 0) = false := by rw [beq_eq_false_iff_ne]; omega
      clear hpl hr0 HR0 HB0 hr hd
      by_cases j0 : j = 0
      · have hj1 : (j : Int) ≤ 0 := by omega
        rw [j0, M.pw_zero, Int.ediv_one] at hdt
        clear j0
        have HDT := Lib.hid hdt
        clear hdt
        go_wp2_with fail
        refine (impl_PlanBin _ b p a n c S HS.out HF.out hn2 s j).mono ?_
        rw [HB.out]
        rintro e w2 ⟨rfl, k2⟩
        clear d0BX d1BX d2BX g0BX g1BX g2BX ltBX
        replace BL := Lib.hid (sstep BL.out k2)
        replace HS := Lib.hid (HS.out.on k2)
        replace BX := Lib.hid (BX.out.on k2)
        clear k2
        obtain ⟨⟨d0BX, d1BX, d2BX⟩, g0BX, g1BX, g2BX⟩ := BX.out
        have ltBX := BX.out.lt
        go_wp2_with fail
        refine (spec_PlanBin _ b p a n c S HS.out HF.out hn2 s j).mono ?_
        rw [HB.out]
        rintro e w3 ⟨rfl, k3⟩
        clear d0BX d1BX d2BX g0BX g1BX g2BX ltBX
        replace BL := Lib.hid (sstep BL.out k3)
        replace HS := Lib.hid (HS.out.on k3)
        replace BX := Lib.hid (BX.out.on k3)
        clear k3
        obtain ⟨⟨d0BX, d1BX, d2BX⟩, g0BX, g1BX, g2BX⟩ := BX.out
        have ltBX := BX.out.lt
        go_wp2_with fail
        refine (impl_PlanRank _ b p a n c S HS.out HF.out hn2 s).mono ?_
        rw [HR.out]
        rintro e w4 ⟨rfl, k4⟩
        clear d0BX d1BX d2BX g0BX g1BX g2BX ltBX
        replace BL := Lib.hid (sstep BL.out k4)
        replace HS := Lib.hid (HS.out.on k4)
        replace BX := Lib.hid (BX.out.on k4)
        clear k4
        obtain ⟨⟨d0BX, d1BX, d2BX⟩, g0BX, g1BX, g2BX⟩ := BX.out
        have ltBX := BX.out.lt
        go_wp2_with fail
        refine (impl_PlanValid _ b p a n c S HS.out HF.out hn2).mono ?_
        rw [HP.out]
        rintro e w5 ⟨rfl, k5⟩
        clear d0BX d1BX d2BX g0BX g1BX g2BX ltBX
        replace BL := Lib.hid (sstep BL.out k5)
        replace HS := Lib.hid (HS.out.on k5)
        replace BX := Lib.hid (BX.out.on k5)
        clear k5
        obtain ⟨⟨d0BX, d1BX, d2BX⟩, g0BX, g1BX, g2BX⟩ := BX.out
        have ltBX := BX.out.lt
        go_wp2
        go_quiet (fail)
        go_wp2
        go_ret
        exact ⟨ret_bool (by rw [HDT.out]; simp), below_drewN0 BL.out _⟩
      · have HC := Lib.hid (M.cap_yes (b := b) (p := (j : Int)) (decide_eq_true (by omega)))
        rw [Int.toNat_natCast] at HC
        obtain ⟨P, hP⟩ : ∃ P, M.pw b j = P := ⟨_, rfl⟩
        rw [hP] at HC hdt hpos hpbd
        have eP : (P == 0) = false := by rw [beq_eq_false_iff_ne]; omega
        have hPz : ¬ P = 0 := by omega
        have hle := Int.ediv_le_self P (show (0 : Int) ≤ (r : Int) by omega)
        have hge : 0 ≤ (r : Int) / P := Int.ediv_nonneg (by omega) (by omega)
        have hw2 : IntKind.i64.wrap ((r : Int).tdiv P) = (r : Int) / P := by rw [Int.tdiv_eq_ediv_of_nonneg r00]; exact IntWalk.i64_in _ (by omega)
        have hw3 : IntKind.i64.wrap ((r : Int) / P) = (r : Int) / P := IntWalk.i64_in _ (by omega)
        have HDT := Lib.hid hdt
        clear hP hdt hle hge
        go_wp2_with fail
        refine (impl_PlanBin _ b p a n c S HS.out HF.out hn2 s j).mono ?_
        rw [HB.out]
        rintro e w2 ⟨rfl, k2⟩
        clear d0BX d1BX d2BX g0BX g1BX g2BX ltBX
        replace BL := Lib.hid (sstep BL.out k2)
        replace HS := Lib.hid (HS.out.on k2)
        replace BX := Lib.hid (BX.out.on k2)
        clear k2
        obtain ⟨⟨d0BX, d1BX, d2BX⟩, g0BX, g1BX, g2BX⟩ := BX.out
        have ltBX := BX.out.lt
        go_wp2_with fail
        refine (spec_PlanBin _ b p a n c S HS.out HF.out hn2 s j).mono ?_
        rw [HB.out]
        rintro e w3 ⟨rfl, k3⟩
        clear d0BX d1BX d2BX g0BX g1BX g2BX ltBX
        replace BL := Lib.hid (sstep BL.out k3)
        replace HS := Lib.hid (HS.out.on k3)
        replace BX := Lib.hid (BX.out.on k3)
        clear k3
        obtain ⟨⟨d0BX, d1BX, d2BX⟩, g0BX, g1BX, g2BX⟩ := BX.out
        have ltBX := BX.out.lt
        go_wp2_with fail
        refine (impl_PlanRank _ b p a n c S HS.out HF.out hn2 s).mono ?_
        rw [HR.out]
        rintro e w4 ⟨rfl, k4⟩
        clear d0BX d1BX d2BX g0BX g1BX g2BX ltBX
        replace BL := Lib.hid (sstep BL.out k4)
        replace HS := Lib.hid (HS.out.on k4)
        replace BX := Lib.hid (BX.out.on k4)
        clear k4
        obtain ⟨⟨d0BX, d1BX, d2BX⟩, g0BX, g1BX, g2BX⟩ := BX.out
        have ltBX := BX.out.lt
        go_wp2_with fail
        refine (impl_PlanValid _ b p a n c S HS.out HF.out hn2).mono ?_
        rw [HP.out]
        rintro e w5 ⟨rfl, k5⟩
        clear d0BX d1BX d2BX g0BX g1BX g2BX ltBX
        replace BL := Lib.hid (sstep BL.out k5)
        replace HS := Lib.hid (HS.out.on k5)
        replace BX := Lib.hid (BX.out.on k5)
        clear k5
        obtain ⟨⟨d0BX, d1BX, d2BX⟩, g0BX, g1BX, g2BX⟩ := BX.out
        have ltBX := BX.out.lt
        go_wp2_with fail
        refine (impl_CapacityOf b j _).mono ?_
        rw [HC.out]
        rintro e w6 ⟨rfl, rfl⟩
        go_wp2
        go_quiet (fail)
        go_wp2
        go_ret
        exact ⟨ret_bool (by rw [HDT.out]; simp), below_drewN0 BL.out _⟩

set_option maxRecDepth 100000 in
theorem lifted (os : Os) (started : os.Started) (H : Type) (enc : TypeId × Value → H) :
    ReturnsInHanded {} Try.checked os 12 .any (Rows.fnPlanBinSpec.pre6 enc Try.prog Try.f12 Rows.fnPlanBinRow.domain false) (Rows.fnPlanBinSpec.post enc Try.prog Try.f12 false true false false) := by
  refine returnsInHanded_of_change (C := Try.checked) own started (by kernel_rfl) Try.func12
    (ChangeSpec.witness6 (enc := enc) (C := Try.checked) false ⟨#[], #[.slice none 0 0], []⟩ 8 (by kernel_rfl) (by kernel_rfl) (by kernel_rfl) (by kernel_rfl)) ?_
  intro W base args ds gs before hval0 hW hcnd _
  have hval : ∀ (j : Nat) t v, Try.f12.params[j]? = some t → args[j]? = some v → Value.okWide Try.prog W .any base t v := hval0
  have hW' := hW
  obtain ⟨p, q, hA0, hV, rfl, hfz, hnd⟩ := hW
  have hA : DataW.TrodAll enc Try.prog W 0 (fun _ => true) true Try.f12.params.toList args.toList ds p := hA0
  rw [Try.params12] at hA hval
  obtain ⟨v0, vs0, d0, ds0, p0, q0, hargs, rfl, rfl, h0, r0⟩ := trodAll_cons hA
  obtain ⟨rfl, rfl, rfl⟩ := trodAll_nil r0
  obtain rfl : args = #[v0] := by cases args; simp_all
  obtain ⟨rfl, rfl⟩ := trodVars_none hV
  have g0 := h0
  have lt0 : ∀ x ∈ p0, x.block < W.heap.size := by obtain ⟨m, hm⟩ := g0; exact DataW.trod_lt m _ _ _ hm
  obtain ⟨a0, l0, k0, rfl⟩ := okWide_slice Try.underlying50 (hval 0 50 v0 rfl rfl)
  obtain ⟨z0, w0⟩ : ∃ zs, IsRow .u8 W a0 l0 k0 zs := by
    obtain ⟨fuel, hf⟩ := h0
    rcases open_ints Try.underlying50 Try.underlying5 (by kernel_rfl) hf with ⟨hcs, _⟩ | ⟨x, l, c, zs, hcs, _, hl, hm, hz, _, hcell, hwz⟩
    · simp [Value.cells] at hcs
      obtain ⟨rfl, rfl, rfl⟩ := hcs
      exact ⟨[], .inl ⟨rfl, rfl, rfl, rfl⟩⟩
    · simp [Value.cells] at hcs
      obtain ⟨rfl, rfl, rfl⟩ := hcs
      exact ⟨zs, .inr ⟨_, rfl, hl, hm, by simpa using hz, hcell, hwz⟩⟩
  clear hA0 hval0
  refine (walk W a0 l0 k0 z0 w0).mono fun e W' ⟨he, bel⟩ => ?_
  subst he
  exact ⟨_, rfl, _, _, _, [], _, [], hW', trodAll_mk1 (shut_bool Try.underlying4 _), (trodAll_cons_mk (Below.trod laidOut (by kernel_rfl) (of_decide_eq_true (by kernel_rfl)) g0 bel lt0) trodAll_mk0), rfl, bel.frame _, fun h => by cases h⟩

theorem proved : Rows.FnPlanBinSaid :=
  OpenClaim.holds_of_wide 12 Try.f12 rfl rfl rfl rfl rfl rfl rfl ⟨rfl, rfl, rfl, rfl, rfl⟩ rfl rfl rfl rfl rfl (by kernel_rfl) Try.func12 (by kernel_rfl)
    (of_decide_eq_true (by kernel_rfl)) (by unfold Func.isWrapper; first | (rw [if_pos (by decide +kernel)]; kernel_rfl) | (rw [if_neg (by decide +kernel)]; exact ⟨rfl, rfl⟩))
    (fun os started H enc _ => lifted os started H enc)
#print axioms proved
end Go.Proofs.Ytajinjfpgoieaaa.fnPlanBin
