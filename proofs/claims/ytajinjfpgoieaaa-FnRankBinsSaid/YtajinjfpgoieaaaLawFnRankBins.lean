/-
  For every slice of bytes, laws.FnRankBins returns true.
-/
import Derived.Test.YtajinjfpgoieaaaRows
import Derived.Test.YtajinjfpgoieaaaDrawR
import Derived.Test.YtajinjfpgoieaaaRank
import Derived.WalkKit
import Derived.ProofKit
import Derived.OpenShut
import Derived.ShutString
import Derived.ChangeOld
import Derived.Below
import Derived.Handy
import Derived.Lib.Hide
namespace Go.Proofs.Ytajinjfpgoieaaa.fnRankBins
open Go.ChangeShapes Go.WideShapes Go.ChangeAt Go.RowKit
open Go.ChangeMaps (open_string shut_string)
open Go.PlainAid (bt get_bt bt_nonneg bt_le)
set_option linter.unusedVariables false

theorem own : ownKnob Try.prog.godebug = none := by kernel_rfl
theorem laidOut : laidOutB Try.prog = true := by kernel_rfl

set_option maxHeartbeats 4000000 in
set_option maxRecDepth 100000 in
theorem walk (w : World) (a0 : Option Addr) (l0 k0 : Nat) (z0 : List Int) (w0 : IsRow .u8 w a0 l0 k0 z0) :
    Calls Try.prog 11 #[.slice a0 l0 k0] w fun e w' => e = .returned (.bool true) ∧ Below w.heap.size w w' := by
  by_cases hl : 1048576 < l0
  · go_enter Try.func11, Try.ntmps11
    go_wp2
    go_ret
    exact ⟨rfl, Below.refl _ _⟩
  go_enter Try.func11, Try.ntmps11
  go_wp2_with fail
  refine (DrawPlanRank_any a0 l0 k0 z0 w w0).mono ?_
  rintro e w1 ⟨b, p, a, n, c, S, s, rfl, hb, hp, hst, hsf, hn, hs, _, bl⟩
  have BL := Lib.hid bl
  have HS := Lib.hid hst
  have HF := Lib.hid hsf
  clear bl hst hsf
  have hn2 : n ≤ 1048576 := by omega
  replace BL := Lib.hid (sstep BL.out (below_alloc0 w1 (.cells #[.int .i64 b, .int .i64 p, .slice a n c] 27)))
  replace HS := Lib.hid (HS.out.on (below_alloc0 w1 (.cells #[.int .i64 b, .int .i64 p, .slice a n c] 27)))
  have BX := Lib.hid (tri_made w1 (.int .i64 b) (.int .i64 p) (.slice a n c) 27)
  obtain ⟨⟨d0BX, d1BX, d2BX⟩, g0BX, g1BX, g2BX⟩ := BX.out
  have ltBX := BX.out.lt
  have hrb := M.rank_bd S s n
  cases hpl : M.plan b p n S
  · have HR := Lib.hid (M.planRank_no (c := s) hpl)
    clear hpl
    go_wp2_with fail
    refine (impl_PlanRank _ b p a n c S HS.out HF.out hn2 s).mono ?_
    rw [HR.out]
    rintro e w2 ⟨rfl, k2⟩
    clear d0BX d1BX d2BX g0BX g1BX g2BX ltBX
    replace BL := Lib.hid (sstep BL.out k2)
    replace HS := Lib.hid (HS.out.on k2)
    replace BX := Lib.hid (BX.out.on k2)
    clear k2
    obtain ⟨⟨d0BX, d1BX, d2BX⟩, g0BX, g1BX, g2BX⟩ := BX.out
    have ltBX := BX.out.lt
    go_wp2_with fail
    refine (spec_PlanRank _ b p a n c S HS.out HF.out hn2 s).mono ?_
    rw [HR.out]
    rintro e w3 ⟨rfl, k3⟩
    clear d0BX d1BX d2BX g0BX g1BX g2BX ltBX
    replace BL := Lib.hid (sstep BL.out k3)
    replace HS := Lib.hid (HS.out.on k3)
    replace BX := Lib.hid (BX.out.on k3)
    clear k3
    obtain ⟨⟨d0BX, d1BX, d2BX⟩, g0BX, g1BX, g2BX⟩ := BX.out
    have ltBX := BX.out.lt
    go_wp2_with fail
    refine (spec_PlanRank _ b p a n c S HS.out HF.out hn2 s).mono ?_
    rw [HR.out]
    rintro e w4 ⟨rfl, k4⟩
    clear d0BX d1BX d2BX g0BX g1BX g2BX ltBX
    replace BL := Lib.hid (sstep BL.out k4)
    replace HS := Lib.hid (HS.out.on k4)
    replace BX := Lib.hid (BX.out.on k4)
    clear k4
    obtain ⟨⟨d0BX, d1BX, d2BX⟩, g0BX, g1BX, g2BX⟩ := BX.out
    have ltBX := BX.out.lt
    go_wp2
    go_ret
    exact ⟨rfl, BL.out⟩
  · by_cases hr0 : M.rankTo S s n < 0
    · have hr1 : M.rankTo S s n = -1 := by omega
      have HR := Lib.hid ((M.planRank_yes (c := s) hpl).trans hr1)
      clear hpl hr0 hr1 hrb
      go_wp2_with fail
      refine (impl_PlanRank _ b p a n c S HS.out HF.out hn2 s).mono ?_
      rw [HR.out]
      rintro e w2 ⟨rfl, k2⟩
      clear d0BX d1BX d2BX g0BX g1BX g2BX ltBX
      replace BL := Lib.hid (sstep BL.out k2)
      replace HS := Lib.hid (HS.out.on k2)
      replace BX := Lib.hid (BX.out.on k2)
      clear k2
      obtain ⟨⟨d0BX, d1BX, d2BX⟩, g0BX, g1BX, g2BX⟩ := BX.out
      have ltBX := BX.out.lt
      go_wp2_with fail
      refine (spec_PlanRank _ b p a n c S HS.out HF.out hn2 s).mono ?_
      rw [HR.out]
      rintro e w3 ⟨rfl, k3⟩
      clear d0BX d1BX d2BX g0BX g1BX g2BX ltBX
      replace BL := Lib.hid (sstep BL.out k3)
      replace HS := Lib.hid (HS.out.on k3)
      replace BX := Lib.hid (BX.out.on k3)
      clear k3
      obtain ⟨⟨d0BX, d1BX, d2BX⟩, g0BX, g1BX, g2BX⟩ := BX.out
      have ltBX := BX.out.lt
      go_wp2_with fail
      refine (spec_PlanRank _ b p a n c S HS.out HF.out hn2 s).mono ?_
      rw [HR.out]
      rintro e w4 ⟨rfl, k4⟩
      clear d0BX d1BX d2BX g0BX g1BX g2BX ltBX
      replace BL := Lib.hid (sstep BL.out k4)
      replace HS := Lib.hid (HS.out.on k4)
      replace BX := Lib.hid (BX.out.on k4)
      clear k4
      obtain ⟨⟨d0BX, d1BX, d2BX⟩, g0BX, g1BX, g2BX⟩ := BX.out
      have ltBX := BX.out.lt
      go_wp2
      go_ret
      exact ⟨rfl, BL.out⟩
    · have HR0 := M.planRank_yes (c := s) hpl
      obtain ⟨r, hr⟩ := Int.eq_ofNat_of_zero_le (show 0 ≤ M.rankTo S s n by omega)
      rw [hr] at HR0 hrb
      have HR := Lib.hid HR0
      have HQ := Lib.hid hr
      have hrn : r < n := by omega
      have hr13 : r ≤ 12 := by omega
      obtain ⟨p1, p2, p3, p4⟩ := M.plan_shape hpl
      have hcap := (M.fits_yes (M.plan_yes hpl).1).2.2.2
      have HP := Lib.hid hpl
      have H0 : Hid ((0 : Int) = (r : Int) / M.pw b (p - 1 + 1).toNat) := by
        unfold Hid
        rw [show p - 1 + 1 = p from by omega]
        exact (Int.ediv_eq_zero_of_lt (by omega) (by omega)).symm
      clear hpl hr0 hr HR0 hcap hrb
      go_wp2_with fail
      refine (impl_PlanRank _ b p a n c S HS.out HF.out hn2 s).mono ?_
      rw [HR.out]
      rintro e w2 ⟨rfl, k2⟩
      clear d0BX d1BX d2BX g0BX g1BX g2BX ltBX
      replace BL := Lib.hid (sstep BL.out k2)
      replace HS := Lib.hid (HS.out.on k2)
      replace BX := Lib.hid (BX.out.on k2)
      clear k2
      obtain ⟨⟨d0BX, d1BX, d2BX⟩, g0BX, g1BX, g2BX⟩ := BX.out
      have ltBX := BX.out.lt
      go_wp2_with fail
      refine (spec_PlanRank _ b p a n c S HS.out HF.out hn2 s).mono ?_
      rw [HR.out]
      rintro e w3 ⟨rfl, k3⟩
      clear d0BX d1BX d2BX g0BX g1BX g2BX ltBX
      replace BL := Lib.hid (sstep BL.out k3)
      replace HS := Lib.hid (HS.out.on k3)
      replace BX := Lib.hid (BX.out.on k3)
      clear k3
      obtain ⟨⟨d0BX, d1BX, d2BX⟩, g0BX, g1BX, g2BX⟩ := BX.out
      have ltBX := BX.out.lt
      go_wp2
      go_loopw [6, 7] (fun u v wr => ∃ x q : Int, -1 ≤ x ∧ x < p ∧ v = .int .i64 x ∧ u = .int .i64 q ∧ 0 ≤ q ∧ q ≤ 13 ∧ Hid (q = (r : Int) / M.pw b (x + 1).toNat) ∧ Hid (Strs wr a n S) ∧ Hid (Tri wr w1.heap.size (.int .i64 b) (.int .i64 p) (.slice a n c)) ∧ Hid (Below w.heap.size w wr)) (fun _ v _ => (intOf v + 1).toNat)
      case atStart => exact ⟨p - 1, 0, by omega, by omega, rfl, rfl, by omega, by omega, H0.out, HS, BX, BL⟩
      case round =>
        obtain ⟨x, q, hx0, hx1, rfl, rfl, q0, q1, hq, hs1, hx, hb1⟩ := hrel
        clear d0BX d1BX d2BX g0BX g1BX g2BX ltBX
        by_cases hx2 : 0 ≤ x
        · obtain ⟨k, rfl⟩ := Int.eq_ofNat_of_zero_le hx2
          have hk : k ≤ 3 := by omega
          have hpb := M.planBin_yes (c := s) (x := (k : Int)) HP.out (by omega) hx1 (by rw [HQ.out]; omega)
          rw [HQ.out, Int.toNat_natCast] at hpb
          have hdb := M.rankBin_bd (b := b) (r := (r : Int)) (k := k) p1
          have hds := M.digit_step b (r : Int) k p1 p2 (by omega)
          have hqe := hq.out
          rw [show ((k : Int) + 1).toNat = k + 1 from by omega] at hqe
          rw [← hqe] at hds
          have hpos := M.pw_pos b k p1 p2 (by omega)
          have hle := Int.ediv_le_self (M.pw b k) (show (0 : Int) ≤ (r : Int) by omega)
          have hge : 0 ≤ (r : Int) / M.pw b k := Int.ediv_nonneg (by omega) (by omega)
          obtain ⟨d, hd⟩ : ∃ d, M.rankBin b (r : Int) k = d := ⟨_, rfl⟩
          rw [hd] at hpb hdb hds
          rw [← hds] at hle hge
          have HPB := Lib.hid hpb
          have HDS := Lib.hid hds
          obtain ⟨db0, db1⟩ := hdb
          obtain ⟨X, hX⟩ : ∃ X, q * b = X := ⟨_, rfl⟩
          rw [hX] at hle hge
          have HX := Lib.hid hX
          have qb0 : 0 ≤ q * b := Int.mul_nonneg q0 (by omega)
          have qb1 : q * b ≤ 1000 := by rw [hX]; omega
          clear hd hpb hds hX hqe
          obtain ⟨⟨d0, d1, d2⟩, g0, g1, g2⟩ := hx.out
          go_wp2_with fail
          refine (impl_PlanBin _ b p a n c S hs1.out HF.out hn2 s k).mono ?_
          rw [HPB.out]
          rintro e wa ⟨rfl, ka⟩
          have hsa := Lib.hid (hs1.out.on ka)
          have hxa := Lib.hid (hx.out.on ka)
          have hba := Lib.hid (sstep hb1.out ka)
          clear d0 d1 d2 g0 g1 g2 ka hs1 hx hb1
          obtain ⟨⟨d0, d1, d2⟩, g0, g1, g2⟩ := hxa.out
          go_wp2_with fail
          refine (spec_PlanBin _ b p a n c S hsa.out HF.out hn2 s k).mono ?_
          rw [HPB.out]
          rintro e wb ⟨rfl, kb⟩
          have hsb := Lib.hid (hsa.out.on kb)
          have hxb := Lib.hid (hxa.out.on kb)
          have hbb := Lib.hid (sstep hba.out kb)
          clear d0 d1 d2 g0 g1 g2 kb hsa hxa hba
          obtain ⟨⟨d0, d1, d2⟩, g0, g1, g2⟩ := hxb.out
          go_wp2
          go_roundw
          case rel => exact ⟨(k : Int) - 1, q * b + d, by omega, by omega, rfl, rfl, by omega, by have := HX.out; omega, (by show _ = _; rw [HDS.out, show ((k : Int) - 1 + 1).toNat = k from by omega]), hsb, hxb, hbb⟩
          case measure => simp [intOf]
        · obtain rfl : x = -1 := by omega
          have hqr : q = (r : Int) := by
            have := hq.out
            rw [show ((-1 : Int) + 1).toNat = 0 from rfl, M.pw_zero, Int.ediv_one] at this
            exact this
          subst hqr
          obtain ⟨⟨d0, d1, d2⟩, g0, g1, g2⟩ := hx.out
          obtain ⟨b2, o2, e2, c2⟩ := hs1.out r hrn
          cases e2
          have hri : (r : Int) < (n : Int) := by omega
          have hra := M.rank_at (S := S) (c := s) (n := n) (by rw [HQ.out]; omega)
          rw [HQ.out, Int.toNat_natCast] at hra
          rw [hra] at c2
          clear hra
          go_wp2
          go_ret
          exact ⟨rfl, hb1.out⟩

set_option maxRecDepth 100000 in
theorem lifted (os : Os) (started : os.Started) (H : Type) (enc : TypeId × Value → H) :
    ReturnsInHanded {} Try.checked os 11 .any (Rows.fnRankBinsSpec.pre6 enc Try.prog Try.f11 Rows.fnRankBinsRow.domain false) (Rows.fnRankBinsSpec.post enc Try.prog Try.f11 false true false false) := by
  refine returnsInHanded_of_change (C := Try.checked) own started (by kernel_rfl) Try.func11
    (ChangeSpec.witness6 (enc := enc) (C := Try.checked) false ⟨#[], #[.slice none 0 0], []⟩ 8 (by kernel_rfl) (by kernel_rfl) (by kernel_rfl) (by kernel_rfl)) ?_
  intro W base args ds gs before hval0 hW hcnd _
  have hval : ∀ (j : Nat) t v, Try.f11.params[j]? = some t → args[j]? = some v → Value.okWide Try.prog W .any base t v := hval0
  have hW' := hW
  obtain ⟨p, q, hA0, hV, rfl, hfz, hnd⟩ := hW
  have hA : DataW.TrodAll enc Try.prog W 0 (fun _ => true) true Try.f11.params.toList args.toList ds p := hA0
  rw [Try.params11] at hA hval
  obtain ⟨v0, vs0, d0, ds0, p0, q0, hargs, rfl, rfl, h0, r0⟩ := trodAll_cons hA
  obtain ⟨rfl, rfl, rfl⟩ := trodAll_nil r0
  obtain rfl : args = #[v0] := by cases args; simp_all
  obtain ⟨rfl, rfl⟩ := trodVars_none hV
  have g0 := h0
  have lt0 : ∀ x ∈ p0, x.block < W.heap.size := by obtain ⟨m, hm⟩ := g0; exact DataW.trod_lt m _ _ _ hm
  obtain ⟨a0, l0, k0, rfl⟩ := okWide_slice Try.underlying50 (hval 0 50 v0 rfl rfl)
  obtain ⟨z0, w0⟩ : ∃ zs, IsRow .u8 W a0 l0 k0 zs := by
    obtain ⟨fuel, hf⟩ := h0
    rcases open_ints Try.underlying50 Try.underlying5 (by kernel_rfl) hf with ⟨hcs, _⟩ | ⟨x, l, c, zs, hcs, _, hl, hm, hz, _, hcell, hwz⟩
    · simp [Value.cells] at hcs
      obtain ⟨rfl, rfl, rfl⟩ := hcs
      exact ⟨[], .inl ⟨rfl, rfl, rfl, rfl⟩⟩
    · simp [Value.cells] at hcs
      obtain ⟨rfl, rfl, rfl⟩ := hcs
      exact ⟨zs, .inr ⟨_, rfl, hl, hm, by simpa using hz, hcell, hwz⟩⟩
  clear hA0 hval0
  refine (walk W a0 l0 k0 z0 w0).mono fun e W' ⟨he, bel⟩ => ?_
  subst he
  exact ⟨_, rfl, _, _, _, [], _, [], hW', trodAll_mk1 (shut_bool Try.underlying4 _), (trodAll_cons_mk (Below.trod laidOut (by kernel_rfl) (of_decide_eq_true (by kernel_rfl)) g0 bel lt0) trodAll_mk0), rfl, bel.frame _, fun h => by cases h⟩

theorem proved : Rows.FnRankBinsSaid :=
  OpenClaim.holds_of_wide 11 Try.f11 rfl rfl rfl rfl rfl rfl rfl ⟨rfl, rfl, rfl, rfl, rfl⟩ rfl rfl rfl rfl rfl (by kernel_rfl) Try.func11 (by kernel_rfl)
    (of_decide_eq_true (by kernel_rfl)) (by unfold Func.isWrapper; first | (rw [if_pos (by decide +kernel)]; kernel_rfl) | (rw [if_neg (by decide +kernel)]; exact ⟨rfl, rfl⟩))
    (fun os started H enc _ => lifted os started H enc)
#print axioms proved
end Go.Proofs.Ytajinjfpgoieaaa.fnRankBins
