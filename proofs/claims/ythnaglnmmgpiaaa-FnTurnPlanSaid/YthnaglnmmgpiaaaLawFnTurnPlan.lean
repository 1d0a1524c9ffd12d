/-
  For every two slices of bytes, laws.FnTurnPlan returns true.
-/
import Derived.Test.YthnaglnmmgpiaaaRows
import Derived.Test.YthnaglnmmgpiaaaDrawVp
import Derived.Test.YthnaglnmmgpiaaaTurnS
import Derived.Test.YthnaglnmmgpiaaaMgN9
import Derived.Test.YthnaglnmmgpiaaaMgN5
import Derived.Test.YthnaglnmmgpiaaaMgN12
import Derived.Test.YthnaglnmmgpiaaaTnM
import Derived.Test.YthnaglnmmgpiaaaMgN10
import Derived.Deep.RegionHeld3
import Derived.Deep.RegionLaw
import Derived.Deep.AppendLies
import Derived.BigQuiet
import Derived.IntWalk
import Derived.WalkKit
import Derived.ProofKit
import Derived.OpenShut
import Derived.ShutString
import Derived.ChangeOld
import Derived.Below
import Derived.Handy
import Derived.Lib.Hide
namespace Go.Proofs.Ythnaglnmmgpiaaa.fnTurnPlan
open Go.ChangeShapes Go.WideShapes Go.ChangeAt Go.RowKit
open Go.ChangeMaps (open_string shut_string)
open Go.PlainAid (bt get_bt bt_nonneg bt_le)
set_option linter.unusedVariables false

theorem own : ownKnob Try.prog.godebug = none := by kernel_rfl
theorem laidOut : laidOutB Try.prog = true := by kernel_rfl

set_option maxHeartbeats 8000000 in
set_option maxRecDepth 100000 in
theorem walk (w : World) (a0 : Option Addr) (l0 k0 : Nat) (z0 : List Int) (w0 : IsRow .u8 w a0 l0 k0 z0) (a1 : Option Addr) (l1 k1 : Nat) (z1 : List Int) (w1 : IsRow .u8 w a1 l1 k1 z1) :
    Calls Try.prog 3 #[.slice a0 l0 k0, .slice a1 l1 k1] w fun e w' => e = .returned (.bool true) ∧ Below w.heap.size w w' := by
  by_cases hl : 1048576 < l0
  · go_enter Try.func3, Try.ntmps3
    go_wp2
    go_ret
    exact ⟨rfl, Below.refl _ _⟩
  by_cases hl' : 1048576 < l1
  · go_enter Try.func3, Try.ntmps3
    go_wp2
    go_ret
    exact ⟨rfl, Below.refl _ _⟩
  go_enter Try.func3, Try.ntmps3
  go_wp2_with fail
  refine (DrawTurnPlan_any a0 l0 k0 z0 w w0).mono ?_
  rintro e u ⟨b, p, a, c, L, B, rfl, hb, hp, rw1, hn, sm, hB, bl⟩
  have FI := Lib.hid (sm.fits (by omega))
  have ba := below_alloc0 u (.cells #[.int .i64 b, .int .i64 p, .slice a L.length c] 25)
  have LT := Lib.hid (rw1.strs'.on ba)
  have X := Lib.hid (tri_made u (.int .i64 b) (.int .i64 p) (.slice a L.length c) 25)
  have BL := Lib.hid (step bl ba)
  obtain ⟨v0, hv0⟩ : ∃ v0, u.alloc (.cells #[.int .i64 b, .int .i64 p, .slice a L.length c] 25) = v0 := ⟨_, rfl⟩
  rw [hv0] at LT X BL
  have HV0 := Lib.hid hv0
  have hn2 : L.length ≤ 1048576 := by omega
  clear bl rw1 sm w0 ba hv0 hB
  have CI := Lib.hid (fun W (h : Strs W a L.length (sC L)) => planSl (impl_TurnPlan W b p a L.length c (sC L) h FI.out hn2))
  have CS := Lib.hid (fun W (h : Strs W a L.length (sC L)) => planSl (spec_TurnPlan W b p a L.length c (sC L) h FI.out hn2))
  have hR := tL_len (M.plan b p L.length (sC L)) L.length (sC L)
  cases hok : M.plan b p L.length (sC L)
  · rw [hok] at CI CS hR
    obtain ⟨R, hRR⟩ : ∃ R, tL false L.length (sC L) = R := ⟨_, rfl⟩
    obtain ⟨b1, hb1⟩ : ∃ b1, tB false b = b1 := ⟨_, rfl⟩
    obtain ⟨p1, hp1⟩ : ∃ p1, tB false p = p1 := ⟨_, rfl⟩
    rw [hRR] at CI CS hR
    rw [hb1, hp1] at CI CS
    have hR9 : R.length ≤ 1048576 := by omega
    clear hok hRR hb1 hp1 hR
    obtain ⟨⟨d00, d01, d02⟩, g00, g01, g02⟩ := X.out
    have lx0 := X.out.lt
    go_wp2_with fail
    rw [HV0.out]
    refine (CI.out _ LT.out).mono ?_
    rintro e v1 ⟨a5, c5, rfl, r5, k1⟩
    have l5 := r5.strs'
    clear d00 d01 d02 g00 g01 g02 lx0
    replace BL := Lib.hid (step BL.out k1)
    replace LT := Lib.hid (LT.out.on k1)
    replace X := Lib.hid (X.out.on k1)
    have LQ := Lib.hid l5
    clear k1
    clear l5 r5
    have XO := X
    have ba1 := below_alloc0 v1 (.cells #[.int .i64 b1, .int .i64 p1, .slice a5 R.length c5] 25)
    have Y := Lib.hid (tri_made v1 (.int .i64 b1) (.int .i64 p1) (.slice a5 R.length c5) 25)
    replace BL := Lib.hid (step BL.out ba1)
    replace LT := Lib.hid (LT.out.on ba1)
    replace X := Lib.hid (X.out.on ba1)
    replace LQ := Lib.hid (LQ.out.on ba1)
    obtain ⟨u1, hu1⟩ : ∃ u1, v1.alloc (.cells #[.int .i64 b1, .int .i64 p1, .slice a5 R.length c5] 25) = u1 := ⟨_, rfl⟩
    rw [hu1] at Y BL LT X LQ
    have HU1 := Lib.hid hu1
    clear hu1 ba1
    obtain ⟨⟨d00, d01, d02⟩, g00, g01, g02⟩ := XO.out
    have lx0 := XO.out.lt
    go_wp2_with fail
    rw [HU1.out]
    refine (CS.out _ LT.out).mono ?_
    rintro e v2 ⟨a6, c6, rfl, r6, k2⟩
    have l6 := r6.strs'
    clear d00 d01 d02 g00 g01 g02 lx0
    replace BL := Lib.hid (step BL.out k2)
    replace LT := Lib.hid (LT.out.on k2)
    replace X := Lib.hid (X.out.on k2)
    replace LQ := Lib.hid (LQ.out.on k2)
    replace Y := Lib.hid (Y.out.on k2)
    have LZ := Lib.hid l6
    clear k2
    clear l6 r6 XO
    have XO := X
    have YO := Y
    have ba2 := below_alloc0 v2 (.cells #[.int .i64 b1, .int .i64 p1, .slice a6 R.length c6] 25)
    have Z := Lib.hid (tri_made v2 (.int .i64 b1) (.int .i64 p1) (.slice a6 R.length c6) 25)
    replace BL := Lib.hid (step BL.out ba2)
    replace LT := Lib.hid (LT.out.on ba2)
    replace X := Lib.hid (X.out.on ba2)
    replace LQ := Lib.hid (LQ.out.on ba2)
    replace Y := Lib.hid (Y.out.on ba2)
    replace LZ := Lib.hid (LZ.out.on ba2)
    obtain ⟨u2, hu2⟩ : ∃ u2, v2.alloc (.cells #[.int .i64 b1, .int .i64 p1, .slice a6 R.length c6] 25) = u2 := ⟨_, rfl⟩
    rw [hu2] at Z BL LT X LQ Y LZ
    have HU2 := Lib.hid hu2
    clear hu2 ba2
    obtain ⟨⟨d00, d01, d02⟩, g00, g01, g02⟩ := YO.out
    have lx0 := YO.out.lt
    go_wp2_with fail
    rw [HU2.out]
    refine (soPlans_same _ b1 p1 _ _ _ _ _ _ LQ.out LZ.out hR9).mono ?_
    rintro e v3 ⟨rfl, k3⟩
    clear d00 d01 d02 g00 g01 g02 lx0
    replace BL := Lib.hid (step BL.out k3)
    replace LT := Lib.hid (LT.out.on k3)
    replace X := Lib.hid (X.out.on k3)
    replace LQ := Lib.hid (LQ.out.on k3)
    replace Y := Lib.hid (Y.out.on k3)
    replace LZ := Lib.hid (LZ.out.on k3)
    replace Z := Lib.hid (Z.out.on k3)
    clear k3
    clear XO YO
    obtain ⟨⟨d00, d01, d02⟩, g00, g01, g02⟩ := Y.out
    have lx0 := Y.out.lt
    obtain ⟨⟨d10, d11, d12⟩, g10, g11, g12⟩ := Z.out
    have lx1 := Z.out.lt
    go_wp2_with fail
    refine (soPlans_same _ b1 p1 _ _ _ _ _ _ LQ.out LZ.out hR9).mono ?_
    rintro e v4 ⟨rfl, k4⟩
    clear d00 d01 d02 g00 g01 g02 lx0
    clear d10 d11 d12 g10 g11 g12 lx1
    replace BL := Lib.hid (step BL.out k4)
    replace LT := Lib.hid (LT.out.on k4)
    replace X := Lib.hid (X.out.on k4)
    replace LQ := Lib.hid (LQ.out.on k4)
    replace Y := Lib.hid (Y.out.on k4)
    replace LZ := Lib.hid (LZ.out.on k4)
    replace Z := Lib.hid (Z.out.on k4)
    clear k4
    go_wp2
    go_ret
    exact ⟨rfl, BL.out⟩
  · have hrev := tL_rev L
    have hplr := plan_rev hok
    have hfy := M.fits_yes (M.plan_yes hok).1
    have hn1 : 1 ≤ L.length := by omega
    have hB0 := turn_batch hok 7 l1
    have hsr := srt_rev (M.plan_yes hok).2 (M.lst turnI (turnC L 7 l1) L.length)
    have hr1 := run_srt3 hok hB0
    have hBr : BatchL (M.lst turnI (turnC L 7 l1) L.length).reverse := hB0.perm (List.reverse_perm _).symm
    have hr2 := run_srt3 hplr hBr
    have hrl : L.reverse.length = L.length := List.length_reverse
    rw [hrl, hsr] at hr2
    have hslen : (srt L.length (sC L) (M.lst turnI (turnC L 7 l1) L.length)).length ≤ 60 := by
      rw [← hr1]; exact (run_len b p L.length (sC L) _ _ _).1
    have FR : Hid (SFits L.length (sC L.reverse)) := fun i hi => by rw [rev_at hi]; exact FI.out _ (by omega)
    have hrr := tL_rev L.reverse
    rw [List.reverse_reverse, hrl] at hrr
    rw [hrl] at hplr
    rw [hok, hrev] at CI CS
    clear hR
    have CB : Hid (∀ W a' c', Strs W a' L.length (sC L.reverse) → Calls Try.prog 7 #[.agg #[.int .i64 b, .int .i64 p, .slice a' L.length c']] W (PlanSl W true b p L)) := fun W a' c' h => by
      have := planSl (impl_TurnPlan W b p a' L.length c' (sC L.reverse) h FR.out hn2)
      rw [hplr, hrr] at this
      exact this
    obtain ⟨TS, hTS⟩ : ∃ TS, sC L.reverse = TS := ⟨_, rfl⟩
    have CI2 : Hid (∀ W, Strs W a L.length (sC L) → Calls Try.prog 7 #[.agg #[.int .i64 b, .int .i64 p, .slice a L.length c]] W fun e w' => ∃ a' c', e = .returned (.tuple #[.agg #[.int .i64 b, .int .i64 p, .slice a' L.length c'], .bool true]) ∧ Strs w' a' L.length TS ∧ Below W.heap.size W w') := fun W h => (CI.out W h).mono fun e w' ⟨a', c', he, hs, hk⟩ => by
      rw [hrl] at he
      have hs2 := hs.strs'
      rw [hrl, hTS] at hs2
      exact ⟨a', c', he, hs2, hk⟩
    have CS2 : Hid (∀ W, Strs W a L.length (sC L) → Calls Try.prog 8 #[.agg #[.int .i64 b, .int .i64 p, .slice a L.length c]] W fun e w' => ∃ a' c', e = .returned (.tuple #[.agg #[.int .i64 b, .int .i64 p, .slice a' L.length c'], .bool true]) ∧ Strs w' a' L.length TS ∧ Below W.heap.size W w') := fun W h => (CS.out W h).mono fun e w' ⟨a', c', he, hs, hk⟩ => by
      rw [hrl] at he
      have hs2 := hs.strs'
      rw [hrl, hTS] at hs2
      exact ⟨a', c', he, hs2, hk⟩
    rw [hTS] at CB FR hr2
    clear CI CS hrev hplr hfy hrr hTS hrl hsr
    have HB0 := Lib.hid hB0
    have HBR := Lib.hid hBr
    have HR1 := Lib.hid hr1
    have HR2 := Lib.hid hr2
    obtain ⟨A, hA⟩ : ∃ A, srt L.length (sC L) (M.lst turnI (turnC L 7 l1) L.length) = A := ⟨_, rfl⟩
    rw [hA] at HR1 HR2 hslen
    obtain ⟨Bl, hBl⟩ : ∃ Bl, M.lst turnI (turnC L 7 l1) L.length = Bl := ⟨_, rfl⟩
    rw [hBl] at HB0 HBR HR1 HR2
    have HBL := Lib.hid hBl
    have hBlen : Bl.length = L.length := by rw [← hBl, lst_len]
    have HBLEN := Lib.hid hBlen
    have hb61 : Bl.length ≤ 61 := by omega
    have hb9 : Bl.length ≤ 1048576 := by omega
    have ha61 : A.length ≤ 61 := by omega
    have har9 : A.reverse.length ≤ 1048576 := by rw [List.length_reverse]; omega
    have CT1 : Hid (∀ W ab cb, Lts W ab Bl.length (nI Bl) (nC Bl) → Calls Try.prog 12 #[.slice ab Bl.length cb] W fun e w' => ∃ a' c', e = .returned (.slice a' Bl.length c') ∧ Lts w' a' Bl.length (nI Bl.reverse) (nC Bl.reverse) ∧ Below W.heap.size W w') := fun W ab cb h => (soTurned_any W ab Bl.length cb _ _ h hb61).mono fun e w' ⟨v, he, hr, hk⟩ => by
      rw [lst_nI] at hr
      obtain ⟨a', c', hv, _, ht⟩ := hr.form
      rw [List.length_reverse] at hv ht
      exact ⟨a', c', by rw [he, hv], ht, hk⟩
    have CR1 : Hid (∀ W a5 c5 a9 c9, Strs W a5 L.length TS → Lts W a9 Bl.length (nI Bl.reverse) (nC Bl.reverse) → Calls Try.prog 11 #[.agg #[.int .i64 b, .int .i64 p, .slice a5 L.length c5], .slice a9 Bl.length c9] W fun e w' => ∃ v, e = .returned v ∧ Row w' W.heap.size v A.reverse ∧ Below W.heap.size W w') := fun W a5 c5 a9 c9 h1 h2 => by
      have hf := HBR.out.fits
      rw [List.length_reverse] at hf
      have := soRun_any W b p a5 L.length c5 TS h1 FR.out hn2 a9 Bl.length c9 _ _ h2 hf hb9
      have h3 := HR2.out
      rw [List.length_reverse] at h3
      rw [h3] at this
      exact this
    have CR2 : Hid (∀ W ab cb, Strs W a L.length (sC L) → Lts W ab Bl.length (nI Bl) (nC Bl) → Calls Try.prog 11 #[.agg #[.int .i64 b, .int .i64 p, .slice a L.length c], .slice ab Bl.length cb] W fun e w' => ∃ a' c', e = .returned (.slice a' A.length c') ∧ Lts w' a' A.length (nI A) (nC A) ∧ Below W.heap.size W w') := fun W ab cb h1 h2 => (soRun_any W b p a L.length c (sC L) h1 FI.out hn2 ab Bl.length cb _ _ h2 HB0.out.fits hb9).mono fun e w' ⟨v, he, hr, hk⟩ => by
      rw [HR1.out] at hr
      obtain ⟨a', c', hv, _, ht⟩ := hr.form
      exact ⟨a', c', by rw [he, hv], ht, hk⟩
    have CT2 : Hid (∀ W ab cb, Lts W ab A.length (nI A) (nC A) → Calls Try.prog 12 #[.slice ab A.length cb] W fun e w' => ∃ v, e = .returned v ∧ Row w' W.heap.size v A.reverse ∧ Below W.heap.size W w') := fun W ab cb h => (soTurned_any W ab A.length cb _ _ h ha61).mono fun e w' ⟨v, he, hr, hk⟩ => by
      rw [lst_nI] at hr
      exact ⟨v, he, hr, hk⟩
    clear hB0 hBr hr1 hr2 hA hBl hBlen hok
    have hR9 := hn2
    obtain ⟨⟨d00, d01, d02⟩, g00, g01, g02⟩ := X.out
    have lx0 := X.out.lt
    go_wp2_with fail
    rw [HV0.out]
    refine (CI2.out _ LT.out).mono ?_
    rintro e v1 ⟨a5, c5, rfl, l5, k1⟩
    clear d00 d01 d02 g00 g01 g02 lx0
    replace BL := Lib.hid (step BL.out k1)
    replace LT := Lib.hid (LT.out.on k1)
    replace X := Lib.hid (X.out.on k1)
    have LQ := Lib.hid l5
    clear k1
    clear l5
    have XO := X
    have ba1 := below_alloc0 v1 (.cells #[.int .i64 b, .int .i64 p, .slice a5 L.length c5] 25)
    have Y := Lib.hid (tri_made v1 (.int .i64 b) (.int .i64 p) (.slice a5 L.length c5) 25)
    replace BL := Lib.hid (step BL.out ba1)
    replace LT := Lib.hid (LT.out.on ba1)
    replace X := Lib.hid (X.out.on ba1)
    replace LQ := Lib.hid (LQ.out.on ba1)
    obtain ⟨u1, hu1⟩ : ∃ u1, v1.alloc (.cells #[.int .i64 b, .int .i64 p, .slice a5 L.length c5] 25) = u1 := ⟨_, rfl⟩
    rw [hu1] at Y BL LT X LQ
    have HU1 := Lib.hid hu1
    clear hu1 ba1
    obtain ⟨⟨d00, d01, d02⟩, g00, g01, g02⟩ := XO.out
    have lx0 := XO.out.lt
    go_wp2_with fail
    rw [HU1.out]
    refine (CS2.out _ LT.out).mono ?_
    rintro e v2 ⟨a6, c6, rfl, l6, k2⟩
    clear d00 d01 d02 g00 g01 g02 lx0
    replace BL := Lib.hid (step BL.out k2)
    replace LT := Lib.hid (LT.out.on k2)
    replace X := Lib.hid (X.out.on k2)
    replace LQ := Lib.hid (LQ.out.on k2)
    replace Y := Lib.hid (Y.out.on k2)
    have LZ := Lib.hid l6
    clear k2
    clear l6 XO
    have XO := X
    have YO := Y
    have ba2 := below_alloc0 v2 (.cells #[.int .i64 b, .int .i64 p, .slice a6 L.length c6] 25)
    have Z := Lib.hid (tri_made v2 (.int .i64 b) (.int .i64 p) (.slice a6 L.length c6) 25)
    replace BL := Lib.hid (step BL.out ba2)
    replace LT := Lib.hid (LT.out.on ba2)
    replace X := Lib.hid (X.out.on ba2)
    replace LQ := Lib.hid (LQ.out.on ba2)
    replace Y := Lib.hid (Y.out.on ba2)
    replace LZ := Lib.hid (LZ.out.on ba2)
    obtain ⟨u2, hu2⟩ : ∃ u2, v2.alloc (.cells #[.int .i64 b, .int .i64 p, .slice a6 L.length c6] 25) = u2 := ⟨_, rfl⟩
    rw [hu2] at Z BL LT X LQ Y LZ
    have HU2 := Lib.hid hu2
    clear hu2 ba2
    obtain ⟨⟨d00, d01, d02⟩, g00, g01, g02⟩ := YO.out
    have lx0 := YO.out.lt
    go_wp2_with fail
    rw [HU2.out]
    refine (soPlans_same _ b p _ _ _ _ _ _ LQ.out LZ.out hR9).mono ?_
    rintro e v3 ⟨rfl, k3⟩
    clear d00 d01 d02 g00 g01 g02 lx0
    replace BL := Lib.hid (step BL.out k3)
    replace LT := Lib.hid (LT.out.on k3)
    replace X := Lib.hid (X.out.on k3)
    replace LQ := Lib.hid (LQ.out.on k3)
    replace Y := Lib.hid (Y.out.on k3)
    replace LZ := Lib.hid (LZ.out.on k3)
    replace Z := Lib.hid (Z.out.on k3)
    clear k3
    clear XO YO LZ Z
    obtain ⟨⟨d00, d01, d02⟩, g00, g01, g02⟩ := Y.out
    have lx0 := Y.out.lt
    go_wp2_with fail
    refine (CB.out _ _ _ LQ.out).mono ?_
    rintro e v4 ⟨a7, c7, rfl, r7, k4⟩
    have l7 := r7.strs'
    clear d00 d01 d02 g00 g01 g02 lx0
    replace BL := Lib.hid (step BL.out k4)
    replace LT := Lib.hid (LT.out.on k4)
    replace X := Lib.hid (X.out.on k4)
    replace LQ := Lib.hid (LQ.out.on k4)
    replace Y := Lib.hid (Y.out.on k4)
    have LK := Lib.hid l7
    clear k4
    clear l7 r7
    have ba4 := below_alloc0 v4 (.cells #[.int .i64 b, .int .i64 p, .slice a7 L.length c7] 25)
    have G := Lib.hid (tri_made v4 (.int .i64 b) (.int .i64 p) (.slice a7 L.length c7) 25)
    replace BL := Lib.hid (step BL.out ba4)
    replace LT := Lib.hid (LT.out.on ba4)
    replace X := Lib.hid (X.out.on ba4)
    replace LQ := Lib.hid (LQ.out.on ba4)
    replace Y := Lib.hid (Y.out.on ba4)
    replace LK := Lib.hid (LK.out.on ba4)
    obtain ⟨u4, hu4⟩ : ∃ u4, v4.alloc (.cells #[.int .i64 b, .int .i64 p, .slice a7 L.length c7] 25) = u4 := ⟨_, rfl⟩
    rw [hu4] at G BL LT X LQ Y LK
    have HU4 := Lib.hid hu4
    clear hu4 ba4
    go_wp2
    rw [HU4.out]
    have hu4z : u4.heap.size = v4.heap.size + 1 := by rw [← HU4.out]; simp
    have E0 : Hid (Row (u4.alloc (.cells #[] 32)) u4.heap.size (.slice (some ⟨v4.heap.size + 1, 0, none⟩) 0 0) []) := by rw [Hid, ← hu4z]; exact one_row u4
    clear hu4z
    obtain ⟨i0, hi0, hz0, hz1, hz2⟩ := info_parts info_letter
    go_loopw [12, 13] (fun v i wr => ∃ (j : Nat), j ≤ L.length ∧ i = .int .i64 j ∧ Hid (Row wr u4.heap.size v (M.lst turnI (turnC L 7 l1) j)) ∧ Hid (Below u4.heap.size u4 wr)) (fun _ i _ => L.length - (intOf i).toNat)
    case atStart => exact ⟨0, Nat.zero_le _, rfl, E0, below_alloc0 _ _⟩
    case round =>
      obtain ⟨j, hj, rfl, hrow, hbl⟩ := hrel
      have X8 := Lib.hid (X.out.on hbl.out)
      obtain ⟨⟨d0, d1, d2⟩, g0, g1, g2⟩ := X8.out
      have lx := X8.out.lt
      by_cases hlt : j < L.length
      · have hji : (j : Int) < (L.length : Int) := by omega
        have hln0 : ¬ (L.length : Int) = 0 := by omega
        have hLn : ¬ L = [] := fun e => by rw [e] at hlt; exact absurd hlt (by simp)
        have hln1 : ((L.length : Int) == 0) = false := by rw [beq_eq_false_iff_ne]; omega
        have s7 : IntKind.i64.wrap ((j : Int) * 7) = (j : Int) * 7 := IntWalk.i64_in _ (by omega)
        have s8 : IntKind.i64.wrap ((j : Int) * 7 + (l1 : Int)) = (j : Int) * 7 + (l1 : Int) := IntWalk.i64_in _ (by omega)
        have s1 : IntKind.i64.wrap (1 + (j : Int)) = 1 + (j : Int) := IntWalk.i64_in _ (by omega)
        obtain ⟨q, hq⟩ : ∃ q : Nat, (j * 7 + l1) % L.length = q := ⟨_, rfl⟩
        have hql : q < L.length := by rw [← hq]; exact Nat.mod_lt _ (by omega)
        have hcast : (j : Int) * 7 + (l1 : Int) = ((j * 7 + l1 : Nat) : Int) := by omega
        have hm1 : ((j : Int) * 7 + (l1 : Int)).tmod (L.length : Int) = (q : Int) := by rw [hcast, ← hq]; exact (Int.ofNat_tmod (j * 7 + l1) L.length).symm
        have hm2 : ((j : Int) * 7 + (l1 : Int)) % (L.length : Int) = (q : Int) := by rw [hcast, ← hq]; exact (Int.natCast_emod (j * 7 + l1) L.length).symm
        clear hcast
        have hqi : (q : Int) < (L.length : Int) := by omega
        have hq0 : (0 : Int) ≤ (q : Int) := by omega
        have hcode : Hid (turnC L 7 l1 j = sC L q) := by unfold turnC; rw [hq]; exact rfl
        obtain ⟨bs, os, hax, t0⟩ := (LT.out.on hbl.out) q hql
        subst hax
        have hbs : bs < wr.heap.size := World.block_lt_of_cell? _ _ t0
        obtain ⟨a2, cc, hvv, hcc, _⟩ := hrow.out.form
        rw [lst_len] at hvv hcc
        subst hvv
        have HR2' : Hid (wr.ownsRow u4.heap.size 32 2 (.slice a2 j cc) j (lcells (M.lst turnI (turnC L 7 l1) j))) := by
          have := hrow.out
          unfold Row at this
          rw [lst_len] at this
          exact this
        have HRow : Hid (∀ q, (Value.slice a2 j cc).ownBlock = some q → u4.heap.size ≤ q ∧ q < wr.heap.size) := fun q hq => hrow.out.lt q hq
        have hub := hbl.out.size
        obtain ⟨y, hy⟩ : ∃ y, sC L q = y := ⟨_, rfl⟩
        rw [hy] at t0 hcode
        have HNX : Hid (M.lst turnI (turnC L 7 l1) (j + 1) = M.lst turnI (turnC L 7 l1) j ++ [(1 + (j : Int), y)]) := by
          rw [Hid, M.lst_succ, hcode.out]; rfl
        have hbx : u.heap.size ≠ wr.heap.size := by omega
        have hbw : bs ≠ wr.heap.size := by omega
        obtain ⟨LL, hLL⟩ : ∃ LL, M.lst turnI (turnC L 7 l1) j = LL := ⟨_, rfl⟩
        rw [hLL] at HR2' HNX
        have HLL : Hid (LL.length = j) := by rw [Hid, ← hLL, lst_len]
        clear hq hy hcode hrow hLL
        go_wp2
        go_region_law (refine step_append_lies _ (by rfl) _ _ 30 (by rfl) u4.heap.size 32 i0 _ 2 24 Try.underlying30 hi0 hz0 hz1 hz2 rfl (by decide) _ j (lcells LL) (by rfl) (World.ownsRow.alloc (show _ from HR2'.out) _) ⟨wr.heap.size, 0, none⟩ 1 1 [.int .i64 (1 + (j : Int)), .string y] (by rfl) rfl (by intro j u hu; match j, hu with | 0, hu => (simp at hu; subst hu; simp [Addr.add]) | 1, hu => (simp at hu; subst hu; simp [Addr.add])) (by intro u hu; simp at hu; rcases hu with rfl | rfl <;> rfl) (by decide) (by unfold maxLen; omega) (by omega) (by simp; omega) (wr.heap.size + 1) (by simp) ?_; intro g' cap w3 hown hgrow hat hlt3; have o3 : Only wr w3 (fun q => (Value.slice a2 j cc).ownBlock = some q) := Only.trans (Only.new (S := fun q => (Value.slice a2 j cc).ownBlock = some q) (by go_grown)) ((Only.of_grown hgrow).mono (T := fun q => (Value.slice a2 j cc).ownBlock = some q) (fun x _ e => e.symm)) (fun _ _ h => h); have HO := Lib.hid hown; have O3 := Lib.hid o3; clear hown hgrow o3 hat)
        all_goals
          have HRW : Hid (Row w3 u4.heap.size (.slice (some ⟨g', 0, none⟩) (j + 1) cap) (M.lst turnI (turnC L 7 l1) (j + 1))) := by
            rw [Hid, HNX.out]
            unfold Row
            rw [lcells_append, List.length_append, HLL.out]
            exact HO.out
          have HB3 : Hid (Below u4.heap.size u4 w3) := hbl.out.trans (O3.out.below (B := u4.heap.size) (fun q hq _ e => by have := (HRow.out _ e).1; omega) hub)
          clear d0 d1 d2 g0 g1 g2 t0
          go_wp2
          go_roundw
          case rel => exact ⟨j + 1, by omega, by go_num, HRW, HB3⟩
          case measure => simp [intOf]; omega
      · obtain rfl : j = L.length := by omega
        have Y8 := Lib.hid (Y.out.on hbl.out)
        have G8 := Lib.hid (G.out.on hbl.out)
        have LT8 := Lib.hid (LT.out.on hbl.out)
        have LQ8 := Lib.hid (LQ.out.on hbl.out)
        have LK8 := Lib.hid (LK.out.on hbl.out)
        have BL8 := Lib.hid (step BL.out hbl.out)
        rw [HBL.out] at hrow
        obtain ⟨ab, cb, hvb, _, tb⟩ := hrow.out.form
        subst hvb
        have TB := Lib.hid tb
        obtain ⟨⟨y0, y1, y2⟩, _⟩ := Y8.out
        obtain ⟨⟨k0', k1', k2'⟩, _⟩ := G8.out
        have ly := Y8.out.lt
        have lg := G8.out.lt
        have KL : Below wr.heap.size wr wr := Below.refl _ _
        have s0 := And.intro (And.intro d0 (And.intro d1 d2)) (And.intro (And.intro y0 (And.intro y1 y2)) (And.intro k0' (And.intro k1' k2')))
        clear hrow tb hbl d0 d1 d2 g0 g1 g2 y0 y1 y2 k0' k1' k2'
        go_wp2_with fail
        go_region_held3 (fun w' => (w'.cell? ⟨u.heap.size, 0, none⟩ = some (.int .i64 b) ∧ w'.cell? ⟨u.heap.size, 1, none⟩ = some (.int .i64 p) ∧ w'.cell? ⟨u.heap.size, 2, none⟩ = some (.slice a L.length c)) ∧ (w'.cell? ⟨v1.heap.size, 0, none⟩ = some (.int .i64 b) ∧ w'.cell? ⟨v1.heap.size, 1, none⟩ = some (.int .i64 p) ∧ w'.cell? ⟨v1.heap.size, 2, none⟩ = some (.slice a5 L.length c5)) ∧ (w'.cell? ⟨v4.heap.size, 0, none⟩ = some (.int .i64 b) ∧ w'.cell? ⟨v4.heap.size, 1, none⟩ = some (.int .i64 p) ∧ w'.cell? ⟨v4.heap.size, 2, none⟩ = some (.slice a7 L.length c7))) (first | exact s0 | exact s1 | exact s2 | exact s3 | exact s4 | exact s5 | exact s6) (first
          | (have hh := R12; clear hh; go_at_call 10; refine (soBatch_row _ _ _ _ _ A.reverse (R10.out.on (by go_grown)) (R12.out.on (by go_grown)) har9).mono ?_; rintro e wF ⟨rfl, kF⟩; have KL : Below wr.heap.size wr wF := (by exact sstep (sstep KL (by go_grown)) kF); have s6 := held_nine s0 KL lx ly lg)
          | (have hh := T11; clear hh; go_at_call 12; refine (CT2.out _ _ _ (T11.out.on (by go_grown))).mono ?_; rintro e wE ⟨vE, rfl, rE, kE⟩; have R12 := Lib.hid rE; have R10 := Lib.hid (R10.out.on (by exact sstep (by go_grown) kE)); have KL : Below wr.heap.size wr wE := (by exact sstep (sstep KL (by go_grown)) kE); have s5 := held_nine s0 KL lx ly lg)
          | (have hh := R10; clear hh; go_at_call 11; refine (CR2.out _ _ _ ((LT8.out.on KL).on (by go_grown)) ((TB.out.on KL).on (by go_grown))).mono ?_; rintro e wD ⟨aD, cD, rfl, tD, kD⟩; have T11 := Lib.hid tD; have R10 := Lib.hid (R10.out.on (by exact sstep (by go_grown) kD)); have KL : Below wr.heap.size wr wD := (by exact sstep (sstep KL (by go_grown)) kD); have s4 := held_nine s0 KL lx ly lg)
          | (have hh := T9; clear hh; go_at_call 11; refine (CR1.out _ _ _ _ _ ((LQ8.out.on KL).on (by go_grown)) (T9.out.on (by go_grown))).mono ?_; rintro e wC ⟨vC, rfl, rC, kC⟩; have R10 := Lib.hid rC; have KL : Below wr.heap.size wr wC := (by exact sstep (sstep KL (by go_grown)) kC); have s3 := held_nine s0 KL lx ly lg)
          | (go_at_call 12; refine (CT1.out _ _ _ ((TB.out.on KL).on (by go_grown))).mono ?_; rintro e wB ⟨aB, cB, rfl, tB, kB⟩; have T9 := Lib.hid tB; have KL : Below wr.heap.size wr wB := (by exact sstep (sstep KL (by go_grown)) kB); have s2 := held_nine s0 KL lx ly lg)
          | (go_at_call 9; refine (soPlans_same _ b p _ _ _ _ _ (sC L) ((LK8.out.on KL).on (by go_grown)) ((LT8.out.on KL).on (by go_grown)) hn2).mono ?_; rintro e wA ⟨rfl, kA⟩; have KL : Below wr.heap.size wr wA := (by exact sstep (sstep KL (by go_grown)) kA); have s1 := held_nine s0 KL lx ly lg))
        all_goals
          have B9 := step BL8.out KL
          clear s0 s1 s2 s3 s4 s5 s6
          go_wp2
          go_ret
          exact ⟨rfl, by first | exact B9 | exact below_drewT B9 _⟩

set_option maxRecDepth 100000 in
theorem lifted (os : Os) (started : os.Started) (H : Type) (enc : TypeId × Value → H) :
    ReturnsInHanded {} Try.checked os 3 .any (Rows.fnTurnPlanSpec.pre6 enc Try.prog Try.f3 Rows.fnTurnPlanRow.domain false) (Rows.fnTurnPlanSpec.post enc Try.prog Try.f3 false true false false) := by
  refine returnsInHanded_of_change (C := Try.checked) own started (by kernel_rfl) Try.func3
    (ChangeSpec.witness6 (enc := enc) (C := Try.checked) false ⟨#[], #[.slice none 0 0, .slice none 0 0], []⟩ 8 (by kernel_rfl) (by kernel_rfl) (by kernel_rfl) (by kernel_rfl)) ?_
  intro W base args ds gs before hval0 hW hcnd _
  have hval : ∀ (j : Nat) t v, Try.f3.params[j]? = some t → args[j]? = some v → Value.okWide Try.prog W .any base t v := hval0
  have hW' := hW
  obtain ⟨p, q, hA0, hV, rfl, hfz, hnd⟩ := hW
  have hA : DataW.TrodAll enc Try.prog W 0 (fun _ => true) true Try.f3.params.toList args.toList ds p := hA0
  rw [Try.params3] at hA hval
  obtain ⟨v0, vs0, d0, ds0, p0, q0, hargs, rfl, rfl, h0, r0⟩ := trodAll_cons hA
  obtain ⟨v1, vs1, d1, ds1, p1, q1, rfl, rfl, rfl, h1, r1⟩ := trodAll_cons r0
  obtain ⟨rfl, rfl, rfl⟩ := trodAll_nil r1
  obtain rfl : args = #[v0, v1] := by cases args; simp_all
  obtain ⟨rfl, rfl⟩ := trodVars_none hV
  have g0 := h0
  have lt0 : ∀ x ∈ p0, x.block < W.heap.size := by obtain ⟨m, hm⟩ := g0; exact DataW.trod_lt m _ _ _ hm
  have g1 := h1
  have lt1 : ∀ x ∈ p1, x.block < W.heap.size := by obtain ⟨m, hm⟩ := g1; exact DataW.trod_lt m _ _ _ hm
  obtain ⟨a0, l0, k0, rfl⟩ := okWide_slice Try.underlying22 (hval 0 22 v0 rfl rfl)
  obtain ⟨z0, w0⟩ : ∃ zs, IsRow .u8 W a0 l0 k0 zs := by
    obtain ⟨fuel, hf⟩ := h0
    rcases open_ints Try.underlying22 Try.underlying5 (by kernel_rfl) hf with ⟨hcs, _⟩ | ⟨x, l, c, zs, hcs, _, hl, hm, hz, _, hcell, hwz⟩
    · simp [Value.cells] at hcs
      obtain ⟨rfl, rfl, rfl⟩ := hcs
      exact ⟨[], .inl ⟨rfl, rfl, rfl, rfl⟩⟩
    · simp [Value.cells] at hcs
      obtain ⟨rfl, rfl, rfl⟩ := hcs
      exact ⟨zs, .inr ⟨_, rfl, hl, hm, by simpa using hz, hcell, hwz⟩⟩
  obtain ⟨a1, l1, k1, rfl⟩ := okWide_slice Try.underlying22 (hval 1 22 v1 rfl rfl)
  obtain ⟨z1, w1⟩ : ∃ zs, IsRow .u8 W a1 l1 k1 zs := by
    obtain ⟨fuel, hf⟩ := h1
    rcases open_ints Try.underlying22 Try.underlying5 (by kernel_rfl) hf with ⟨hcs, _⟩ | ⟨x, l, c, zs, hcs, _, hl, hm, hz, _, hcell, hwz⟩
    · simp [Value.cells] at hcs
      obtain ⟨rfl, rfl, rfl⟩ := hcs
      exact ⟨[], .inl ⟨rfl, rfl, rfl, rfl⟩⟩
    · simp [Value.cells] at hcs
      obtain ⟨rfl, rfl, rfl⟩ := hcs
      exact ⟨zs, .inr ⟨_, rfl, hl, hm, by simpa using hz, hcell, hwz⟩⟩
  clear hA0 hval0
  refine (walk W a0 l0 k0 z0 w0 a1 l1 k1 z1 w1).mono fun e W' ⟨he, bel⟩ => ?_
  subst he
  exact ⟨_, rfl, _, _, _, [], _, [], hW', trodAll_mk1 (shut_bool Try.underlying4 _), (trodAll_cons_mk (Below.trod laidOut (by kernel_rfl) (of_decide_eq_true (by kernel_rfl)) g0 bel lt0) (trodAll_cons_mk (Below.trod laidOut (by kernel_rfl) (of_decide_eq_true (by kernel_rfl)) g1 bel lt1) trodAll_mk0)), rfl, bel.frame _, fun h => by cases h⟩

theorem proved : Rows.FnTurnPlanSaid :=
  OpenClaim.holds_of_wide 3 Try.f3 rfl rfl rfl rfl rfl rfl rfl ⟨rfl, rfl, rfl, rfl, rfl⟩ rfl rfl rfl rfl rfl (by kernel_rfl) Try.func3 (by kernel_rfl)
    (of_decide_eq_true (by kernel_rfl)) (by unfold Func.isWrapper; first | (rw [if_pos (by decide +kernel)]; kernel_rfl) | (rw [if_neg (by decide +kernel)]; exact ⟨rfl, rfl⟩))
    (fun os started H enc _ => lifted os started H enc)
#print axioms proved
end Go.Proofs.Ythnaglnmmgpiaaa.fnTurnPlan
