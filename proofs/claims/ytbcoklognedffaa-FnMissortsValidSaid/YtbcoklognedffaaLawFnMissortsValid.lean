/-
  For every slice of bytes, laws.FnMissortsValid returns true.
-/
import Derived.Test.YtbcoklognedffaaRows
import Derived.Test.YtbcoklognedffaaDrawV
import Derived.Test.YtbcoklognedffaaMisA
import Derived.Test.YtbcoklognedffaaPlan
import Derived.Test.YtbcoklognedffaaSmpM
import Derived.Deep.RegionHeld3
import Derived.BigQuiet
import Derived.WalkKit
import Derived.ProofKit
import Derived.OpenShut
import Derived.ShutString
import Derived.ChangeOld
import Derived.Below
import Derived.Handy
import Derived.Lib.Hide
namespace Go.Proofs.Ytbcoklognedffaa.fnMissortsValid
open Go.ChangeShapes Go.WideShapes Go.ChangeAt Go.RowKit
open Go.ChangeMaps (open_string shut_string)
open Go.PlainAid (bt get_bt bt_nonneg bt_le)
set_option linter.unusedVariables false

theorem own : ownKnob Try.prog.godebug = none := by kernel_rfl
theorem laidOut : laidOutB Try.prog = true := by kernel_rfl

set_option maxHeartbeats 40000000 in
set_option maxRecDepth 100000 in
theorem walk (w : World) (a0 : Option Addr) (l0 k0 : Nat) (z0 : List Int) (w0 : IsRow .u8 w a0 l0 k0 z0) :
    Calls Try.prog 7 #[.slice a0 l0 k0] w fun e w' => e = .returned (.bool true) ∧ Below w.heap.size w w' := by
  by_cases hl : 1048576 < l0
  · go_enter Try.func7, Try.ntmps7
    go_wp2
    go_ret
    exact ⟨rfl, Below.refl _ _⟩
  go_enter Try.func7, Try.ntmps7
  go_wp2_with fail
  refine (DrawMissortsValid_any a0 l0 k0 z0 w w0).mono ?_
  rintro e u ⟨b, p, a, n, c, S, a2, m, I, C, a3, LM, c3, rfl, hpl, bl, hmd⟩
  have ba := below_alloc0 u (.cells #[.int .i64 b, .int .i64 p, .slice a n c] 25)
  have PL := Lib.hid (hpl.on ba)
  have MD := Lib.hid (hmd.on ba)
  have X := Lib.hid (tri_made u (.int .i64 b) (.int .i64 p) (.slice a n c) 25)
  have BL := Lib.hid (step bl ba)
  obtain ⟨v0, hv0⟩ : ∃ v0, u.alloc (.cells #[.int .i64 b, .int .i64 p, .slice a n c] 25) = v0 := ⟨_, rfl⟩
  rw [hv0] at PL X BL MD
  have HV0 := Lib.hid hv0
  have hn := PL.out.pn
  have hn2 : n ≤ 1048576 := by omega
  have hm5 := MD.out.mn
  have hmc := MD.out.cap
  obtain ⟨mm, hmm⟩ : ∃ k, LM.length = k := ⟨_, rfl⟩
  obtain ⟨QI, hQI⟩ : ∃ F, mI LM = F := ⟨_, rfl⟩
  obtain ⟨QB, hQB⟩ : ∃ F, mC LM = F := ⟨_, rfl⟩
  have HM := Lib.hid MD.out.ms
  have HF := Lib.hid MD.out.mf
  rw [hmm, hQI, hQB] at HM HF
  rw [hmm] at hm5 hmc ⊢
  have hm3 : mm ≤ 1048576 := by omega
  have hm60 : (mm : Int) ≤ 60 := by omega
  clear hpl bl ba hv0 hmd MD hmm hQI hQB
  obtain ⟨ok, hok⟩ : ∃ o, M.mis b p n S mm QI QB = o := ⟨_, rfl⟩
  obtain ⟨pv, hpv⟩ : ∃ o, M.plan b p n S = o := ⟨_, rfl⟩
  have HOK := Lib.hid hok
  have HPV := Lib.hid hpv
  have hP60 : mm ≤ 60 := by omega
  have HG0 : Hid (pv = gdB ((M.plan b p n S = true ∧ mm ≤ 60) ∧ M.misTo (b - 1) QI QB 0)) := by
    unfold Hid
    rw [Bool.eq_iff_iff, gdB_true, ← hpv]
    exact ⟨fun h => ⟨⟨h, hP60⟩, M.misTo_zero _ _ _⟩, fun h => h.1.1⟩
  have HGE : Hid (∀ g : Bool, g = gdB ((M.plan b p n S = true ∧ mm ≤ 60) ∧ M.misTo (b - 1) QI QB mm) → g = ok) := fun g h => by rw [h, ← hok, mis_gdB]
  clear hok hpv
  obtain ⟨⟨d0, d1, d2⟩, g0, g1, g2⟩ := X.out
  have lx := X.out.lt
  go_wp2_with fail
  rw [HV0.out]
  refine (impl_MissortsValid _ b p a n c S PL.out.ps PL.out.pf hn2 a3 mm c3 QI QB HM.out HF.out).mono ?_
  rw [HOK.out]
  rintro e v1 ⟨rfl, k1⟩
  clear d0 d1 d2 g0 g1 g2 lx
  replace BL := Lib.hid (step BL.out k1)
  replace PL := Lib.hid (PL.out.on k1)
  replace X := Lib.hid (X.out.on k1)
  replace HM := Lib.hid (HM.out.on k1)
  clear k1
  obtain ⟨⟨d0, d1, d2⟩, g0, g1, g2⟩ := X.out
  have lx := X.out.lt
  go_wp2_with fail
  refine (spec_MissortsValid _ b p a n c S PL.out.ps PL.out.pf hn2 a3 mm c3 QI QB HM.out HF.out hm3).mono ?_
  rw [HOK.out]
  rintro e v2 ⟨rfl, k2⟩
  clear d0 d1 d2 g0 g1 g2 lx
  replace BL := Lib.hid (step BL.out k2)
  replace PL := Lib.hid (PL.out.on k2)
  replace X := Lib.hid (X.out.on k2)
  replace HM := Lib.hid (HM.out.on k2)
  clear k2
  have hbb : (ok != ok) = false := by cases ok <;> rfl
  obtain ⟨⟨d0, d1, d2⟩, g0, g1, g2⟩ := X.out
  have lx := X.out.lt
  go_wp2_with fail
  refine (impl_PlanValid _ b p a n c S PL.out.ps PL.out.pf hn2).mono ?_
  rw [HPV.out]
  rintro e v3 ⟨rfl, k3⟩
  clear d0 d1 d2 g0 g1 g2 lx
  replace BL := Lib.hid (step BL.out k3)
  replace PL := Lib.hid (PL.out.on k3)
  replace X := Lib.hid (X.out.on k3)
  replace HM := Lib.hid (HM.out.on k3)
  clear k3
  obtain ⟨⟨d0, d1, d2⟩, g0, g1, g2⟩ := X.out
  have lx := X.out.lt
  have hpick : (if pv = true then true else false) = pv := by cases pv <;> rfl
  cases pv
  all_goals
    go_wp2
    go_loopw [6, 7] (fun g i wr => ∃ (i' : Nat) (g' : Bool), i' ≤ mm ∧ i = .int .i64 i' ∧ g = .bool g' ∧ Hid (g' = gdB ((M.plan b p n S = true ∧ mm ≤ 60) ∧ M.misTo (b - 1) QI QB i')) ∧ Hid (Below v3.heap.size v3 wr)) (fun _ i _ => mm - (intOf i).toNat)
    case atStart => exact ⟨0, _, Nat.zero_le _, rfl, rfl, HG0, Below.refl _ _⟩
    case round =>
      obtain ⟨i, g, hi, rfl, rfl, hg, hbw⟩ := hrel
      have X2 := Lib.hid (X.out.on hbw.out)
      have PL2 := Lib.hid (PL.out.on hbw.out)
      have HM2 := Lib.hid (HM.out.on hbw.out)
      clear d0 d1 d2 g0 g1 g2 lx
      obtain ⟨⟨d0, d1, d2⟩, g0, g1, g2⟩ := X2.out
      have lx := X2.out.lt
      by_cases hlt : i < mm
      · have hii : (i : Int) < (mm : Int) := by omega
        have hi0 : (0 : Int) ≤ (i : Int) := by omega
        have hi1 : (i : Int) ≤ (i : Int) + 1 := by omega
        have hi2 : (i : Int) + 1 ≤ (c3 : Int) := by omega
        have hi3 : ((i : Int) + 1).toNat = i + 1 := by omega
        have hi4 : (0 : Int) ≤ (i : Int) + 1 := by omega
        have hci : ¬ c3 = i := by omega
        have hiw : IntKind.i64.wrap ((i : Int) + 1) = (i : Int) + 1 := IntWalk.i64_in _ (by omega)
        obtain ⟨bb, oo, ha3, _, _⟩ := HM2.out i hlt
        subst ha3
        obtain ⟨sv, hsv⟩ : ∃ o, M.mis b p n S 1 (fun j => QI (i + j)) (fun j => QB (i + j)) = o := ⟨_, rfl⟩
        have HSV := Lib.hid hsv
        have HMZ := Lib.hid (mid_zero (P := M.plan b p n S = true ∧ mm ≤ 60) (fun h => h.1) hg.out hsv)
        have HO1 : Hid (Mss wr (some ⟨bb, oo + i * 2, none⟩) 1 (fun j => QI (i + j)) (fun j => QB (i + j))) := fun j hj => by
          obtain ⟨b1, o1, e1, q1, q2⟩ := HM2.out (i + j) (by omega)
          obtain ⟨rfl, rfl, _⟩ := Addr.mk.inj (Option.some.inj e1)
          exact ⟨_, _, rfl, by rw [show oo + i * 2 + j * 2 = oo + (i + j) * 2 by omega]; exact q1, by rw [show oo + i * 2 + j * 2 + 1 = oo + (i + j) * 2 + 1 by omega]; exact q2⟩
        have HF1 : Hid (MFits 1 (fun j => QI (i + j)) (fun j => QB (i + j))) := fun j hj => HF.out (i + j) (by omega)
        clear hsv
        cases g
        · have HZ : Hid (false = gdB (midMis (M.plan b p n S = true ∧ mm ≤ 60) (b - 1) QI QB i 0)) := HMZ.out
          have BI := Lib.hid (below_drewS hbw.out 0)
          go_wp2
          go_quiet (fail)
          go_wp2
          go_loopw [6, 8] (fun g k wr => ∃ (k' : Nat) (g' : Bool), k' ≤ i ∧ k = .int .i64 k' ∧ g = .bool g' ∧ Hid (g' = gdB (midMis (M.plan b p n S = true ∧ mm ≤ 60) (b - 1) QI QB i k')) ∧ Hid (Below v3.heap.size v3 wr)) (fun _ k _ => i - (intOf k).toNat)
          case atStart => exact ⟨0, _, Nat.zero_le _, rfl, rfl, HZ, below_drewS hbw.out _⟩
          case round =>
            obtain ⟨k, g, hk, rfl, rfl, hgk, hbk⟩ := hrel
            by_cases hlk : k < i
            · have hkk : (k : Int) < (i : Int) := by omega
              have hk0 : (0 : Int) ≤ (k : Int) := by omega
              have hkm : (k : Int) < (mm : Int) := by omega
              have HS := Lib.hid (mid_succ hgk.out)
              obtain ⟨b1, o1, e1, q1, _⟩ := (HM.out.on hbk.out) k (by omega)
              obtain ⟨b2, o2, e2, q2, _⟩ := (HM.out.on hbk.out) i hlt
              obtain ⟨rfl, rfl, _⟩ := Addr.mk.inj (Option.some.inj e1)
              obtain ⟨rfl, rfl, _⟩ := Addr.mk.inj (Option.some.inj e2)
              clear e1 e2
              generalize QI k = yk at q1 HS
              generalize QI i = yi at q2 HS
              cases g
              · go_wp2
                go_quiet (fail)
                go_wp2
                go_roundw
                case rel => exact ⟨k + 1, false, by omega, by go_num, rfl, by unfold Hid; simpa using HS.out, below_drewS hbk.out _⟩
                case measure => simp [intOf]; omega
              · by_cases hy : yk = yi
                · subst hy
                  have hye : (yk != yk) = false := by simp
                  go_wp2
                  go_quiet (fail)
                  go_wp2
                  go_roundw
                  case rel => exact ⟨k + 1, false, by omega, by go_num, rfl, by unfold Hid; simpa using HS.out, below_drewS hbk.out _⟩
                  case measure => simp [intOf]; omega
                · have hye : (yk != yi) = true := by simpa using hy
                  have hyf : (yk == yi) = false := by simpa using hy
                  have HS2 := HS.out
                  rw [hyf] at HS2
                  have HS3 := Lib.hid HS2
                  clear HS2 HS
                  go_wp2
                  go_quiet (fail)
                  go_wp2
                  go_roundw
                  case rel => exact ⟨k + 1, true, by omega, by go_num, rfl, HS3.out, below_drewS hbk.out _⟩
                  case measure => simp [intOf]; omega
            · obtain rfl : k = i := by omega
              have HE := Lib.hid (mid_end hgk.out)
              go_wp2
              go_roundw
              case rel => exact ⟨k + 1, g, by omega, by go_num, rfl, HE, hbk⟩
              case measure => simp [intOf]; omega
        · have HZ : Hid (sv = gdB (midMis (M.plan b p n S = true ∧ mm ≤ 60) (b - 1) QI QB i 0)) := HMZ.out
          go_wp2_with fail
          go_region_held3 (fun w' => w'.cell? ⟨u.heap.size, 0, none⟩ = some (.int .i64 b) ∧ w'.cell? ⟨u.heap.size, 1, none⟩ = some (.int .i64 p) ∧ w'.cell? ⟨u.heap.size, 2, none⟩ = some (.slice a n c)) (go_keep) (first
            | (go_at_call 33; refine (impl_MissortsValid _ b p a n c S (PL2.out.ps.on (by go_grown)) PL2.out.pf hn2 (some ⟨bb, oo + i * 2, none⟩) 1 _ _ _ (HO1.out.on (by go_grown)) HF1.out).mono ?_; rw [HSV.out]; rintro e w7 ⟨rfl, k7⟩; have K7 : Below wr.heap.size wr w7 := (by exact sstep (by go_grown) k7); have X7 := Lib.hid (X2.out.on K7); obtain ⟨⟨e0, e1, e2⟩, _⟩ := X7.out))
          have BI := Lib.hid (step hbw.out K7)
          clear k7 K7 X7 e0 e1 e2
          go_wp2
          go_loopw [6, 8] (fun g k wr => ∃ (k' : Nat) (g' : Bool), k' ≤ i ∧ k = .int .i64 k' ∧ g = .bool g' ∧ Hid (g' = gdB (midMis (M.plan b p n S = true ∧ mm ≤ 60) (b - 1) QI QB i k')) ∧ Hid (Below v3.heap.size v3 wr)) (fun _ k _ => i - (intOf k).toNat)
          case atStart => exact ⟨0, _, Nat.zero_le _, rfl, rfl, HZ, by first | exact BI | exact below_drewS BI.out _⟩
          case round =>
            obtain ⟨k, g, hk, rfl, rfl, hgk, hbk⟩ := hrel
            by_cases hlk : k < i
            · have hkk : (k : Int) < (i : Int) := by omega
              have hk0 : (0 : Int) ≤ (k : Int) := by omega
              have hkm : (k : Int) < (mm : Int) := by omega
              have HS := Lib.hid (mid_succ hgk.out)
              obtain ⟨b1, o1, e1, q1, _⟩ := (HM.out.on hbk.out) k (by omega)
              obtain ⟨b2, o2, e2, q2, _⟩ := (HM.out.on hbk.out) i hlt
              obtain ⟨rfl, rfl, _⟩ := Addr.mk.inj (Option.some.inj e1)
              obtain ⟨rfl, rfl, _⟩ := Addr.mk.inj (Option.some.inj e2)
              clear e1 e2
              generalize QI k = yk at q1 HS
              generalize QI i = yi at q2 HS
              cases g
              · go_wp2
                go_quiet (fail)
                go_wp2
                go_roundw
                case rel => exact ⟨k + 1, false, by omega, by go_num, rfl, by unfold Hid; simpa using HS.out, below_drewS hbk.out _⟩
                case measure => simp [intOf]; omega
              · by_cases hy : yk = yi
                · subst hy
                  have hye : (yk != yk) = false := by simp
                  go_wp2
                  go_quiet (fail)
                  go_wp2
                  go_roundw
                  case rel => exact ⟨k + 1, false, by omega, by go_num, rfl, by unfold Hid; simpa using HS.out, below_drewS hbk.out _⟩
                  case measure => simp [intOf]; omega
                · have hye : (yk != yi) = true := by simpa using hy
                  have hyf : (yk == yi) = false := by simpa using hy
                  have HS2 := HS.out
                  rw [hyf] at HS2
                  have HS3 := Lib.hid HS2
                  clear HS2 HS
                  go_wp2
                  go_quiet (fail)
                  go_wp2
                  go_roundw
                  case rel => exact ⟨k + 1, true, by omega, by go_num, rfl, HS3.out, below_drewS hbk.out _⟩
                  case measure => simp [intOf]; omega
            · obtain rfl : k = i := by omega
              have HE := Lib.hid (mid_end hgk.out)
              go_wp2
              go_roundw
              case rel => exact ⟨k + 1, g, by omega, by go_num, rfl, HE, hbk⟩
              case measure => simp [intOf]; omega
      · obtain rfl : i = mm := by omega
        have e := HGE.out g hg.out
        subst e
        have hee : (g == g) = true := by cases g <;> rfl
        go_wp2
        go_ret
        exact ⟨rfl, step BL.out hbw.out⟩

set_option maxRecDepth 100000 in
theorem lifted (os : Os) (started : os.Started) (H : Type) (enc : TypeId × Value → H) :
    ReturnsInHanded {} Try.checked os 7 .any (Rows.fnMissortsValidSpec.pre6 enc Try.prog Try.f7 Rows.fnMissortsValidRow.domain false) (Rows.fnMissortsValidSpec.post enc Try.prog Try.f7 false true false false) := by
  refine returnsInHanded_of_change (C := Try.checked) own started (by kernel_rfl) Try.func7
    (ChangeSpec.witness6 (enc := enc) (C := Try.checked) false ⟨#[], #[.slice none 0 0], []⟩ 8 (by kernel_rfl) (by kernel_rfl) (by kernel_rfl) (by kernel_rfl)) ?_
  intro W base args ds gs before hval0 hW hcnd _
  have hval : ∀ (j : Nat) t v, Try.f7.params[j]? = some t → args[j]? = some v → Value.okWide Try.prog W .any base t v := hval0
  have hW' := hW
  obtain ⟨p, q, hA0, hV, rfl, hfz, hnd⟩ := hW
  have hA : DataW.TrodAll enc Try.prog W 0 (fun _ => true) true Try.f7.params.toList args.toList ds p := hA0
  rw [Try.params7] at hA hval
  obtain ⟨v0, vs0, d0, ds0, p0, q0, hargs, rfl, rfl, h0, r0⟩ := trodAll_cons hA
  obtain ⟨rfl, rfl, rfl⟩ := trodAll_nil r0
  obtain rfl : args = #[v0] := by cases args; simp_all
  obtain ⟨rfl, rfl⟩ := trodVars_none hV
  have g0 := h0
  have lt0 : ∀ x ∈ p0, x.block < W.heap.size := by obtain ⟨m, hm⟩ := g0; exact DataW.trod_lt m _ _ _ hm
  obtain ⟨a0, l0, k0, rfl⟩ := okWide_slice Try.underlying22 (hval 0 22 v0 rfl rfl)
  obtain ⟨z0, w0⟩ : ∃ zs, IsRow .u8 W a0 l0 k0 zs := by
    obtain ⟨fuel, hf⟩ := h0
    rcases open_ints Try.underlying22 Try.underlying5 (by kernel_rfl) hf with ⟨hcs, _⟩ | ⟨x, l, c, zs, hcs, _, hl, hm, hz, _, hcell, hwz⟩
    · simp [Value.cells] at hcs
      obtain ⟨rfl, rfl, rfl⟩ := hcs
      exact ⟨[], .inl ⟨rfl, rfl, rfl, rfl⟩⟩
    · simp [Value.cells] at hcs
      obtain ⟨rfl, rfl, rfl⟩ := hcs
      exact ⟨zs, .inr ⟨_, rfl, hl, hm, by simpa using hz, hcell, hwz⟩⟩
  clear hA0 hval0
  refine (walk W a0 l0 k0 z0 w0).mono fun e W' ⟨he, bel⟩ => ?_
  subst he
  exact ⟨_, rfl, _, _, _, [], _, [], hW', trodAll_mk1 (shut_bool Try.underlying4 _), (trodAll_cons_mk (Below.trod laidOut (by kernel_rfl) (of_decide_eq_true (by kernel_rfl)) g0 bel lt0) trodAll_mk0), rfl, bel.frame _, fun h => by cases h⟩

theorem proved : Rows.FnMissortsValidSaid :=
  OpenClaim.holds_of_wide 7 Try.f7 rfl rfl rfl rfl rfl rfl rfl ⟨rfl, rfl, rfl, rfl, rfl⟩ rfl rfl rfl rfl rfl (by kernel_rfl) Try.func7 (by kernel_rfl)
    (of_decide_eq_true (by kernel_rfl)) (by unfold Func.isWrapper; first | (rw [if_pos (by decide +kernel)]; kernel_rfl) | (rw [if_neg (by decide +kernel)]; exact ⟨rfl, rfl⟩))
    (fun os started H enc _ => lifted os started H enc)
#print axioms proved
end Go.Proofs.Ytbcoklognedffaa.fnMissortsValid
