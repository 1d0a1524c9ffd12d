/-
  For every slice of bytes, laws.FnLoading returns true.
-/
import Derived.Test.YtmoghfgfdbdioaaRows
import Derived.Test.YtmoghfgfdbdioaaDrawN
import Derived.Test.YtmoghfgfdbdioaaPackJ
import Derived.Test.YtmoghfgfdbdioaaTrkC
import Derived.Test.YtmoghfgfdbdioaaSoB
import Derived.BigQuiet
import Derived.WalkKit
import Derived.ProofKit
import Derived.OpenShut
import Derived.ShutString
import Derived.ChangeOld
import Derived.Below
import Derived.Handy
import Derived.Lib.Hide
namespace Go.Proofs.Ytmoghfgfdbdioaa.fnLoading
open Go.ChangeShapes Go.WideShapes Go.ChangeAt Go.RowKit
open Go.ChangeMaps (open_string shut_string)
open Go.PlainAid (bt get_bt bt_nonneg bt_le)
set_option linter.unusedVariables false

theorem own : ownKnob Try.prog.godebug = none := by kernel_rfl
theorem laidOut : laidOutB Try.prog = true := by kernel_rfl

set_option maxHeartbeats 40000000 in
set_option maxRecDepth 100000 in
theorem walk (w : World) (a0 : Option Addr) (l0 k0 : Nat) (z0 : List Int) (w0 : IsRow .u8 w a0 l0 k0 z0) :
    Calls Try.prog 6 #[.slice a0 l0 k0] w fun e w' => e = .returned (.bool true) ∧ Below w.heap.size w w' := by
  by_cases hl : 1048576 < l0
  · go_enter Try.func6, Try.ntmps6
    go_wp2
    go_ret
    exact ⟨rfl, Below.refl _ _⟩
  go_enter Try.func6, Try.ntmps6
  go_wp2_with fail
  refine (DrawLoadingValid_any a0 l0 k0 z0 w w0).mono ?_
  rintro e u ⟨a, c, W, q, a2, c2, G, rfl, nw, hw9, hwc, ng, hg10, bl⟩
  have NW := Lib.hid nw
  have NG := Lib.hid ng
  have BL := Lib.hid bl
  have hw2 : W.length ≤ 1048576 := by omega
  have hg2 : G.length ≤ 1048576 := by omega
  clear nw ng bl
  have HI := Lib.hid (fun X hw hg => impl_LoadingValid X a W.length c W hw rfl hw2 a2 G.length c2 G hg rfl hg2 q)
  have HS := Lib.hid (fun X hw hg => spec_LoadingValid X a W.length c W hw rfl hw2 a2 G.length c2 G hg rfl hg2 q)
  have HL := Lib.hid (fun X hw hg => impl_TruckLoads X a W.length c W hw rfl hw2 a2 G.length c2 G hg rfl hg2)
  have HT : Hid (∀ X, Nums X a2 G → Calls Try.prog 14 #[.slice a2 G.length c2] X fun e w' => e = .returned (.int .i64 (MW.trucks G)) ∧ Below X.heap.size X w') := fun X hg => (impl_TruckCount X a2 G.length c2 G hg rfl hg2).mono fun e w' ⟨h1, h2⟩ => ⟨h1, h2 ▸ Below.refl _ _⟩
  have HM := Lib.hid (fun X hw => impl_LeastTrucks X a W.length c W hw rfl hw2 hwc q)
  have HV := Lib.hid (fun X hw => impl_WeightsValid X a W.length c W hw rfl hw2 q)
  obtain ⟨o, ho⟩ : ∃ o, MW.fine W q G = o := ⟨_, rfl⟩
  rw [ho] at HI HS
  obtain ⟨t, ht⟩ : ∃ t, MW.trucks G = t := ⟨_, rfl⟩
  rw [ht] at HT
  have hb1 : (o != o) = false := by simp
  have hb2 : (o == o) = true := by simp
  cases hV : MW.wOk W q
  · rw [hV] at HV
    clear ho ht hV
    go_wp2_with fail
    refine (HI.out _ NW.out NG.out).mono ?_
    rintro e v1 ⟨rfl, k1⟩
    replace BL := Lib.hid (step BL.out k1)
    replace NW := Lib.hid (NW.out.on k1)
    replace NG := Lib.hid (NG.out.on k1)
    clear k1
    go_wp2_with fail
    refine (HS.out _ NW.out NG.out).mono ?_
    rintro e v2 ⟨rfl, k2⟩
    replace BL := Lib.hid (step BL.out k2)
    replace NW := Lib.hid (NW.out.on k2)
    replace NG := Lib.hid (NG.out.on k2)
    clear k2
    go_wp2_with fail
    refine (HV.out _ NW.out).mono ?_
    rintro e v3 ⟨rfl, k3⟩
    replace BL := Lib.hid (step BL.out k3)
    replace NW := Lib.hid (NW.out.on k3)
    replace NG := Lib.hid (NG.out.on k3)
    clear k3
    go_wp2_with fail
    refine (HS.out _ NW.out NG.out).mono ?_
    rintro e v4 ⟨rfl, k4⟩
    replace BL := Lib.hid (step BL.out k4)
    replace NW := Lib.hid (NW.out.on k4)
    replace NG := Lib.hid (NG.out.on k4)
    clear k4
    go_wp2
    go_ret
    exact ⟨rfl, BL.out⟩
  · cases hG : MW.gOk G
    · rw [hV] at HV
      rw [MW.trucks_no hG] at ht
      subst ht
      clear ho hV hG
      go_wp2_with fail
      refine (HI.out _ NW.out NG.out).mono ?_
      rintro e v1 ⟨rfl, k1⟩
      replace BL := Lib.hid (step BL.out k1)
      replace NW := Lib.hid (NW.out.on k1)
      replace NG := Lib.hid (NG.out.on k1)
      clear k1
      go_wp2_with fail
      refine (HS.out _ NW.out NG.out).mono ?_
      rintro e v2 ⟨rfl, k2⟩
      replace BL := Lib.hid (step BL.out k2)
      replace NW := Lib.hid (NW.out.on k2)
      replace NG := Lib.hid (NG.out.on k2)
      clear k2
      go_wp2_with fail
      refine (HV.out _ NW.out).mono ?_
      rintro e v3 ⟨rfl, k3⟩
      replace BL := Lib.hid (step BL.out k3)
      replace NW := Lib.hid (NW.out.on k3)
      replace NG := Lib.hid (NG.out.on k3)
      clear k3
      go_wp2_with fail
      refine (HT.out _ NG.out).mono ?_
      rintro e v4 ⟨rfl, k4⟩
      replace BL := Lib.hid (step BL.out k4)
      replace NW := Lib.hid (NW.out.on k4)
      replace NG := Lib.hid (NG.out.on k4)
      clear k4
      go_wp2_with fail
      refine (HS.out _ NW.out NG.out).mono ?_
      rintro e v5 ⟨rfl, k5⟩
      replace BL := Lib.hid (step BL.out k5)
      replace NW := Lib.hid (NW.out.on k5)
      replace NG := Lib.hid (NG.out.on k5)
      clear k5
      go_wp2
      go_ret
      exact ⟨rfl, BL.out⟩
    · by_cases hL : W.length = G.length
      · rw [hV] at HV
        rw [MW.trucks_yes hG] at ht
        have hc8 := MW.cnt_le8 hG
        obtain ⟨R, hR⟩ : ∃ R, MW.truckLoads W G = R := ⟨_, rfl⟩
        obtain ⟨f1, f2⟩ := loading_law hV hG hL hR ho
        have hr8 := MW.truckLoads_le W G
        rw [hR] at HL hr8
        rw [ht] at hc8 f2
        obtain ⟨s, hs⟩ : ∃ s, MW.leastTrucks W q = s := ⟨_, rfl⟩
        rw [hs] at HM f2
        have F1 := Lib.hid f1
        have F2 := Lib.hid f2
        have hneg : ¬ t < 0 := by omega
        have hle : ((G.length : Int) != (W.length : Int)) = false := by rw [hL]; simp
        clear ho ht hV hG hL hR hs f1 f2 hc8
        go_wp2_with fail
        refine (HI.out _ NW.out NG.out).mono ?_
        rintro e v1 ⟨rfl, k1⟩
        replace BL := Lib.hid (step BL.out k1)
        replace NW := Lib.hid (NW.out.on k1)
        replace NG := Lib.hid (NG.out.on k1)
        clear k1
        go_wp2_with fail
        refine (HS.out _ NW.out NG.out).mono ?_
        rintro e v2 ⟨rfl, k2⟩
        replace BL := Lib.hid (step BL.out k2)
        replace NW := Lib.hid (NW.out.on k2)
        replace NG := Lib.hid (NG.out.on k2)
        clear k2
        go_wp2_with fail
        refine (HV.out _ NW.out).mono ?_
        rintro e v3 ⟨rfl, k3⟩
        replace BL := Lib.hid (step BL.out k3)
        replace NW := Lib.hid (NW.out.on k3)
        replace NG := Lib.hid (NG.out.on k3)
        clear k3
        go_wp2_with fail
        refine (HT.out _ NG.out).mono ?_
        rintro e v4 ⟨rfl, k4⟩
        replace BL := Lib.hid (step BL.out k4)
        replace NW := Lib.hid (NW.out.on k4)
        replace NG := Lib.hid (NG.out.on k4)
        clear k4
        go_wp2_with fail
        refine (HL.out _ NW.out NG.out).mono ?_
        rintro e v5 ⟨p1, rfl, r1, k5⟩
        replace BL := Lib.hid (step BL.out k5)
        replace NW := Lib.hid (NW.out.on k5)
        replace NG := Lib.hid (NG.out.on k5)
        have R1 := Lib.hid r1
        clear k5
        obtain ⟨a4, c4, rfl, _⟩ := r1.cells
        clear r1
        have HV6 := Lib.hid BL.out
        clear BL HV HI HS HL
        obtain ⟨Z, hZ⟩ : ∃ Z, v5 = Z := ⟨_, rfl⟩
        rw [hZ] at NW NG R1 HV6 ⊢
        clear hZ
        have hf0 : Hid (fitsTo R q 0 = true) := rfl
        go_wp2
        go_loopw [8, 9] (fun vf vi wr => ∃ (k : Nat) (B : Bool), k ≤ R.length ∧ vf = .bool B ∧ vi = .int .i64 k ∧ Hid (fitsTo R q k = B) ∧ Hid (Below Z.heap.size Z wr)) (fun _ vi _ => R.length - (intOf vi).toNat)
        case atStart => exact ⟨0, true, Nat.zero_le _, rfl, rfl, hf0, Below.refl _ _⟩
        case round =>
          obtain ⟨k, B, hk, rfl, rfl, hB, hbw⟩ := hrel
          by_cases hlt : k < R.length
          · have hki : (k : Int) < (R.length : Int) := by omega
            have hk0 : (0 : Int) ≤ (k : Int) := by omega
            have hsu := fitsTo_succ (q := q) hlt
            rw [hB.out] at hsu
            obtain ⟨a9, c9, e9, hcl⟩ := (R1.out.on hbw.out).cells
            injection e9 with q1 q2 q3
            subst q1
            obtain ⟨g5, hg5, q5⟩ := hcl k hlt
            subst hg5
            generalize R[k] = x at q5 hsu
            clear hcl q2 q3 hB
            cases B
            · have hnext : Hid (fitsTo R q (k + 1) = false) := hsu
              clear hsu
              go_wp2
              go_roundw
              case rel => exact ⟨k + 1, false, by omega, rfl, by go_num, hnext, by first | exact hbw.out | exact below_drewS hbw.out _⟩
              case measure => first | (simp [intOf]; done) | (simp [intOf]; omega)
            · by_cases hx : x ≤ q
              · have hnext : Hid (fitsTo R q (k + 1) = true) := by rw [Hid, hsu, decide_eq_true hx]; rfl
                have hxd : decide (x ≤ q) = true := decide_eq_true hx
                clear hsu
                go_wp2
                go_roundw
                case rel => exact ⟨k + 1, true, by omega, rfl, by go_num, hnext, by first | exact hbw.out | exact below_drewS hbw.out _⟩
                case measure => first | (simp [intOf]; done) | (simp [intOf]; omega)
              · have hnext : Hid (fitsTo R q (k + 1) = false) := by rw [Hid, hsu, decide_eq_false hx]; rfl
                have hxd : decide (x ≤ q) = false := decide_eq_false hx
                clear hsu
                go_wp2
                go_roundw
                case rel => exact ⟨k + 1, false, by omega, rfl, by go_num, hnext, by first | exact hbw.out | exact below_drewS hbw.out _⟩
                case measure => first | (simp [intOf]; done) | (simp [intOf]; omega)
          · obtain rfl : k = R.length := by omega
            have hBo := hB.out
            rw [F1.out] at hBo
            subst hBo
            have NW2 := Lib.hid (NW.out.on hbw.out)
            have NG2 := Lib.hid (NG.out.on hbw.out)
            clear hB
            cases o
            · have B9 := Lib.hid (step HV6.out hbw.out)
              go_wp2
              go_ret
              exact ⟨rfl, B9.out⟩
            · have hst : s ≤ t := F2.out rfl
              have hst1 : decide (s ≤ t) = true := decide_eq_true hst
              have hst2 : ¬ t < s := by omega
              go_wp2_with fail
              refine (HT.out wr NG2.out).mono ?_
              rintro e w1 ⟨rfl, k1⟩
              have NW3 := Lib.hid (NW2.out.on k1)
              have B1 := Lib.hid (step (step HV6.out hbw.out) k1)
              clear k1
              go_wp2_with fail
              refine (HM.out w1 NW3.out).mono ?_
              rintro e w2 ⟨rfl, k2⟩
              have B2 := Lib.hid (step B1.out k2)
              clear k2
              go_wp2
              go_ret
              exact ⟨rfl, B2.out⟩
      · rw [hV] at HV
        rw [MW.trucks_yes hG] at ht
        have hc8 := MW.cnt_le8 hG
        rw [ht] at hc8
        have hneg : ¬ t < 0 := by omega
        have hle : ((G.length : Int) != (W.length : Int)) = true := by rw [bne_iff_ne]; omega
        clear ho ht hV hG hc8 hL
        go_wp2_with fail
        refine (HI.out _ NW.out NG.out).mono ?_
        rintro e v1 ⟨rfl, k1⟩
        replace BL := Lib.hid (step BL.out k1)
        replace NW := Lib.hid (NW.out.on k1)
        replace NG := Lib.hid (NG.out.on k1)
        clear k1
        go_wp2_with fail
        refine (HS.out _ NW.out NG.out).mono ?_
        rintro e v2 ⟨rfl, k2⟩
        replace BL := Lib.hid (step BL.out k2)
        replace NW := Lib.hid (NW.out.on k2)
        replace NG := Lib.hid (NG.out.on k2)
        clear k2
        go_wp2_with fail
        refine (HV.out _ NW.out).mono ?_
        rintro e v3 ⟨rfl, k3⟩
        replace BL := Lib.hid (step BL.out k3)
        replace NW := Lib.hid (NW.out.on k3)
        replace NG := Lib.hid (NG.out.on k3)
        clear k3
        go_wp2_with fail
        refine (HT.out _ NG.out).mono ?_
        rintro e v4 ⟨rfl, k4⟩
        replace BL := Lib.hid (step BL.out k4)
        replace NW := Lib.hid (NW.out.on k4)
        replace NG := Lib.hid (NG.out.on k4)
        clear k4
        go_wp2_with fail
        refine (HS.out _ NW.out NG.out).mono ?_
        rintro e v5 ⟨rfl, k5⟩
        replace BL := Lib.hid (step BL.out k5)
        replace NW := Lib.hid (NW.out.on k5)
        replace NG := Lib.hid (NG.out.on k5)
        clear k5
        go_wp2
        go_ret
        exact ⟨rfl, BL.out⟩

set_option maxRecDepth 100000 in
theorem lifted (os : Os) (started : os.Started) (H : Type) (enc : TypeId × Value → H) :
    ReturnsInHanded {} Try.checked os 6 .any (Rows.fnLoadingSpec.pre6 enc Try.prog Try.f6 Rows.fnLoadingRow.domain false) (Rows.fnLoadingSpec.post enc Try.prog Try.f6 false true false false) := by
  refine returnsInHanded_of_change (C := Try.checked) own started (by kernel_rfl) Try.func6
    (ChangeSpec.witness6 (enc := enc) (C := Try.checked) false ⟨#[], #[.slice none 0 0], []⟩ 8 (by kernel_rfl) (by kernel_rfl) (by kernel_rfl) (by kernel_rfl)) ?_
  intro W base args ds gs before hval0 hW hcnd _
  have hval : ∀ (j : Nat) t v, Try.f6.params[j]? = some t → args[j]? = some v → Value.okWide Try.prog W .any base t v := hval0
  have hW' := hW
  obtain ⟨p, q, hA0, hV, rfl, hfz, hnd⟩ := hW
  have hA : DataW.TrodAll enc Try.prog W 0 (fun _ => true) true Try.f6.params.toList args.toList ds p := hA0
  rw [Try.params6] at hA hval
  obtain ⟨v0, vs0, d0, ds0, p0, q0, hargs, rfl, rfl, h0, r0⟩ := trodAll_cons hA
  obtain ⟨rfl, rfl, rfl⟩ := trodAll_nil r0
  obtain rfl : args = #[v0] := by cases args; simp_all
  obtain ⟨rfl, rfl⟩ := trodVars_none hV
  have g0 := h0
  have lt0 : ∀ x ∈ p0, x.block < W.heap.size := by obtain ⟨m, hm⟩ := g0; exact DataW.trod_lt m _ _ _ hm
  obtain ⟨a0, l0, k0, rfl⟩ := okWide_slice Try.underlying22 (hval 0 22 v0 rfl rfl)
  obtain ⟨z0, w0⟩ : ∃ zs, IsRow .u8 W a0 l0 k0 zs := by
    obtain ⟨fuel, hf⟩ := h0
    rcases open_ints Try.underlying22 Try.underlying5 (by kernel_rfl) hf with ⟨hcs, _⟩ | ⟨x, l, c, zs, hcs, _, hl, hm, hz, _, hcell, hwz⟩
    · simp [Value.cells] at hcs
      obtain ⟨rfl, rfl, rfl⟩ := hcs
      exact ⟨[], .inl ⟨rfl, rfl, rfl, rfl⟩⟩
    · simp [Value.cells] at hcs
      obtain ⟨rfl, rfl, rfl⟩ := hcs
      exact ⟨zs, .inr ⟨_, rfl, hl, hm, by simpa using hz, hcell, hwz⟩⟩
  clear hA0 hval0
  refine (walk W a0 l0 k0 z0 w0).mono fun e W' ⟨he, bel⟩ => ?_
  subst he
  exact ⟨_, rfl, _, _, _, [], _, [], hW', trodAll_mk1 (shut_bool Try.underlying4 _), (trodAll_cons_mk (Below.trod laidOut (by kernel_rfl) (of_decide_eq_true (by kernel_rfl)) g0 bel lt0) trodAll_mk0), rfl, bel.frame _, fun h => by cases h⟩

theorem proved : Rows.FnLoadingSaid :=
  OpenClaim.holds_of_wide 6 Try.f6 rfl rfl rfl rfl rfl rfl rfl ⟨rfl, rfl, rfl, rfl, rfl⟩ rfl rfl rfl rfl rfl (by kernel_rfl) Try.func6 (by kernel_rfl)
    (of_decide_eq_true (by kernel_rfl)) (by unfold Func.isWrapper; first | (rw [if_pos (by decide +kernel)]; kernel_rfl) | (rw [if_neg (by decide +kernel)]; exact ⟨rfl, rfl⟩))
    (fun os started H enc _ => lifted os started H enc)
#print axioms proved
end Go.Proofs.Ytmoghfgfdbdioaa.fnLoading
