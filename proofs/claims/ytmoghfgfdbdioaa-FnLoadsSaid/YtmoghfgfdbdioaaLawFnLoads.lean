/-
  For every slice of bytes, laws.FnLoads returns true.
-/
import Derived.Test.YtmoghfgfdbdioaaRows
import Derived.Test.YtmoghfgfdbdioaaDrawL
import Derived.Test.YtmoghfgfdbdioaaLoadM
import Derived.Test.YtmoghfgfdbdioaaTrkC
import Derived.Test.YtmoghfgfdbdioaaSoB
import Derived.BigQuiet
import Derived.WalkKit
import Derived.ProofKit
import Derived.OpenShut
import Derived.ShutString
import Derived.ChangeOld
import Derived.Below
import Derived.Handy
import Derived.Lib.Hide
namespace Go.Proofs.Ytmoghfgfdbdioaa.fnLoads
open Go.ChangeShapes Go.WideShapes Go.ChangeAt Go.RowKit
open Go.ChangeMaps (open_string shut_string)
open Go.PlainAid (bt get_bt bt_nonneg bt_le)
set_option linter.unusedVariables false

theorem own : ownKnob Try.prog.godebug = none := by kernel_rfl
theorem laidOut : laidOutB Try.prog = true := by kernel_rfl

set_option maxHeartbeats 40000000 in
set_option maxRecDepth 100000 in
theorem walk (w : World) (a0 : Option Addr) (l0 k0 : Nat) (z0 : List Int) (w0 : IsRow .u8 w a0 l0 k0 z0) :
    Calls Try.prog 5 #[.slice a0 l0 k0] w fun e w' => e = .returned (.bool true) ∧ Below w.heap.size w w' := by
  by_cases hl : 1048576 < l0
  · go_enter Try.func5, Try.ntmps5
    go_wp2
    go_ret
    exact ⟨rfl, Below.refl _ _⟩
  go_enter Try.func5, Try.ntmps5
  go_wp2_with fail
  refine (DrawTruckLoads_any a0 l0 k0 z0 w w0).mono ?_
  rintro e u ⟨a, c, W, a2, c2, G, rfl, nw, hw9, ng, hg10, bl⟩
  have NW := Lib.hid nw
  have NG := Lib.hid ng
  have BL := Lib.hid bl
  have hw2 : W.length ≤ 1048576 := by omega
  have hg2 : G.length ≤ 1048576 := by omega
  clear nw ng bl
  have HI := Lib.hid (fun X hw hg => impl_TruckLoads X a W.length c W hw rfl hw2 a2 G.length c2 G hg rfl hg2)
  have HS := Lib.hid (fun X hw hg => spec_TruckLoads X a W.length c W hw rfl hw2 a2 G.length c2 G hg rfl hg2)
  have HT : Hid (∀ X, Nums X a2 G → Calls Try.prog 14 #[.slice a2 G.length c2] X fun e w' => e = .returned (.int .i64 (MW.trucks G)) ∧ Below X.heap.size X w') := fun X hg => (impl_TruckCount X a2 G.length c2 G hg rfl hg2).mono fun e w' ⟨h1, h2⟩ => ⟨h1, h2 ▸ Below.refl _ _⟩
  have HU : Hid (∀ X, Nums X a2 G → Calls Try.prog 23 #[.slice a2 G.length c2] X fun e w' => e = .returned (.int .i64 (MW.trucks G)) ∧ Below X.heap.size X w') := fun X hg => (spec_TruckCount X a2 G.length c2 G hg rfl hg2).mono fun e w' ⟨h1, h2⟩ => ⟨h1, h2 ▸ Below.refl _ _⟩
  have HV := Lib.hid (fun X hw => impl_WeightsValid X a W.length c W hw rfl hw2 1000)
  obtain ⟨R, hR⟩ : ∃ R, MW.truckLoads W G = R := ⟨_, rfl⟩
  have hr8 := MW.truckLoads_le W G
  rw [hR] at HI HS hr8
  have hr2 : R.length ≤ 1048576 := by omega
  obtain ⟨t, ht⟩ : ∃ t, MW.trucks G = t := ⟨_, rfl⟩
  rw [ht] at HT HU
  cases hV : MW.wOk W 1000
  · rw [hV] at HV
    clear hR ht hV
    have hn1 : (t != t) = false := by simp
    have hn2 : (t == t) = true := by simp
    go_wp2_with fail
    refine (HI.out _ NW.out NG.out).mono ?_
    rintro e v1 ⟨p1, rfl, r1, k1⟩
    replace BL := Lib.hid (step BL.out k1)
    replace NW := Lib.hid (NW.out.on k1)
    replace NG := Lib.hid (NG.out.on k1)
    have R1 := Lib.hid r1
    clear k1
    obtain ⟨a4, c4, rfl, _⟩ := r1.cells
    clear r1
    go_wp2_with fail
    refine (HT.out _ NG.out).mono ?_
    rintro e v2 ⟨rfl, k2⟩
    replace BL := Lib.hid (step BL.out k2)
    replace NW := Lib.hid (NW.out.on k2)
    replace NG := Lib.hid (NG.out.on k2)
    replace R1 := Lib.hid (R1.out.on k2)
    clear k2
    go_wp2_with fail
    refine (HS.out _ NW.out NG.out).mono ?_
    rintro e v3 ⟨p2, rfl, r2, k3⟩
    replace BL := Lib.hid (step BL.out k3)
    replace NW := Lib.hid (NW.out.on k3)
    replace NG := Lib.hid (NG.out.on k3)
    replace R1 := Lib.hid (R1.out.on k3)
    have R2 := Lib.hid r2
    clear k3
    obtain ⟨a5, c5, rfl, _⟩ := r2.cells
    clear r2
    go_wp2_with fail
    refine (soInts_same _ _ _ _ _ R R1.out R2.out hr2).mono ?_
    rintro e v4 ⟨rfl, k4⟩
    replace BL := Lib.hid (step BL.out k4)
    replace NW := Lib.hid (NW.out.on k4)
    replace NG := Lib.hid (NG.out.on k4)
    replace R1 := Lib.hid (R1.out.on k4)
    replace R2 := Lib.hid (R2.out.on k4)
    clear k4
    clear R2
    go_wp2_with fail
    refine (HU.out _ NG.out).mono ?_
    rintro e v5 ⟨rfl, k5⟩
    replace BL := Lib.hid (step BL.out k5)
    replace NW := Lib.hid (NW.out.on k5)
    replace NG := Lib.hid (NG.out.on k5)
    replace R1 := Lib.hid (R1.out.on k5)
    clear k5
    go_wp2_with fail
    refine (HV.out _ NW.out).mono ?_
    rintro e v6 ⟨rfl, k6⟩
    replace BL := Lib.hid (step BL.out k6)
    replace NW := Lib.hid (NW.out.on k6)
    replace NG := Lib.hid (NG.out.on k6)
    replace R1 := Lib.hid (R1.out.on k6)
    clear k6
    go_wp2_with fail
    refine (HS.out _ NW.out NG.out).mono ?_
    rintro e v7 ⟨p3, rfl, r3, k7⟩
    replace BL := Lib.hid (step BL.out k7)
    replace NW := Lib.hid (NW.out.on k7)
    replace NG := Lib.hid (NG.out.on k7)
    replace R1 := Lib.hid (R1.out.on k7)
    have R3 := Lib.hid r3
    clear k7
    obtain ⟨a6, c6, rfl, _⟩ := r3.cells
    clear r3
    go_wp2_with fail
    refine (soInts_same _ _ _ _ _ R R1.out R3.out hr2).mono ?_
    rintro e v8 ⟨rfl, k8⟩
    replace BL := Lib.hid (step BL.out k8)
    replace NW := Lib.hid (NW.out.on k8)
    replace NG := Lib.hid (NG.out.on k8)
    replace R1 := Lib.hid (R1.out.on k8)
    replace R3 := Lib.hid (R3.out.on k8)
    clear k8
    go_wp2_with fail
    refine (HU.out _ NG.out).mono ?_
    rintro e v9 ⟨rfl, k9⟩
    replace BL := Lib.hid (step BL.out k9)
    replace NW := Lib.hid (NW.out.on k9)
    replace NG := Lib.hid (NG.out.on k9)
    replace R1 := Lib.hid (R1.out.on k9)
    replace R3 := Lib.hid (R3.out.on k9)
    clear k9
    go_wp2
    go_ret
    exact ⟨rfl, BL.out⟩
  · cases hG : MW.gOk G
    · rw [hV] at HV
      rw [MW.trucks_no hG] at ht
      subst ht
      clear hR hV hG
      go_wp2_with fail
      refine (HI.out _ NW.out NG.out).mono ?_
      rintro e v1 ⟨p1, rfl, r1, k1⟩
      replace BL := Lib.hid (step BL.out k1)
      replace NW := Lib.hid (NW.out.on k1)
      replace NG := Lib.hid (NG.out.on k1)
      have R1 := Lib.hid r1
      clear k1
      obtain ⟨a4, c4, rfl, _⟩ := r1.cells
      clear r1
      go_wp2_with fail
      refine (HT.out _ NG.out).mono ?_
      rintro e v2 ⟨rfl, k2⟩
      replace BL := Lib.hid (step BL.out k2)
      replace NW := Lib.hid (NW.out.on k2)
      replace NG := Lib.hid (NG.out.on k2)
      replace R1 := Lib.hid (R1.out.on k2)
      clear k2
      go_wp2_with fail
      refine (HS.out _ NW.out NG.out).mono ?_
      rintro e v3 ⟨p2, rfl, r2, k3⟩
      replace BL := Lib.hid (step BL.out k3)
      replace NW := Lib.hid (NW.out.on k3)
      replace NG := Lib.hid (NG.out.on k3)
      replace R1 := Lib.hid (R1.out.on k3)
      have R2 := Lib.hid r2
      clear k3
      obtain ⟨a5, c5, rfl, _⟩ := r2.cells
      clear r2
      go_wp2_with fail
      refine (soInts_same _ _ _ _ _ R R1.out R2.out hr2).mono ?_
      rintro e v4 ⟨rfl, k4⟩
      replace BL := Lib.hid (step BL.out k4)
      replace NW := Lib.hid (NW.out.on k4)
      replace NG := Lib.hid (NG.out.on k4)
      replace R1 := Lib.hid (R1.out.on k4)
      replace R2 := Lib.hid (R2.out.on k4)
      clear k4
      clear R2
      go_wp2_with fail
      refine (HU.out _ NG.out).mono ?_
      rintro e v5 ⟨rfl, k5⟩
      replace BL := Lib.hid (step BL.out k5)
      replace NW := Lib.hid (NW.out.on k5)
      replace NG := Lib.hid (NG.out.on k5)
      replace R1 := Lib.hid (R1.out.on k5)
      clear k5
      go_wp2_with fail
      refine (HV.out _ NW.out).mono ?_
      rintro e v6 ⟨rfl, k6⟩
      replace BL := Lib.hid (step BL.out k6)
      replace NW := Lib.hid (NW.out.on k6)
      replace NG := Lib.hid (NG.out.on k6)
      replace R1 := Lib.hid (R1.out.on k6)
      clear k6
      go_wp2_with fail
      refine (HS.out _ NW.out NG.out).mono ?_
      rintro e v7 ⟨p3, rfl, r3, k7⟩
      replace BL := Lib.hid (step BL.out k7)
      replace NW := Lib.hid (NW.out.on k7)
      replace NG := Lib.hid (NG.out.on k7)
      replace R1 := Lib.hid (R1.out.on k7)
      have R3 := Lib.hid r3
      clear k7
      obtain ⟨a6, c6, rfl, _⟩ := r3.cells
      clear r3
      go_wp2_with fail
      refine (soInts_same _ _ _ _ _ R R1.out R3.out hr2).mono ?_
      rintro e v8 ⟨rfl, k8⟩
      replace BL := Lib.hid (step BL.out k8)
      replace NW := Lib.hid (NW.out.on k8)
      replace NG := Lib.hid (NG.out.on k8)
      replace R1 := Lib.hid (R1.out.on k8)
      replace R3 := Lib.hid (R3.out.on k8)
      clear k8
      go_wp2_with fail
      refine (HU.out _ NG.out).mono ?_
      rintro e v9 ⟨rfl, k9⟩
      replace BL := Lib.hid (step BL.out k9)
      replace NW := Lib.hid (NW.out.on k9)
      replace NG := Lib.hid (NG.out.on k9)
      replace R1 := Lib.hid (R1.out.on k9)
      replace R3 := Lib.hid (R3.out.on k9)
      clear k9
      go_wp2
      go_ret
      exact ⟨rfl, BL.out⟩
    · by_cases hL : W.length = G.length
      · rw [hV] at HV
        rw [MW.trucks_yes hG] at ht
        obtain ⟨m1, m2, m3, m4, m5, m6⟩ := MW.load_law hV hG hL hR
        have hwz := MW.wOk_gz hV
        have hw8 : W.length ≤ 8 := ((MW.wOk_iff W 1000).1 hV).2.1
        rw [← m1] at ht m6
        subst ht
        have M3 := Lib.hid m3
        have M4 := Lib.hid m4
        have M5 := Lib.hid m5
        have M6 := Lib.hid m6
        have HWZ := Lib.hid hwz
        have HTB := Lib.hid (fun m => MW.tot_bd hwz m)
        have HPB := Lib.hid (fun k m => MW.part_bd hwz G k m)
        have HLT : Hid (∀ i, i < W.length → i < G.length) := fun i hi => by omega
        have hneg : ¬ (R.length : Int) < 0 := by omega
        have hle : ((W.length : Int) != (G.length : Int)) = false := by rw [hL]; simp
        have hn1 : ((R.length : Int) != (R.length : Int)) = false := by simp
        have hn2 : ((R.length : Int) == (R.length : Int)) = true := by simp
        clear hR hV hG hL m1 m3 m4 m5 m6 hwz
        go_wp2_with fail
        refine (HI.out _ NW.out NG.out).mono ?_
        rintro e v1 ⟨p1, rfl, r1, k1⟩
        replace BL := Lib.hid (step BL.out k1)
        replace NW := Lib.hid (NW.out.on k1)
        replace NG := Lib.hid (NG.out.on k1)
        have R1 := Lib.hid r1
        clear k1
        obtain ⟨a4, c4, rfl, _⟩ := r1.cells
        clear r1
        go_wp2_with fail
        refine (HT.out _ NG.out).mono ?_
        rintro e v2 ⟨rfl, k2⟩
        replace BL := Lib.hid (step BL.out k2)
        replace NW := Lib.hid (NW.out.on k2)
        replace NG := Lib.hid (NG.out.on k2)
        replace R1 := Lib.hid (R1.out.on k2)
        clear k2
        go_wp2_with fail
        refine (HS.out _ NW.out NG.out).mono ?_
        rintro e v3 ⟨p2, rfl, r2, k3⟩
        replace BL := Lib.hid (step BL.out k3)
        replace NW := Lib.hid (NW.out.on k3)
        replace NG := Lib.hid (NG.out.on k3)
        replace R1 := Lib.hid (R1.out.on k3)
        have R2 := Lib.hid r2
        clear k3
        obtain ⟨a5, c5, rfl, _⟩ := r2.cells
        clear r2
        go_wp2_with fail
        refine (soInts_same _ _ _ _ _ R R1.out R2.out hr2).mono ?_
        rintro e v4 ⟨rfl, k4⟩
        replace BL := Lib.hid (step BL.out k4)
        replace NW := Lib.hid (NW.out.on k4)
        replace NG := Lib.hid (NG.out.on k4)
        replace R1 := Lib.hid (R1.out.on k4)
        replace R2 := Lib.hid (R2.out.on k4)
        clear k4
        clear R2
        go_wp2_with fail
        refine (HU.out _ NG.out).mono ?_
        rintro e v5 ⟨rfl, k5⟩
        replace BL := Lib.hid (step BL.out k5)
        replace NW := Lib.hid (NW.out.on k5)
        replace NG := Lib.hid (NG.out.on k5)
        replace R1 := Lib.hid (R1.out.on k5)
        clear k5
        go_wp2_with fail
        refine (HV.out _ NW.out).mono ?_
        rintro e v6 ⟨rfl, k6⟩
        replace BL := Lib.hid (step BL.out k6)
        replace NW := Lib.hid (NW.out.on k6)
        replace NG := Lib.hid (NG.out.on k6)
        replace R1 := Lib.hid (R1.out.on k6)
        clear k6
        have HV6 := Lib.hid BL.out
        clear BL HV HU HT HI HS
        obtain ⟨Z, hZ⟩ : ∃ Z, v6 = Z := ⟨_, rfl⟩
        rw [hZ] at NW NG R1 HV6 ⊢
        clear hZ
        go_wp2
        go_loopw [7, 8] (fun vs vi wr => ∃ (m : Nat) (T : Int), m ≤ W.length ∧ vs = .int .i64 T ∧ vi = .int .i64 m ∧ Hid (MW.tot W m = T) ∧ Hid (Below Z.heap.size Z wr)) (fun _ vi _ => W.length - (intOf vi).toNat)
        case atStart => exact ⟨0, 0, Nat.zero_le _, rfl, rfl, rfl, Below.refl _ _⟩
        case round =>
          obtain ⟨m, T, hm, rfl, rfl, hT, hbw⟩ := hrel
          by_cases hlt : m < W.length
          · have hmi : (m : Int) < (W.length : Int) := by omega
            have hm0 : (0 : Int) ≤ (m : Int) := by omega
            have hb := HTB.out m
            have hx := HWZ.out m
            have hnext : Hid (MW.tot W (m + 1) = T + MW.gz W m) := by
              show MW.tot W m + MW.gz W m = _
              rw [hT.out]
            rw [hT.out] at hb
            obtain ⟨b, o, e9, t0⟩ := (NW.out.on hbw.out) m hlt
            subst e9
            generalize MW.gz W m = x at t0 hx hnext
            have hws : IntKind.i64.wrap (T + x) = T + x := IntWalk.i64_in _ (by omega)
            clear hT
            go_wp2
            go_roundw
            case rel => exact ⟨m + 1, T + x, by omega, rfl, by go_num, hnext, by first | exact hbw.out | exact below_drewS hbw.out _⟩
            case measure => first | (simp [intOf]; done) | (simp [intOf]; omega)
          · obtain rfl : m = W.length := by omega
            have hT2 : Hid (MW.left W G W.length 0 = T) := hT.out
            clear hT
            go_wp2
            go_loopw [7, 9] (fun vs vk wr => ∃ (k : Nat) (S : Int), k ≤ R.length ∧ vs = .int .i64 S ∧ vk = .int .i64 k ∧ Hid (MW.left W G W.length k = S) ∧ Hid (Below Z.heap.size Z wr)) (fun _ vk _ => R.length - (intOf vk).toNat)
            case atStart => exact ⟨0, T, Nat.zero_le _, rfl, rfl, hT2, hbw⟩
            case round =>
              obtain ⟨k, S, hk, rfl, rfl, hS, hbk⟩ := hrel
              by_cases hlk : k < R.length
              · have hki : (k : Int) < (R.length : Int) := by omega
                have hk0 : (0 : Int) ≤ (k : Int) := by omega
                have hP0 : Hid (MW.part W G (k : Int) 0 = 0) := rfl
                go_wp2
                go_loopw [10, 11] (fun vl vi wr => ∃ (m : Nat) (P : Int), m ≤ W.length ∧ vl = .int .i64 P ∧ vi = .int .i64 m ∧ Hid (MW.part W G (k : Int) m = P) ∧ Hid (Below Z.heap.size Z wr)) (fun _ vi _ => W.length - (intOf vi).toNat)
                case atStart => exact ⟨0, 0, Nat.zero_le _, rfl, rfl, hP0, hbk⟩
                case round =>
                  obtain ⟨m, P, hm, rfl, rfl, hP, hbm⟩ := hrel
                  by_cases hlm : m < W.length
                  · have hmi : (m : Int) < (W.length : Int) := by omega
                    have hmg : (m : Int) < (G.length : Int) := by have := HLT.out m hlm; omega
                    have hm0 : (0 : Int) ≤ (m : Int) := by omega
                    have hb := HPB.out (k : Int) m
                    have hx := HWZ.out m
                    have hnext : Hid (MW.part W G (k : Int) (m + 1) = if MW.gz G m = (k : Int) then P + MW.gz W m else P) := by
                      show (if MW.gz G m = (k : Int) then MW.part W G (k : Int) m + MW.gz W m else MW.part W G (k : Int) m) = _
                      rw [hP.out]
                    rw [hP.out] at hb
                    obtain ⟨b, o, e9, t0⟩ := (NW.out.on hbm.out) m hlm
                    obtain ⟨b2, o2, e8, t1⟩ := (NG.out.on hbm.out) m (HLT.out m hlm)
                    subst e9 e8
                    generalize MW.gz W m = x at t0 hx hnext
                    generalize MW.gz G m = y at t1 hnext
                    have hws : IntKind.i64.wrap (P + x) = P + x := IntWalk.i64_in _ (by omega)
                    clear hP
                    by_cases hy : y = (k : Int)
                    · have hnx := hnext.out
                      rw [if_pos hy] at hnx
                      have HNX := Lib.hid hnx
                      have hyb : (y == (k : Int)) = true := by rw [beq_iff_eq]; exact hy
                      clear hnx hnext hy
                      go_wp2
                      go_roundw
                      case rel => exact ⟨m + 1, P + x, by omega, rfl, by go_num, HNX, by first | exact hbm.out | exact below_drewS hbm.out _⟩
                      case measure => first | (simp [intOf]; done) | (simp [intOf]; omega)
                    · have hnx := hnext.out
                      rw [if_neg hy] at hnx
                      have HNX := Lib.hid hnx
                      have hyb : (y == (k : Int)) = false := by rw [beq_eq_false_iff_ne]; exact hy
                      clear hnx hnext hy
                      go_wp2
                      go_roundw
                      case rel => exact ⟨m + 1, P, by omega, rfl, by go_num, HNX, by first | exact hbm.out | exact below_drewS hbm.out _⟩
                      case measure => first | (simp [intOf]; done) | (simp [intOf]; omega)
                  · obtain rfl : m = W.length := by omega
                    obtain ⟨a9, c9, e9, hcl⟩ := (R1.out.on hbm.out).cells
                    injection e9 with q1 q2 q3
                    subst q1
                    obtain ⟨g5, hg5, q5⟩ := hcl k hlk
                    subst hg5
                    rw [M3.out k hlk, hP.out] at q5
                    have hpp : (P != P) = false := by simp
                    have hb1 := M5.out k hk
                    have hb2 := HPB.out (k : Int) W.length
                    rw [hS.out] at hb1
                    rw [hP.out] at hb2
                    have hws : IntKind.i64.wrap (S - P) = S - P := IntWalk.i64_in _ (by omega)
                    have hnext : Hid (MW.left W G W.length (k + 1) = S - P) := by
                      show MW.left W G W.length k - MW.part W G (k : Int) W.length = _
                      rw [hS.out, hP.out]
                    clear hcl q2 q3 hP hS
                    go_wp2
                    go_roundw
                    case rel => exact ⟨k + 1, S - P, by omega, rfl, by go_num, hnext, by first | exact hbm.out | exact below_drewS hbm.out _⟩
                    case measure => first | (simp [intOf]; done) | (simp [intOf]; omega)
              · obtain rfl : k = R.length := by omega
                have hS0 := hS.out
                rw [M4.out] at hS0
                subst hS0
                have B9 := Lib.hid (step HV6.out hbk.out)
                by_cases h0 : R.length = 0
                · have hz : ((R.length : Int) == 0) = true := by rw [beq_iff_eq]; omega
                  clear h0
                  go_wp2
                  go_ret
                  exact ⟨rfl, B9.out⟩
                · have hz : ((R.length : Int) == 0) = false := by rw [beq_eq_false_iff_ne]; omega
                  obtain ⟨j, hj, hje, hjp⟩ := M6.out (by omega)
                  have hjp := hjp hj
                  obtain ⟨a9, c9, e9, hcl⟩ := (R1.out.on hbk.out).cells
                  injection e9 with q1 q2 q3
                  subst q1
                  obtain ⟨g5, hg5, q5⟩ := hcl j hj
                  subst hg5
                  generalize R[j] = y at q5 hjp
                  have hjw : IntKind.i64.wrap ((R.length : Int) - 1) = (j : Int) := (IntWalk.i64_in _ (by omega)).trans (by omega)
                  have hj0 : (0 : Int) ≤ (j : Int) := by omega
                  have hj1 : (j : Int) < (R.length : Int) := by omega
                  have hy2 : decide (0 < y) = true := decide_eq_true hjp
                  clear hcl q2 q3 h0 hje
                  go_wp2
                  go_ret
                  exact ⟨rfl, B9.out⟩
      · rw [hV] at HV
        rw [MW.trucks_yes hG] at ht
        have hc8 := MW.cnt_le8 hG
        rw [ht] at hc8
        have hneg : ¬ t < 0 := by omega
        have hle : ((W.length : Int) != (G.length : Int)) = true := by rw [bne_iff_ne]; omega
        clear hR ht hV hG hc8 hL
        have hn1 : (t != t) = false := by simp
        have hn2 : (t == t) = true := by simp
        go_wp2_with fail
        refine (HI.out _ NW.out NG.out).mono ?_
        rintro e v1 ⟨p1, rfl, r1, k1⟩
        replace BL := Lib.hid (step BL.out k1)
        replace NW := Lib.hid (NW.out.on k1)
        replace NG := Lib.hid (NG.out.on k1)
        have R1 := Lib.hid r1
        clear k1
        obtain ⟨a4, c4, rfl, _⟩ := r1.cells
        clear r1
        go_wp2_with fail
        refine (HT.out _ NG.out).mono ?_
        rintro e v2 ⟨rfl, k2⟩
        replace BL := Lib.hid (step BL.out k2)
        replace NW := Lib.hid (NW.out.on k2)
        replace NG := Lib.hid (NG.out.on k2)
        replace R1 := Lib.hid (R1.out.on k2)
        clear k2
        go_wp2_with fail
        refine (HS.out _ NW.out NG.out).mono ?_
        rintro e v3 ⟨p2, rfl, r2, k3⟩
        replace BL := Lib.hid (step BL.out k3)
        replace NW := Lib.hid (NW.out.on k3)
        replace NG := Lib.hid (NG.out.on k3)
        replace R1 := Lib.hid (R1.out.on k3)
        have R2 := Lib.hid r2
        clear k3
        obtain ⟨a5, c5, rfl, _⟩ := r2.cells
        clear r2
        go_wp2_with fail
        refine (soInts_same _ _ _ _ _ R R1.out R2.out hr2).mono ?_
        rintro e v4 ⟨rfl, k4⟩
        replace BL := Lib.hid (step BL.out k4)
        replace NW := Lib.hid (NW.out.on k4)
        replace NG := Lib.hid (NG.out.on k4)
        replace R1 := Lib.hid (R1.out.on k4)
        replace R2 := Lib.hid (R2.out.on k4)
        clear k4
        clear R2
        go_wp2_with fail
        refine (HU.out _ NG.out).mono ?_
        rintro e v5 ⟨rfl, k5⟩
        replace BL := Lib.hid (step BL.out k5)
        replace NW := Lib.hid (NW.out.on k5)
        replace NG := Lib.hid (NG.out.on k5)
        replace R1 := Lib.hid (R1.out.on k5)
        clear k5
        go_wp2_with fail
        refine (HV.out _ NW.out).mono ?_
        rintro e v6 ⟨rfl, k6⟩
        replace BL := Lib.hid (step BL.out k6)
        replace NW := Lib.hid (NW.out.on k6)
        replace NG := Lib.hid (NG.out.on k6)
        replace R1 := Lib.hid (R1.out.on k6)
        clear k6
        go_wp2_with fail
        refine (HS.out _ NW.out NG.out).mono ?_
        rintro e v7 ⟨p3, rfl, r3, k7⟩
        replace BL := Lib.hid (step BL.out k7)
        replace NW := Lib.hid (NW.out.on k7)
        replace NG := Lib.hid (NG.out.on k7)
        replace R1 := Lib.hid (R1.out.on k7)
        have R3 := Lib.hid r3
        clear k7
        obtain ⟨a6, c6, rfl, _⟩ := r3.cells
        clear r3
        go_wp2_with fail
        refine (soInts_same _ _ _ _ _ R R1.out R3.out hr2).mono ?_
        rintro e v8 ⟨rfl, k8⟩
        replace BL := Lib.hid (step BL.out k8)
        replace NW := Lib.hid (NW.out.on k8)
        replace NG := Lib.hid (NG.out.on k8)
        replace R1 := Lib.hid (R1.out.on k8)
        replace R3 := Lib.hid (R3.out.on k8)
        clear k8
        go_wp2_with fail
        refine (HU.out _ NG.out).mono ?_
        rintro e v9 ⟨rfl, k9⟩
        replace BL := Lib.hid (step BL.out k9)
        replace NW := Lib.hid (NW.out.on k9)
        replace NG := Lib.hid (NG.out.on k9)
        replace R1 := Lib.hid (R1.out.on k9)
        replace R3 := Lib.hid (R3.out.on k9)
        clear k9
        go_wp2
        go_ret
        exact ⟨rfl, BL.out⟩

set_option maxRecDepth 100000 in
theorem lifted (os : Os) (started : os.Started) (H : Type) (enc : TypeId × Value → H) :
    ReturnsInHanded {} Try.checked os 5 .any (Rows.fnLoadsSpec.pre6 enc Try.prog Try.f5 Rows.fnLoadsRow.domain false) (Rows.fnLoadsSpec.post enc Try.prog Try.f5 false true false false) := by
  refine returnsInHanded_of_change (C := Try.checked) own started (by kernel_rfl) Try.func5
    (ChangeSpec.witness6 (enc := enc) (C := Try.checked) false ⟨#[], #[.slice none 0 0], []⟩ 8 (by kernel_rfl) (by kernel_rfl) (by kernel_rfl) (by kernel_rfl)) ?_
  intro W base args ds gs before hval0 hW hcnd _
  have hval : ∀ (j : Nat) t v, Try.f5.params[j]? = some t → args[j]? = some v → Value.okWide Try.prog W .any base t v := hval0
  have hW' := hW
  obtain ⟨p, q, hA0, hV, rfl, hfz, hnd⟩ := hW
  have hA : DataW.TrodAll enc Try.prog W 0 (fun _ => true) true Try.f5.params.toList args.toList ds p := hA0
  rw [Try.params5] at hA hval
  obtain ⟨v0, vs0, d0, ds0, p0, q0, hargs, rfl, rfl, h0, r0⟩ := trodAll_cons hA
  obtain ⟨rfl, rfl, rfl⟩ := trodAll_nil r0
  obtain rfl : args = #[v0] := by cases args; simp_all
  obtain ⟨rfl, rfl⟩ := trodVars_none hV
  have g0 := h0
  have lt0 : ∀ x ∈ p0, x.block < W.heap.size := by obtain ⟨m, hm⟩ := g0; exact DataW.trod_lt m _ _ _ hm
  obtain ⟨a0, l0, k0, rfl⟩ := okWide_slice Try.underlying22 (hval 0 22 v0 rfl rfl)
  obtain ⟨z0, w0⟩ : ∃ zs, IsRow .u8 W a0 l0 k0 zs := by
    obtain ⟨fuel, hf⟩ := h0
    rcases open_ints Try.underlying22 Try.underlying5 (by kernel_rfl) hf with ⟨hcs, _⟩ | ⟨x, l, c, zs, hcs, _, hl, hm, hz, _, hcell, hwz⟩
    · simp [Value.cells] at hcs
      obtain ⟨rfl, rfl, rfl⟩ := hcs
      exact ⟨[], .inl ⟨rfl, rfl, rfl, rfl⟩⟩
    · simp [Value.cells] at hcs
      obtain ⟨rfl, rfl, rfl⟩ := hcs
      exact ⟨zs, .inr ⟨_, rfl, hl, hm, by simpa using hz, hcell, hwz⟩⟩
  clear hA0 hval0
  refine (walk W a0 l0 k0 z0 w0).mono fun e W' ⟨he, bel⟩ => ?_
  subst he
  exact ⟨_, rfl, _, _, _, [], _, [], hW', trodAll_mk1 (shut_bool Try.underlying4 _), (trodAll_cons_mk (Below.trod laidOut (by kernel_rfl) (of_decide_eq_true (by kernel_rfl)) g0 bel lt0) trodAll_mk0), rfl, bel.frame _, fun h => by cases h⟩

theorem proved : Rows.FnLoadsSaid :=
  OpenClaim.holds_of_wide 5 Try.f5 rfl rfl rfl rfl rfl rfl rfl ⟨rfl, rfl, rfl, rfl, rfl⟩ rfl rfl rfl rfl rfl (by kernel_rfl) Try.func5 (by kernel_rfl)
    (of_decide_eq_true (by kernel_rfl)) (by unfold Func.isWrapper; first | (rw [if_pos (by decide +kernel)]; kernel_rfl) | (rw [if_neg (by decide +kernel)]; exact ⟨rfl, rfl⟩))
    (fun os started H enc _ => lifted os started H enc)
#print axioms proved
end Go.Proofs.Ytmoghfgfdbdioaa.fnLoads
