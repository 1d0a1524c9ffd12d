/-
  For every slice of bytes, laws.FnFirstFit returns true.
-/
import Derived.Test.YtmoghfgfdbdioaaRows
import Derived.Test.YtmoghfgfdbdioaaDrawFF
import Derived.Test.YtmoghfgfdbdioaaPackJ
import Derived.Test.YtmoghfgfdbdioaaSoB
import Derived.BigQuiet
import Derived.IntWalk
import Derived.WalkKit
import Derived.ProofKit
import Derived.OpenShut
import Derived.ShutString
import Derived.ChangeOld
import Derived.Below
import Derived.Handy
import Derived.Lib.Hide
namespace Go.Proofs.Ytmoghfgfdbdioaa.fnFirstFit
open Go.ChangeShapes Go.WideShapes Go.ChangeAt Go.RowKit
open Go.ChangeMaps (open_string shut_string)
open Go.PlainAid (bt get_bt bt_nonneg bt_le)
set_option linter.unusedVariables false

theorem own : ownKnob Try.prog.godebug = none := by kernel_rfl
theorem laidOut : laidOutB Try.prog = true := by kernel_rfl

set_option maxHeartbeats 40000000 in
set_option maxRecDepth 100000 in
theorem walk (w : World) (a0 : Option Addr) (l0 k0 : Nat) (z0 : List Int) (w0 : IsRow .u8 w a0 l0 k0 z0) :
    Calls Try.prog 3 #[.slice a0 l0 k0] w fun e w' => e = .returned (.bool true) ∧ Below w.heap.size w w' := by
  by_cases hl : 1048576 < l0
  · go_enter Try.func3, Try.ntmps3
    go_wp2
    go_ret
    exact ⟨rfl, Below.refl _ _⟩
  go_enter Try.func3, Try.ntmps3
  go_wp2_with fail
  refine (DrawFirstFit_any a0 l0 k0 z0 w w0).mono ?_
  rintro e u ⟨a, c, W, q, rfl, nw, hw9, hwc, bl⟩
  have NW := Lib.hid nw
  have BL := Lib.hid bl
  have hw2 : W.length ≤ 1048576 := by omega
  clear nw bl
  have HI := Lib.hid (fun X hw => impl_FirstFit X a W.length c W hw rfl hw2 q)
  have HS := Lib.hid (fun X hw => spec_FirstFit X a W.length c W hw rfl hw2 q)
  have HV := Lib.hid (fun X hw => impl_WeightsValid X a W.length c W hw rfl hw2 q)
  have HU : Hid (∀ X, Nums X a W → Calls Try.prog 13 #[.slice a W.length c, .int .i64 q] X fun e w' => e = .returned (.bool (MW.wOk W q)) ∧ Below X.heap.size X w') := fun X hg => (spec_WeightsValid X a W.length c W hg rfl hw2 q).mono fun e w' ⟨h1, h2⟩ => ⟨h1, h2 ▸ Below.refl _ _⟩
  obtain ⟨G, hG⟩ : ∃ G, MW.firstFit W q = G := ⟨_, rfl⟩
  have hg8 := MW.firstFit_le W q
  rw [hG] at HI HS hg8
  have hg2 : G.length ≤ 1048576 := by omega
  cases hV : MW.wOk W q
  · rw [hV] at HV HU
    clear hV hG
    go_wp2_with fail
    refine (HI.out _ NW.out).mono ?_
    rintro e v1 ⟨p1, rfl, r1, k1⟩
    replace BL := Lib.hid (step BL.out k1)
    replace NW := Lib.hid (NW.out.on k1)
    have R1 := Lib.hid r1
    clear k1
    obtain ⟨a4, c4, rfl, _⟩ := r1.cells
    clear r1
    go_wp2_with fail
    refine (HS.out _ NW.out).mono ?_
    rintro e v2 ⟨p2, rfl, r2, k2⟩
    replace BL := Lib.hid (step BL.out k2)
    replace NW := Lib.hid (NW.out.on k2)
    replace R1 := Lib.hid (R1.out.on k2)
    have R2 := Lib.hid r2
    clear k2
    obtain ⟨a5, c5, rfl, _⟩ := r2.cells
    clear r2
    go_wp2_with fail
    refine (soInts_same _ _ _ _ _ G R1.out R2.out hg2).mono ?_
    rintro e v3 ⟨rfl, k3⟩
    replace BL := Lib.hid (step BL.out k3)
    replace NW := Lib.hid (NW.out.on k3)
    replace R1 := Lib.hid (R1.out.on k3)
    replace R2 := Lib.hid (R2.out.on k3)
    clear k3
    clear R2
    go_wp2_with fail
    refine (HV.out _ NW.out).mono ?_
    rintro e v4 ⟨rfl, k4⟩
    replace BL := Lib.hid (step BL.out k4)
    replace NW := Lib.hid (NW.out.on k4)
    replace R1 := Lib.hid (R1.out.on k4)
    clear k4
    go_wp2_with fail
    refine (HU.out _ NW.out).mono ?_
    rintro e v5 ⟨rfl, k5⟩
    replace BL := Lib.hid (step BL.out k5)
    replace NW := Lib.hid (NW.out.on k5)
    replace R1 := Lib.hid (R1.out.on k5)
    clear k5
    go_wp2_with fail
    refine (HV.out _ NW.out).mono ?_
    rintro e v6 ⟨rfl, k6⟩
    replace BL := Lib.hid (step BL.out k6)
    replace NW := Lib.hid (NW.out.on k6)
    replace R1 := Lib.hid (R1.out.on k6)
    clear k6
    go_wp2_with fail
    refine (HS.out _ NW.out).mono ?_
    rintro e v7 ⟨p3, rfl, r3, k7⟩
    replace BL := Lib.hid (step BL.out k7)
    replace NW := Lib.hid (NW.out.on k7)
    replace R1 := Lib.hid (R1.out.on k7)
    have R3 := Lib.hid r3
    clear k7
    obtain ⟨a6, c6, rfl, _⟩ := r3.cells
    clear r3
    go_wp2_with fail
    refine (soInts_same _ _ _ _ _ G R1.out R3.out hg2).mono ?_
    rintro e v8 ⟨rfl, k8⟩
    replace BL := Lib.hid (step BL.out k8)
    replace NW := Lib.hid (NW.out.on k8)
    replace R1 := Lib.hid (R1.out.on k8)
    replace R3 := Lib.hid (R3.out.on k8)
    clear k8
    go_wp2_with fail
    refine (HV.out _ NW.out).mono ?_
    rintro e v9 ⟨rfl, k9⟩
    replace BL := Lib.hid (step BL.out k9)
    replace NW := Lib.hid (NW.out.on k9)
    replace R1 := Lib.hid (R1.out.on k9)
    replace R3 := Lib.hid (R3.out.on k9)
    clear k9
    go_wp2_with fail
    refine (HU.out _ NW.out).mono ?_
    rintro e v10 ⟨rfl, k10⟩
    replace BL := Lib.hid (step BL.out k10)
    replace NW := Lib.hid (NW.out.on k10)
    replace R1 := Lib.hid (R1.out.on k10)
    replace R3 := Lib.hid (R3.out.on k10)
    clear k10
    go_wp2
    go_ret
    exact ⟨rfl, BL.out⟩
  · obtain ⟨f1, f2, f3, f4⟩ := MW.first_law hV hG
    obtain ⟨b1, b2, b3, b4, b5, b6⟩ := MW.first_bound hV hG
    have hwz := MW.wOk_gz hV
    have hw8 : W.length ≤ 8 := ((MW.wOk_iff W q).1 hV).2.1
    have hq1 := ((MW.wOk_iff W q).1 hV).1
    have hbd := MW.least_bd hV
    have F3 := Lib.hid f3
    have F1 := Lib.hid f1
    have HB3 := Lib.hid b3
    have HWZ := Lib.hid hwz
    have HPB := Lib.hid (fun k m => MW.part_bd hwz G k m)
    obtain ⟨N, hN⟩ : ∃ N, MW.trucks G = N := ⟨_, rfl⟩
    obtain ⟨b, hb⟩ : ∃ b, MW.leastTrucks W q = b := ⟨_, rfl⟩
    rw [hN] at b1 b2 b4
    rw [hb] at b1 b2 hbd
    have HTN := Lib.hid hN
    have HLB := Lib.hid hb
    rw [hV] at HV HU
    clear hV hG f3 f1 b3 hwz f2 f4 hN hb b4 b5 b6
    go_wp2_with fail
    refine (HI.out _ NW.out).mono ?_
    rintro e v1 ⟨p1, rfl, r1, k1⟩
    replace BL := Lib.hid (step BL.out k1)
    replace NW := Lib.hid (NW.out.on k1)
    have R1 := Lib.hid r1
    clear k1
    obtain ⟨a4, c4, rfl, _⟩ := r1.cells
    clear r1
    go_wp2_with fail
    refine (HS.out _ NW.out).mono ?_
    rintro e v2 ⟨p2, rfl, r2, k2⟩
    replace BL := Lib.hid (step BL.out k2)
    replace NW := Lib.hid (NW.out.on k2)
    replace R1 := Lib.hid (R1.out.on k2)
    have R2 := Lib.hid r2
    clear k2
    obtain ⟨a5, c5, rfl, _⟩ := r2.cells
    clear r2
    go_wp2_with fail
    refine (soInts_same _ _ _ _ _ G R1.out R2.out hg2).mono ?_
    rintro e v3 ⟨rfl, k3⟩
    replace BL := Lib.hid (step BL.out k3)
    replace NW := Lib.hid (NW.out.on k3)
    replace R1 := Lib.hid (R1.out.on k3)
    replace R2 := Lib.hid (R2.out.on k3)
    clear k3
    clear R2
    go_wp2_with fail
    refine (HV.out _ NW.out).mono ?_
    rintro e v4 ⟨rfl, k4⟩
    replace BL := Lib.hid (step BL.out k4)
    replace NW := Lib.hid (NW.out.on k4)
    replace R1 := Lib.hid (R1.out.on k4)
    clear k4
    go_wp2_with fail
    refine (HU.out _ NW.out).mono ?_
    rintro e v5 ⟨rfl, k5⟩
    replace BL := Lib.hid (step BL.out k5)
    replace NW := Lib.hid (NW.out.on k5)
    replace R1 := Lib.hid (R1.out.on k5)
    clear k5
    go_wp2_with fail
    refine (HV.out _ NW.out).mono ?_
    rintro e v6 ⟨rfl, k6⟩
    replace BL := Lib.hid (step BL.out k6)
    replace NW := Lib.hid (NW.out.on k6)
    replace R1 := Lib.hid (R1.out.on k6)
    clear k6
    clear HI HS HV HU
    obtain ⟨Z, hZ⟩ : ∃ Z, v6 = Z := ⟨_, rfl⟩
    rw [hZ] at NW R1 BL ⊢
    clear hZ
    have hmk := make_ints (W.length + 1) (by omega)
    rw [Int.natCast_succ] at hmk
    have R0 : Hid (IRow (Z.alloc (.cells (madeCells #[.int .i64 0] (W.length + 1)) 3)) Z.heap.size (.slice (some ⟨Z.heap.size, 0, none⟩) (W.length + 1) (W.length + 1)) (MW.ffL W G W.length 0)) := by
      have := irow_made Z (W.length + 1) Z.heap.size (by omega) (Nat.le_refl _)
      rw [Hid, MW.ffL_zero]; exact this
    have B0 := Lib.hid (below_alloc0 Z (.cells (madeCells #[.int .i64 0] (W.length + 1)) 3))
    have NG := Lib.hid R1.out.nums
    have hw1 : IntKind.i64.wrap ((W.length : Int) + 1) = (W.length : Int) + 1 := IntWalk.i64_in _ (by omega)
    go_wp2
    clear hmk
    go_loopw [7] (fun vi wr => ∃ i : Nat, i ≤ W.length ∧ vi = .int .i64 i ∧ Hid (IRow wr Z.heap.size (.slice (some ⟨Z.heap.size, 0, none⟩) (W.length + 1) (W.length + 1)) (MW.ffL W G W.length i)) ∧ Hid (Below Z.heap.size Z wr)) (fun vi _ => W.length - (intOf vi).toNat)
    case atStart => exact ⟨0, Nat.zero_le _, rfl, R0, B0⟩
    case round =>
      obtain ⟨i, hi, rfl, hrow, hbz⟩ := hrel
      have hz := hbz.out.size
      by_cases hin : i < W.length
      · have hini : (i : Int) < (W.length : Int) := by omega
        have hig : i < G.length := by rw [F1.out]; exact hin
        have higi : (i : Int) < (G.length : Int) := by omega
        obtain ⟨h0, hi2, hfit, hno⟩ := F3.out i hin
        obtain ⟨g, hg⟩ : ∃ g : Nat, MW.gz G i = g := ⟨(MW.gz G i).toNat, by omega⟩
        rw [hg] at h0 hi2 hfit hno
        have hgi : g ≤ i := by omega
        have HGI := Lib.hid hg
        have HNO := Lib.hid hno
        have hrow0 := hrow
        have hbz0 := hbz
        clear hfit hno hg
        go_wp2
        go_loopw [8] (fun vk wq => ∃ k : Nat, k ≤ g ∧ vk = .int .i64 k ∧ Hid (IRow wq Z.heap.size (.slice (some ⟨Z.heap.size, 0, none⟩) (W.length + 1) (W.length + 1)) (MW.ffL W G W.length i)) ∧ Hid (Below Z.heap.size Z wq)) (fun vk _ => g - (intOf vk).toNat)
        case atStart => exact ⟨0, Nat.zero_le _, rfl, hrow, hbz⟩
        case round =>
          obtain ⟨k, hk, rfl, hrowq, hbq⟩ := hrel
          have hzq := hbq.out.size
          obtain ⟨b2', o2', hab2, c1⟩ := (NG.out.on hbq.out) i (by rw [F1.out]; exact hin)
          subst hab2
          rw [HGI.out] at c1
          obtain ⟨b1', o1', hab1, c0⟩ := (NW.out.on hbq.out) i hin
          subst hab1
          by_cases hkg : k < g
          · have hkgi : (k : Int) < (g : Int) := by omega
            have hks : k < (MW.ffL W G W.length i).length := by rw [MW.ffL_length]; omega
            obtain ⟨c2', f2'⟩ := hrowq.out.at k hks
            rw [MW.gz_ffL (by omega)] at c2'
            have hne := HNO.out k (by omega)
            have hx := HPB.out (k : Int) i
            have hy := HWZ.out i
            have hkb : (k : Int) < (W.length : Int) + 1 := by omega
            have hkb2 : k < W.length + 1 := by omega
            generalize MW.part W G (k : Int) i = x at c2' hne hx
            generalize MW.gz W i = y at c0 hne hy
            have s1 : IntKind.i64.wrap (x + y) = x + y := IntWalk.i64_in _ (by omega)
            have hne2 : decide (x + y ≤ q) = false := decide_eq_false (by omega)
            have hne3 : ¬ x + y ≤ q := by omega
            have hne4 : q < x + y := by omega
            go_wp2_with fail
            go_quiet (fail)
            go_wp2
            go_roundw
            case rel => exact ⟨k + 1, by omega, by go_num, IRow.on hrowq.out (drewN_under (Below.refl _ _) _), drewN_under hbq.out _⟩
            case measure => first | (simp [intOf]; done) | (simp [intOf]; omega)
          · obtain rfl : k = g := by omega
            have hks : k < (MW.ffL W G W.length i).length := by rw [MW.ffL_length]; omega
            obtain ⟨c2', f2'⟩ := hrowq.out.at k hks
            have hx0 := MW.gz_ffL (W := W) (G := G) (m := i) (show k < W.length + 1 by omega)
            have hx := HPB.out (k : Int) i
            rw [← hx0] at hx
            have hy := HWZ.out i
            have hkb2 : k < W.length + 1 := by omega
            have hkb : (k : Int) < (W.length : Int) + 1 := by omega
            have HP := Lib.hid (fun x => hrowq.out.put (MW.ffL_length W G W.length i).symm k x)
            have HS : Hid (MW.ffL W G W.length (i + 1) = (MW.ffL W G W.length i).set k (MW.gz (MW.ffL W G W.length i) k + MW.gz W i)) := MW.ffL_succ HGI.out (by omega)
            generalize MW.gz (MW.ffL W G W.length i) k = x at c2' hx HS hx0
            generalize MW.gz W i = y at c0 hy HS
            have s1 : IntKind.i64.wrap (x + y) = x + y := IntWalk.i64_in _ (by omega)
            clear hx0
            go_wp2
            go_region
            all_goals
              go_wp2
              exact ⟨⟨i + 1, by omega, by go_num, by rw [HS.out]; exact HP.out _, (hbq.out.setCell (Nat.le_refl _) _).drew⟩, by first | (simp [intOf]; done) | (simp [intOf]; omega)⟩
      · obtain rfl : i = W.length := by omega
        have hini : ¬ (W.length : Int) < (W.length : Int) := by omega
        have NGz := NG.out.on hbz.out
        have BLz := Lib.hid (step BL.out hbz.out)
        have NWz := Lib.hid (NW.out.on hbz.out)
        have NGz := Lib.hid NGz
        go_wp2_with fail
        refine (impl_TruckCount wr _ G.length _ G NGz.out rfl hg2).mono ?_
        rw [HTN.out]
        rintro e wa ⟨rfl, rfl⟩
        go_wp2_with fail
        refine (impl_LeastTrucks wr a W.length c W NWz.out rfl hw2 hwc q).mono ?_
        rw [HLB.out]
        rintro e wb ⟨rfl, kb⟩
        have NWb := Lib.hid (NWz.out.on kb)
        have NGb := Lib.hid (NGz.out.on kb)
        have BLb := Lib.hid (step BLz.out kb)
        clear kb
        go_wp2_with fail
        refine (impl_LoadingValid wb a W.length c W NWb.out rfl hw2 _ G.length _ G NGb.out rfl hg2 q).mono ?_
        rw [HB3.out]
        rintro e wc ⟨rfl, kc⟩
        have BLc := Lib.hid (step BLb.out kc)
        clear kc
        have s2 : IntKind.i64.wrap (2 * b) = 2 * b := IntWalk.i64_in _ (by omega)
        have d1 : decide (N ≤ 2 * b) = true := decide_eq_true (by omega)
        have d2 : decide (b ≤ N) = true := decide_eq_true (by omega)
        go_wp2
        go_ret
        exact ⟨rfl, BLc.out⟩

set_option maxRecDepth 100000 in
theorem lifted (os : Os) (started : os.Started) (H : Type) (enc : TypeId × Value → H) :
    ReturnsInHanded {} Try.checked os 3 .any (Rows.fnFirstFitSpec.pre6 enc Try.prog Try.f3 Rows.fnFirstFitRow.domain false) (Rows.fnFirstFitSpec.post enc Try.prog Try.f3 false true false false) := by
  refine returnsInHanded_of_change (C := Try.checked) own started (by kernel_rfl) Try.func3
    (ChangeSpec.witness6 (enc := enc) (C := Try.checked) false ⟨#[], #[.slice none 0 0], []⟩ 8 (by kernel_rfl) (by kernel_rfl) (by kernel_rfl) (by kernel_rfl)) ?_
  intro W base args ds gs before hval0 hW hcnd _
  have hval : ∀ (j : Nat) t v, Try.f3.params[j]? = some t → args[j]? = some v → Value.okWide Try.prog W .any base t v := hval0
  have hW' := hW
  obtain ⟨p, q, hA0, hV, rfl, hfz, hnd⟩ := hW
  have hA : DataW.TrodAll enc Try.prog W 0 (fun _ => true) true Try.f3.params.toList args.toList ds p := hA0
  rw [Try.params3] at hA hval
  obtain ⟨v0, vs0, d0, ds0, p0, q0, hargs, rfl, rfl, h0, r0⟩ := trodAll_cons hA
  obtain ⟨rfl, rfl, rfl⟩ := trodAll_nil r0
  obtain rfl : args = #[v0] := by cases args; simp_all
  obtain ⟨rfl, rfl⟩ := trodVars_none hV
  have g0 := h0
  have lt0 : ∀ x ∈ p0, x.block < W.heap.size := by obtain ⟨m, hm⟩ := g0; exact DataW.trod_lt m _ _ _ hm
  obtain ⟨a0, l0, k0, rfl⟩ := okWide_slice Try.underlying22 (hval 0 22 v0 rfl rfl)
  obtain ⟨z0, w0⟩ : ∃ zs, IsRow .u8 W a0 l0 k0 zs := by
    obtain ⟨fuel, hf⟩ := h0
    rcases open_ints Try.underlying22 Try.underlying5 (by kernel_rfl) hf with ⟨hcs, _⟩ | ⟨x, l, c, zs, hcs, _, hl, hm, hz, _, hcell, hwz⟩
    · simp [Value.cells] at hcs
      obtain ⟨rfl, rfl, rfl⟩ := hcs
      exact ⟨[], .inl ⟨rfl, rfl, rfl, rfl⟩⟩
    · simp [Value.cells] at hcs
      obtain ⟨rfl, rfl, rfl⟩ := hcs
      exact ⟨zs, .inr ⟨_, rfl, hl, hm, by simpa using hz, hcell, hwz⟩⟩
  clear hA0 hval0
  refine (walk W a0 l0 k0 z0 w0).mono fun e W' ⟨he, bel⟩ => ?_
  subst he
  exact ⟨_, rfl, _, _, _, [], _, [], hW', trodAll_mk1 (shut_bool Try.underlying4 _), (trodAll_cons_mk (Below.trod laidOut (by kernel_rfl) (of_decide_eq_true (by kernel_rfl)) g0 bel lt0) trodAll_mk0), rfl, bel.frame _, fun h => by cases h⟩

theorem proved : Rows.FnFirstFitSaid :=
  OpenClaim.holds_of_wide 3 Try.f3 rfl rfl rfl rfl rfl rfl rfl ⟨rfl, rfl, rfl, rfl, rfl⟩ rfl rfl rfl rfl rfl (by kernel_rfl) Try.func3 (by kernel_rfl)
    (of_decide_eq_true (by kernel_rfl)) (by unfold Func.isWrapper; first | (rw [if_pos (by decide +kernel)]; kernel_rfl) | (rw [if_neg (by decide +kernel)]; exact ⟨rfl, rfl⟩))
    (fun os started H enc _ => lifted os started H enc)
#print axioms proved
end Go.Proofs.Ytmoghfgfdbdioaa.fnFirstFit
