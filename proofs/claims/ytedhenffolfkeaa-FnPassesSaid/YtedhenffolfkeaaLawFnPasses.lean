/-
  For every slice of bytes, laws.FnPasses returns true.
-/
import Derived.Test.YtedhenffolfkeaaRows
import Derived.Test.YtedhenffolfkeaaStbH
import Derived.Test.YtedhenffolfkeaaSo
import Derived.Test.YtedhenffolfkeaaSmpM
import Derived.Test.YtedhenffolfkeaaStbI
import Derived.Deep.RegionHeld3
import Derived.BigQuiet
import Derived.WalkKit
import Derived.ProofKit
import Derived.OpenShut
import Derived.ShutString
import Derived.ChangeOld
import Derived.Below
import Derived.Handy
import Derived.Lib.Hide
namespace Go.Proofs.Ytedhenffolfkeaa.fnPasses
open Go.ChangeShapes Go.WideShapes Go.ChangeAt Go.RowKit
open Go.ChangeMaps (open_string shut_string)
open Go.PlainAid (bt get_bt bt_nonneg bt_le)
set_option linter.unusedVariables false

theorem own : ownKnob Try.prog.godebug = none := by kernel_rfl
theorem laidOut : laidOutB Try.prog = true := by kernel_rfl

set_option maxHeartbeats 40000000 in
set_option maxRecDepth 100000 in
theorem walk (w : World) (a0 : Option Addr) (l0 k0 : Nat) (z0 : List Int) (w0 : IsRow .u8 w a0 l0 k0 z0) :
    Calls Try.prog 4 #[.slice a0 l0 k0] w fun e w' => e = .returned (.bool true) ∧ Below w.heap.size w w' := by
  by_cases hl : 1048576 < l0
  · go_enter Try.func4, Try.ntmps4
    go_wp2
    go_ret
    exact ⟨rfl, Below.refl _ _⟩
  go_enter Try.func4, Try.ntmps4
  go_wp2_with fail
  refine (DrawSortBatch_any a0 l0 k0 z0 w w0).mono ?_
  rintro e u ⟨v, rfl, a, n, c, I, C, rfl, lt, fi, hn, bl⟩
  obtain ⟨L, hLe, hlt2, hfi2⟩ : ∃ L : List (Int × ByteArray), L.length = n ∧ Lts u a n (nI L) (nC L) ∧ Fits n (nI L) (nC L) := ⟨M.lst I C n, M.lst_length I C n, lt.congr fun i hi => ⟨(lst_at hi).1.symm, (lst_at hi).2.symm⟩, fun i hi => by rw [(lst_at hi).1, (lst_at hi).2]; exact fi i hi⟩
  subst hLe
  have LT := Lib.hid hlt2
  have FI := Lib.hid hfi2
  have BL := Lib.hid bl
  have hn2 : L.length ≤ 1048576 := by omega
  clear lt fi bl hlt2 hfi2
  cases hok : M.batch L.length (nI L) (nC L)
  · have HR : Hid (∀ W, RowRes W (M.batch L.length (nI L) (nC L)) (M.sortL L.length (nI L) (nC L)) = RowRes W false []) := fun W => by rw [sortL_no hok, hok]
    have hq1 : ([] : List (Int × ByteArray)).length ≤ 1048576 := by simp
    clear hok
    go_wp2_with fail
    refine (impl_SortBatch _ a L.length c (nI L) (nC L) LT.out FI.out).mono ?_
    rw [HR.out]
    rintro e v1 ⟨p1, rfl, r1, k1⟩
    replace BL := Lib.hid (step BL.out k1)
    replace LT := Lib.hid (LT.out.on k1)
    have R1 := Lib.hid r1
    clear k1
    obtain ⟨a4, c4, rfl, _, _⟩ := r1.form
    clear r1
    go_wp2_with fail
    refine (spec_SortBatch_all _ a L.length c (nI L) (nC L) LT.out FI.out hn2).mono ?_
    rw [HR.out]
    rintro e v2 ⟨p2, rfl, r2, k2⟩
    replace BL := Lib.hid (step BL.out k2)
    replace LT := Lib.hid (LT.out.on k2)
    replace R1 := Lib.hid (R1.out.on k2)
    have R2 := Lib.hid r2
    clear k2
    clear r2
    go_wp2_with fail
    refine (soBatch_row _ _ _ _ _ _ R1.out R2.out hq1).mono ?_
    rintro e v3 ⟨rfl, k3⟩
    replace BL := Lib.hid (step BL.out k3)
    replace LT := Lib.hid (LT.out.on k3)
    replace R1 := Lib.hid (R1.out.on k3)
    replace R2 := Lib.hid (R2.out.on k3)
    clear k3
    go_wp2_with fail
    refine (soBatch_row _ _ _ _ _ _ R1.out R2.out hq1).mono ?_
    rintro e v4 ⟨rfl, k4⟩
    replace BL := Lib.hid (step BL.out k4)
    replace LT := Lib.hid (LT.out.on k4)
    replace R1 := Lib.hid (R1.out.on k4)
    replace R2 := Lib.hid (R2.out.on k4)
    clear k4
    go_wp2
    go_ret
    exact ⟨rfl, BL.out⟩
  · have hbl := (batchL_list L).1 hok
    have h60 := hbl.2.2
    have hsl : M.sortL L.length (nI L) (nC L) = sortS L := by rw [sortL_yes hok, lst_nI]
    obtain ⟨R, hRR⟩ : ∃ R, sortS L = R := ⟨_, rfl⟩
    have hpm : R.Perm L := by rw [← hRR]; exact sortS_perm hbl
    have hRb : BatchL R := by rw [← hRR]; exact sorted_batch hbl
    have HR : Hid (∀ W, RowRes W (M.batch L.length (nI L) (nC L)) (M.sortL L.length (nI L) (nC L)) = RowRes W true R) := fun W => by rw [hsl, hRR, hok]
    have hsl2 : M.sortL R.length (nI R) (nC R) = R := by rw [sortL_yes ((batchL_list R).2 hRb), lst_nI, ← hRR, sortS_twice hbl]
    have hsd : M.sorted R.length (nI R) (nC R) = true := by rw [← hRR]; exact sorted_true hbl
    have HNX := Lib.hid (fun i (hi : i + 1 < R.length) => sorted_next hbl hRR hi)
    have HRS := Lib.hid hRR
    have HS2 := Lib.hid hsl2
    have HSD := Lib.hid hsd
    have HBL := Lib.hid hbl
    have HPM := Lib.hid hpm
    have HRB := Lib.hid hRb
    have hR60 := hRb.2.2
    have hq1 : R.length ≤ 1048576 := by omega
    clear hbl hpm hRb hRR hsl hsl2 hsd hok
    go_wp2_with fail
    refine (impl_SortBatch _ a L.length c (nI L) (nC L) LT.out FI.out).mono ?_
    rw [HR.out]
    rintro e v1 ⟨p1, rfl, r1, k1⟩
    replace BL := Lib.hid (step BL.out k1)
    replace LT := Lib.hid (LT.out.on k1)
    have R1 := Lib.hid r1
    clear k1
    obtain ⟨a4, c4, rfl, _, _⟩ := r1.form
    clear r1
    go_wp2_with fail
    refine (spec_SortBatch_all _ a L.length c (nI L) (nC L) LT.out FI.out hn2).mono ?_
    rw [HR.out]
    rintro e v2 ⟨p2, rfl, r2, k2⟩
    replace BL := Lib.hid (step BL.out k2)
    replace LT := Lib.hid (LT.out.on k2)
    replace R1 := Lib.hid (R1.out.on k2)
    have R2 := Lib.hid r2
    clear k2
    clear r2
    go_wp2_with fail
    refine (soBatch_row _ _ _ _ _ _ R1.out R2.out hq1).mono ?_
    rintro e v3 ⟨rfl, k3⟩
    replace BL := Lib.hid (step BL.out k3)
    replace LT := Lib.hid (LT.out.on k3)
    replace R1 := Lib.hid (R1.out.on k3)
    replace R2 := Lib.hid (R2.out.on k3)
    clear k3
    clear R2
    have HV6 := Lib.hid BL.out
    clear BL
    obtain ⟨Z, hZ⟩ : ∃ Z, v3 = Z := ⟨_, rfl⟩
    rw [hZ] at LT R1 HV6 ⊢
    have HP := Lib.hid (fun (k : Nat) (hk : k < 7) W => pass_res HBL.out hk W)
    have HX := Lib.hid (fun (k : Nat) (hk : k < 7) R (hR : passS L (k + 1) = R) i (hi : i + 1 < R.length) => pass_next7 HBL.out hk hR hi)
    have HB7 := Lib.hid (fun (k : Nat) (hk : k ≤ 7) => (pass_batchS HBL.out k hk).1)
    have HSS : Hid (passS L 7 = R) := HRS.out
    clear hZ HNX HS2 HSD HPM HRB HRS
    go_wp2
    go_loopw [8, 9] (fun vy vd wr => ∃ (k ny cy : Nat) (ay : Option Addr), k ≤ 7 ∧ vd = .int .i64 ((6 : Int) - k) ∧ vy = .slice ay ny cy ∧ Hid ((passS L k).length = ny) ∧ Hid (Lts wr ay ny (nI (passS L k)) (nC (passS L k))) ∧ Hid (0 < k → Row wr Z.heap.size (.slice ay ny cy) (passS L k)) ∧ Hid (Below Z.heap.size Z wr)) (fun _ vd _ => (intOf vd + 1).toNat)
    case atStart => exact ⟨0, L.length, c, a, by omega, by go_num, rfl, rfl, LT, fun h => absurd h (by omega), Below.refl _ _⟩
    case round =>
      obtain ⟨k, ny, cy, ay, hk, rfl, rfl, hny, hly, hry, hbw⟩ := hrel
      by_cases hlt : k < 7
      · obtain ⟨q, hq⟩ : ∃ q, 6 - k = q := ⟨_, rfl⟩
        have hqi : (6 : Int) - k = (q : Int) := by omega
        have hqk1 : q + k ≤ 6 := by omega
        have hqk2 : 6 ≤ q + k := by omega
        have hq6 : q ≤ 6 := by omega
        have hpr := HP.out k hlt
        rw [hny.out, hq] at hpr
        have HPR := Lib.hid hpr
        have hfb := (HB7.out k hk).fits
        rw [hny.out] at hfb
        have HFB := Lib.hid hfb
        have hnx := fun R hR i hi => HX.out k hlt R hR i hi
        rw [hq] at hnx
        have HNX := Lib.hid hnx
        have hl60 := (HB7.out (k + 1) (by omega)).2.2
        obtain ⟨Y, hY⟩ : ∃ Y, passS L (k + 1) = Y := ⟨_, rfl⟩
        have HY := Lib.hid hY
        have HNY := Lib.hid (fun i hi => HNX.out Y hY i hi)
        rw [hY] at HPR hl60
        rw [hqi]
        have hz := hbw.out.size
        clear hpr hfb hnx hq hqi hY HNX hry
        go_wp2_with fail
        refine (impl_SortPass wr ay ny cy _ _ hly.out HFB.out (q : Int)).mono ?_
        rw [HPR.out]
        rintro e w1 ⟨p1, rfl, r1, k1⟩
        have R1b := Lib.hid (R1.out.on (sstep hbw.out k1))
        have B1 := Lib.hid (sstep hbw.out k1)
        have RY := Lib.hid (r1.lower hz)
        obtain ⟨a5, c5, rfl, _, hl5⟩ := r1.form
        have LY := Lib.hid hl5
        have LT1 := Lib.hid (LT.out.on B1.out)
        clear k1 r1 hl5
        go_wp2
        go_loopw [10] (fun i wr2 => ∃ (j : Nat), 1 ≤ j ∧ (j ≤ Y.length ∨ j = 1) ∧ i = .int .i64 j ∧ Hid (Below w1.heap.size w1 wr2)) (fun i _ => Y.length + 1 - (intOf i).toNat)
        case atStart => exact ⟨1, Nat.le_refl _, Or.inr rfl, rfl, Below.refl _ _⟩
        case round =>
          obtain ⟨j, hj1, hj, rfl, hb2⟩ := hrel
          by_cases hlj : j < Y.length
          · obtain ⟨i, hi⟩ : ∃ i, j = i + 1 := ⟨j - 1, by omega⟩
            have hji : (j : Int) < (Y.length : Int) := by omega
            have hj0 : (0 : Int) ≤ (j : Int) := by omega
            have hk0 : (0 : Int) ≤ (i : Int) := by omega
            have hk1 : (i : Int) < (Y.length : Int) := by omega
            have hil : i < Y.length := by omega
            have hkw : IntKind.i64.wrap ((j : Int) - 1) = (i : Int) := (IntWalk.i64_in _ (by omega)).trans (by omega)
            have hnx : Op.bytesLess ((nC Y j).extract q (nC Y j).size).toList ((nC Y i).extract q (nC Y i).size).toList = false ∧ (nC Y j).size = 7 ∧ (nC Y i).size = 7 := by
              subst hi
              exact HNY.out i hlj
            clear hi
            have hl1 := LY.out.on hb2.out
            obtain ⟨bb, oo, ha, t0, t1⟩ := hl1 j hlj
            obtain ⟨bb', oo', ha', t2, t3⟩ := hl1 i hil
            subst ha
            obtain ⟨rfl, rfl, _⟩ := Addr.mk.inj (Option.some.inj ha')
            clear ha' hl1 t0 t2
            generalize nC Y j = sj at t1 hnx
            generalize nC Y i = si at t3 hnx
            obtain ⟨hle, hs1, hs2⟩ := hnx
            have g0 : (0 : Int) ≤ (q : Int) := by omega
            have g1 : (q : Int) ≤ (sj.size : Int) := by omega
            have g2 : (q : Int) ≤ (si.size : Int) := by omega
            have g3 : sj.size ≤ 9223372036854775807 := by omega
            have g4 : si.size ≤ 9223372036854775807 := by omega
            clear hs1 hs2
            go_wp2_with fail
            go_quiet (fail)
            go_wp2
            go_roundw
            case rel => exact ⟨j + 1, by omega, Or.inl (by omega), by go_num, below_drewS hb2.out _⟩
            case measure => first | (simp [intOf]; done) | (simp [intOf]; omega)
          · have LY2 := Lib.hid (LY.out.on hb2.out)
            have RY2 := Lib.hid (RY.out.on hb2.out)
            have B3 := Lib.hid (sstep B1.out hb2.out)
            go_wp2
            go_roundw
            case rel => exact ⟨k + 1, Y.length, c5, a5, by omega, by go_num, rfl, by rw [Hid, HY.out], by rw [Hid, HY.out]; exact LY2.out, by rw [Hid, HY.out]; exact fun _ => RY2.out, B3⟩
            case measure => first | (simp [intOf]; done) | (simp [intOf]; omega)
      · obtain rfl : k = 7 := by omega
        have hr7 := hry.out (by omega)
        rw [HSS.out] at hr7
        have R7 := Lib.hid hr7
        have R1b := Lib.hid (R1.out.on hbw.out)
        clear hr7 hry hly
        go_wp2_with fail
        refine (soBatch_row wr _ _ _ _ R R7.out R1b.out hq1).mono ?_
        rintro e w2 ⟨rfl, k2⟩
        go_wp2
        go_ret
        exact ⟨rfl, step (step HV6.out hbw.out) k2⟩

set_option maxRecDepth 100000 in
theorem lifted (os : Os) (started : os.Started) (H : Type) (enc : TypeId × Value → H) :
    ReturnsInHanded {} Try.checked os 4 .any (Rows.fnPassesSpec.pre6 enc Try.prog Try.f4 Rows.fnPassesRow.domain false) (Rows.fnPassesSpec.post enc Try.prog Try.f4 false true false false) := by
  refine returnsInHanded_of_change (C := Try.checked) own started (by kernel_rfl) Try.func4
    (ChangeSpec.witness6 (enc := enc) (C := Try.checked) false ⟨#[], #[.slice none 0 0], []⟩ 8 (by kernel_rfl) (by kernel_rfl) (by kernel_rfl) (by kernel_rfl)) ?_
  intro W base args ds gs before hval0 hW hcnd _
  have hval : ∀ (j : Nat) t v, Try.f4.params[j]? = some t → args[j]? = some v → Value.okWide Try.prog W .any base t v := hval0
  have hW' := hW
  obtain ⟨p, q, hA0, hV, rfl, hfz, hnd⟩ := hW
  have hA : DataW.TrodAll enc Try.prog W 0 (fun _ => true) true Try.f4.params.toList args.toList ds p := hA0
  rw [Try.params4] at hA hval
  obtain ⟨v0, vs0, d0, ds0, p0, q0, hargs, rfl, rfl, h0, r0⟩ := trodAll_cons hA
  obtain ⟨rfl, rfl, rfl⟩ := trodAll_nil r0
  obtain rfl : args = #[v0] := by cases args; simp_all
  obtain ⟨rfl, rfl⟩ := trodVars_none hV
  have g0 := h0
  have lt0 : ∀ x ∈ p0, x.block < W.heap.size := by obtain ⟨m, hm⟩ := g0; exact DataW.trod_lt m _ _ _ hm
  obtain ⟨a0, l0, k0, rfl⟩ := okWide_slice Try.underlying22 (hval 0 22 v0 rfl rfl)
  obtain ⟨z0, w0⟩ : ∃ zs, IsRow .u8 W a0 l0 k0 zs := by
    obtain ⟨fuel, hf⟩ := h0
    rcases open_ints Try.underlying22 Try.underlying5 (by kernel_rfl) hf with ⟨hcs, _⟩ | ⟨x, l, c, zs, hcs, _, hl, hm, hz, _, hcell, hwz⟩
    · simp [Value.cells] at hcs
      obtain ⟨rfl, rfl, rfl⟩ := hcs
      exact ⟨[], .inl ⟨rfl, rfl, rfl, rfl⟩⟩
    · simp [Value.cells] at hcs
      obtain ⟨rfl, rfl, rfl⟩ := hcs
      exact ⟨zs, .inr ⟨_, rfl, hl, hm, by simpa using hz, hcell, hwz⟩⟩
  clear hA0 hval0
  refine (walk W a0 l0 k0 z0 w0).mono fun e W' ⟨he, bel⟩ => ?_
  subst he
  exact ⟨_, rfl, _, _, _, [], _, [], hW', trodAll_mk1 (shut_bool Try.underlying4 _), (trodAll_cons_mk (Below.trod laidOut (by kernel_rfl) (of_decide_eq_true (by kernel_rfl)) g0 bel lt0) trodAll_mk0), rfl, bel.frame _, fun h => by cases h⟩

theorem proved : Rows.FnPassesSaid :=
  OpenClaim.holds_of_wide 4 Try.f4 rfl rfl rfl rfl rfl rfl rfl ⟨rfl, rfl, rfl, rfl, rfl⟩ rfl rfl rfl rfl rfl (by kernel_rfl) Try.func4 (by kernel_rfl)
    (of_decide_eq_true (by kernel_rfl)) (by unfold Func.isWrapper; first | (rw [if_pos (by decide +kernel)]; kernel_rfl) | (rw [if_neg (by decide +kernel)]; exact ⟨rfl, rfl⟩))
    (fun os started H enc _ => lifted os started H enc)
#print axioms proved
end Go.Proofs.Ytedhenffolfkeaa.fnPasses
