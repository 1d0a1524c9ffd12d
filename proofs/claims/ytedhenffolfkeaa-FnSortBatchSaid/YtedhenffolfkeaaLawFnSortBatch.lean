/-
  For every slice of bytes, laws.FnSortBatch returns true.
-/
import Derived.Test.YtedhenffolfkeaaRows
import Derived.Test.YtedhenffolfkeaaStbH
import Derived.Test.YtedhenffolfkeaaSo
import Derived.Test.YtedhenffolfkeaaSmpM
import Derived.Deep.RegionHeld3
import Derived.BigQuiet
import Derived.WalkKit
import Derived.ProofKit
import Derived.OpenShut
import Derived.ShutString
import Derived.ChangeOld
import Derived.Below
import Derived.Handy
import Derived.Lib.Hide
namespace Go.Proofs.Ytedhenffolfkeaa.fnSortBatch
open Go.ChangeShapes Go.WideShapes Go.ChangeAt Go.RowKit
open Go.ChangeMaps (open_string shut_string)
open Go.PlainAid (bt get_bt bt_nonneg bt_le)
set_option linter.unusedVariables false

theorem own : ownKnob Try.prog.godebug = none := by kernel_rfl
theorem laidOut : laidOutB Try.prog = true := by kernel_rfl

set_option maxHeartbeats 40000000 in
set_option maxRecDepth 100000 in
theorem walk (w : World) (a0 : Option Addr) (l0 k0 : Nat) (z0 : List Int) (w0 : IsRow .u8 w a0 l0 k0 z0) :
    Calls Try.prog 3 #[.slice a0 l0 k0] w fun e w' => e = .returned (.bool true) ∧ Below w.heap.size w w' := by
  by_cases hl : 1048576 < l0
  · go_enter Try.func3, Try.ntmps3
    go_wp2
    go_ret
    exact ⟨rfl, Below.refl _ _⟩
  go_enter Try.func3, Try.ntmps3
  go_wp2_with fail
  refine (DrawSortBatch_any a0 l0 k0 z0 w w0).mono ?_
  rintro e u ⟨v, rfl, a, n, c, I, C, rfl, lt, fi, hn, bl⟩
  obtain ⟨L, hLe, hlt2, hfi2⟩ : ∃ L : List (Int × ByteArray), L.length = n ∧ Lts u a n (nI L) (nC L) ∧ Fits n (nI L) (nC L) := ⟨M.lst I C n, M.lst_length I C n, lt.congr fun i hi => ⟨(lst_at hi).1.symm, (lst_at hi).2.symm⟩, fun i hi => by rw [(lst_at hi).1, (lst_at hi).2]; exact fi i hi⟩
  subst hLe
  have LT := Lib.hid hlt2
  have FI := Lib.hid hfi2
  have BL := Lib.hid bl
  have hn2 : L.length ≤ 1048576 := by omega
  clear lt fi bl hlt2 hfi2
  cases hok : M.batch L.length (nI L) (nC L)
  · have HR : Hid (∀ W, RowRes W (M.batch L.length (nI L) (nC L)) (M.sortL L.length (nI L) (nC L)) = RowRes W false []) := fun W => by rw [sortL_no hok, hok]
    have hq1 : ([] : List (Int × ByteArray)).length ≤ 1048576 := by simp
    clear hok
    go_wp2_with fail
    refine (impl_SortBatch _ a L.length c (nI L) (nC L) LT.out FI.out).mono ?_
    rw [HR.out]
    rintro e v1 ⟨p1, rfl, r1, k1⟩
    replace BL := Lib.hid (step BL.out k1)
    replace LT := Lib.hid (LT.out.on k1)
    have R1 := Lib.hid r1
    clear k1
    obtain ⟨a4, c4, rfl, _, _⟩ := r1.form
    clear r1
    go_wp2_with fail
    refine (spec_SortBatch_all _ a L.length c (nI L) (nC L) LT.out FI.out hn2).mono ?_
    rw [HR.out]
    rintro e v2 ⟨p2, rfl, r2, k2⟩
    replace BL := Lib.hid (step BL.out k2)
    replace LT := Lib.hid (LT.out.on k2)
    replace R1 := Lib.hid (R1.out.on k2)
    have R2 := Lib.hid r2
    clear k2
    clear r2
    go_wp2_with fail
    refine (soBatch_row _ _ _ _ _ _ R1.out R2.out hq1).mono ?_
    rintro e v3 ⟨rfl, k3⟩
    replace BL := Lib.hid (step BL.out k3)
    replace LT := Lib.hid (LT.out.on k3)
    replace R1 := Lib.hid (R1.out.on k3)
    replace R2 := Lib.hid (R2.out.on k3)
    clear k3
    go_wp2_with fail
    refine (soBatch_row _ _ _ _ _ _ R1.out R2.out hq1).mono ?_
    rintro e v4 ⟨rfl, k4⟩
    replace BL := Lib.hid (step BL.out k4)
    replace LT := Lib.hid (LT.out.on k4)
    replace R1 := Lib.hid (R1.out.on k4)
    replace R2 := Lib.hid (R2.out.on k4)
    clear k4
    go_wp2
    go_ret
    exact ⟨rfl, BL.out⟩
  · have hbl := (batchL_list L).1 hok
    have h60 := hbl.2.2
    have hsl : M.sortL L.length (nI L) (nC L) = sortS L := by rw [sortL_yes hok, lst_nI]
    obtain ⟨R, hRR⟩ : ∃ R, sortS L = R := ⟨_, rfl⟩
    have hpm : R.Perm L := by rw [← hRR]; exact sortS_perm hbl
    have hRb : BatchL R := by rw [← hRR]; exact sorted_batch hbl
    have HR : Hid (∀ W, RowRes W (M.batch L.length (nI L) (nC L)) (M.sortL L.length (nI L) (nC L)) = RowRes W true R) := fun W => by rw [hsl, hRR, hok]
    have hsl2 : M.sortL R.length (nI R) (nC R) = R := by rw [sortL_yes ((batchL_list R).2 hRb), lst_nI, ← hRR, sortS_twice hbl]
    have hsd : M.sorted R.length (nI R) (nC R) = true := by rw [← hRR]; exact sorted_true hbl
    have HNX := Lib.hid (fun i (hi : i + 1 < R.length) => sorted_next hbl hRR hi)
    have HRS := Lib.hid hRR
    have HS2 := Lib.hid hsl2
    have HSD := Lib.hid hsd
    have HBL := Lib.hid hbl
    have HPM := Lib.hid hpm
    have HRB := Lib.hid hRb
    have hR60 := hRb.2.2
    have hq1 : R.length ≤ 1048576 := by omega
    clear hbl hpm hRb hRR hsl hsl2 hsd hok
    go_wp2_with fail
    refine (impl_SortBatch _ a L.length c (nI L) (nC L) LT.out FI.out).mono ?_
    rw [HR.out]
    rintro e v1 ⟨p1, rfl, r1, k1⟩
    replace BL := Lib.hid (step BL.out k1)
    replace LT := Lib.hid (LT.out.on k1)
    have R1 := Lib.hid r1
    clear k1
    obtain ⟨a4, c4, rfl, _, _⟩ := r1.form
    clear r1
    go_wp2_with fail
    refine (spec_SortBatch_all _ a L.length c (nI L) (nC L) LT.out FI.out hn2).mono ?_
    rw [HR.out]
    rintro e v2 ⟨p2, rfl, r2, k2⟩
    replace BL := Lib.hid (step BL.out k2)
    replace LT := Lib.hid (LT.out.on k2)
    replace R1 := Lib.hid (R1.out.on k2)
    have R2 := Lib.hid r2
    clear k2
    clear r2
    go_wp2_with fail
    refine (soBatch_row _ _ _ _ _ _ R1.out R2.out hq1).mono ?_
    rintro e v3 ⟨rfl, k3⟩
    replace BL := Lib.hid (step BL.out k3)
    replace LT := Lib.hid (LT.out.on k3)
    replace R1 := Lib.hid (R1.out.on k3)
    replace R2 := Lib.hid (R2.out.on k3)
    clear k3
    clear R2
    have LR : Hid (Lts v3 a4 R.length (nI R) (nC R)) := by
      obtain ⟨a9, c9, e9, _, l9⟩ := R1.out.form
      injection e9 with q1 q2 q3 <;> (subst q1; exact l9)
    have HV6 := Lib.hid BL.out
    clear BL
    obtain ⟨Z, hZ⟩ : ∃ Z, v3 = Z := ⟨_, rfl⟩
    rw [hZ] at LT R1 LR HV6 ⊢
    clear hZ
    go_wp2
    go_loopw [8] (fun i wr => ∃ (j : Nat), 1 ≤ j ∧ (j ≤ R.length ∨ j = 1) ∧ i = .int .i64 j ∧ Hid (Below Z.heap.size Z wr)) (fun i _ => R.length + 1 - (intOf i).toNat)
    case atStart => exact ⟨1, Nat.le_refl _, Or.inr rfl, rfl, Below.refl _ _⟩
    case round =>
      obtain ⟨j, hj1, hj, rfl, hbw⟩ := hrel
      have LT2 := Lib.hid (LT.out.on hbw.out)
      by_cases hlt : j < R.length
      · obtain ⟨i, hi⟩ : ∃ i, j = i + 1 := ⟨j - 1, by omega⟩
        have hji : (j : Int) < (R.length : Int) := by omega
        have hj0 : (0 : Int) ≤ (j : Int) := by omega
        have hk0 : (0 : Int) ≤ (i : Int) := by omega
        have hk1 : (i : Int) < (R.length : Int) := by omega
        have hil : i < R.length := by omega
        have hkw : IntKind.i64.wrap ((j : Int) - 1) = (i : Int) := (IntWalk.i64_in _ (by omega)).trans (by omega)
        have hnx : M.less (nC R j) (nC R i) = false ∧ (nC R j = nC R i → ∃ k1 k2 : Nat, k1 < k2 ∧ M.findLetter L.length (nI L) (nC L) (nI R i) = (k1 : Int) ∧ M.findLetter L.length (nI L) (nC L) (nI R j) = (k2 : Int)) := by
          subst hi
          exact HNX.out i hlt
        clear hi
        have hl1 := LR.out.on hbw.out
        obtain ⟨bb, oo, ha, t0, t1⟩ := hl1 j hlt
        obtain ⟨bb', oo', ha', t2, t3⟩ := hl1 i hil
        subst ha
        obtain ⟨rfl, rfl, _⟩ := Addr.mk.inj (Option.some.inj ha')
        clear ha' hl1
        generalize nC R j = sj at t1 hnx
        generalize nC R i = si at t3 hnx
        generalize nI R j = zj at t0 hnx
        generalize nI R i = zi at t2 hnx
        obtain ⟨hle, heq⟩ := hnx
        have hle' : Op.bytesLess sj.toList si.toList = false := hle
        have HEQ := Lib.hid heq
        have lbb := World.block_lt_of_cell? _ _ t0
        have s0 : (wr.cell? ⟨bb, oo + i * 2, none⟩ = some (.int .i64 zi) ∧ wr.cell? ⟨bb, oo + j * 2, none⟩ = some (.int .i64 zj)) ∧ (wr.cell? ⟨bb, oo + i * 2 + 1, none⟩ = some (.string si) ∧ wr.cell? ⟨bb, oo + j * 2 + 1, none⟩ = some (.string sj)) := ⟨⟨t2, t0⟩, t3, t1⟩
        clear heq hle
        by_cases he : sj = si
        · obtain ⟨k1, k2, hk12, hf1, hf2⟩ := HEQ.out he
          have HF1 := Lib.hid hf1
          have HF2 := Lib.hid hf2
          have hbe : (sj.toList == si.toList) = true := by rw [he]; simp
          have hnle : ¬ (k2 : Int) < (k1 : Int) := by omega
          have hnln : ¬ k2 < k1 := by omega
          have hnld : decide ((k2 : Int) < (k1 : Int)) = false := decide_eq_false hnle
          have hnlm : decide (k2 < k1) = false := decide_eq_false hnln
          have KL : Below wr.heap.size wr wr := Below.refl _ _
          clear hf1 hf2 he
          go_wp2_with fail
          clear t0 t1 t2 t3
          go_region_held3 (fun w' => (w'.cell? ⟨bb, oo + i * 2, none⟩ = some (.int .i64 zi) ∧ w'.cell? ⟨bb, oo + j * 2, none⟩ = some (.int .i64 zj)) ∧ (w'.cell? ⟨bb, oo + i * 2 + 1, none⟩ = some (.string si) ∧ w'.cell? ⟨bb, oo + j * 2 + 1, none⟩ = some (.string sj))) (first | exact s0 | exact s8 | exact s9) (first
            | (go_at_call_of 15 (Value.int .i64 zi); refine (soPlace_any _ a L.length c (nI L) (nC L) ((LT2.out.on KL).on (by go_grown)) FI.out zi).mono ?_; rw [HF1.out]; rintro e w8 ⟨rfl, k8⟩; have KL : Below wr.heap.size wr w8 := (by exact sstep (sstep KL (by go_grown)) k8); have s8 : (w8.cell? ⟨bb, oo + i * 2, none⟩ = some (.int .i64 zi) ∧ w8.cell? ⟨bb, oo + j * 2, none⟩ = some (.int .i64 zj)) ∧ (w8.cell? ⟨bb, oo + i * 2 + 1, none⟩ = some (.string si) ∧ w8.cell? ⟨bb, oo + j * 2 + 1, none⟩ = some (.string sj)) := ⟨⟨(KL.cell (p := ⟨bb, oo + i * 2, none⟩) lbb).trans s0.1.1, (KL.cell (p := ⟨bb, oo + j * 2, none⟩) lbb).trans s0.1.2⟩, (KL.cell (p := ⟨bb, oo + i * 2 + 1, none⟩) lbb).trans s0.2.1, (KL.cell (p := ⟨bb, oo + j * 2 + 1, none⟩) lbb).trans s0.2.2⟩)
            | (go_at_call_of 15 (Value.int .i64 zj); refine (soPlace_any _ a L.length c (nI L) (nC L) ((LT2.out.on KL).on (by go_grown)) FI.out zj).mono ?_; rw [HF2.out]; rintro e w9 ⟨rfl, k9⟩; have KL : Below wr.heap.size wr w9 := (by exact sstep (sstep KL (by go_grown)) k9); have s9 : (w9.cell? ⟨bb, oo + i * 2, none⟩ = some (.int .i64 zi) ∧ w9.cell? ⟨bb, oo + j * 2, none⟩ = some (.int .i64 zj)) ∧ (w9.cell? ⟨bb, oo + i * 2 + 1, none⟩ = some (.string si) ∧ w9.cell? ⟨bb, oo + j * 2 + 1, none⟩ = some (.string sj)) := ⟨⟨(KL.cell (p := ⟨bb, oo + i * 2, none⟩) lbb).trans s0.1.1, (KL.cell (p := ⟨bb, oo + j * 2, none⟩) lbb).trans s0.1.2⟩, (KL.cell (p := ⟨bb, oo + i * 2 + 1, none⟩) lbb).trans s0.2.1, (KL.cell (p := ⟨bb, oo + j * 2 + 1, none⟩) lbb).trans s0.2.2⟩))
          all_goals
            have B9 := Lib.hid (sstep hbw.out KL)
            clear k8 k9 s0 s8 s9 KL
            go_wp2
            go_roundw
            case rel => exact ⟨j + 1, by omega, Or.inl (by omega), by go_num, by first | exact B9.out | exact below_drewS B9.out _⟩
            case measure => simp [intOf]; omega
        · have hbe : (sj.toList == si.toList) = false := by
            rw [beq_eq_false_iff_ne]
            intro e
            rw [ByteArray.toList_eq, ByteArray.toList_eq] at e
            exact he (WideShapes.bytes_inj e)
          clear s0 HEQ he
          go_wp2_with fail
          go_quiet (fail)
          go_wp2
          go_roundw
          case rel => exact ⟨j + 1, by omega, Or.inl (by omega), by go_num, below_drewS hbw.out _⟩
          case measure => simp [intOf]; omega
      · have LR2 := Lib.hid (LR.out.on hbw.out)
        have R1b := Lib.hid (R1.out.on hbw.out)
        go_wp2_with fail
        refine (soAll_perm wr a4 a c4 c R L LR2.out LT2.out HBL.out HPM.out).mono ?_
        rintro e w1 ⟨rfl, k1⟩
        have R1c := Lib.hid (R1b.out.on k1)
        have LR3 := Lib.hid (LR2.out.on k1)
        have B1 := Lib.hid (sstep hbw.out k1)
        clear k1
        go_wp2_with fail
        refine (impl_SortedBatch w1 a4 R.length c4 (nI R) (nC R) LR3.out HRB.out.fits).mono ?_
        rw [HSD.out]
        rintro e w2 ⟨rfl, k2⟩
        have R1d := Lib.hid (R1c.out.on k2)
        have LR4 := Lib.hid (LR3.out.on k2)
        have B2 := Lib.hid (sstep B1.out k2)
        clear k2
        go_wp2_with fail
        refine (soSorted_any w2 a4 R.length c4 (nI R) (nC R) LR4.out HRB.out.fits).mono ?_
        rw [HS2.out]
        rintro e w3 ⟨p5, rfl, r5, k3⟩
        have R1e := Lib.hid (R1d.out.on k3)
        have R5 := Lib.hid r5
        have B3 := Lib.hid (sstep B2.out k3)
        clear k3 r5
        go_wp2_with fail
        refine (soBatch_row w3 _ _ _ _ R R5.out R1e.out hq1).mono ?_
        rintro e w4 ⟨rfl, k4⟩
        go_wp2
        go_ret
        exact ⟨rfl, step (step HV6.out B3.out) k4⟩

set_option maxRecDepth 100000 in
theorem lifted (os : Os) (started : os.Started) (H : Type) (enc : TypeId × Value → H) :
    ReturnsInHanded {} Try.checked os 3 .any (Rows.fnSortBatchSpec.pre6 enc Try.prog Try.f3 Rows.fnSortBatchRow.domain false) (Rows.fnSortBatchSpec.post enc Try.prog Try.f3 false true false false) := by
  refine returnsInHanded_of_change (C := Try.checked) own started (by kernel_rfl) Try.func3
    (ChangeSpec.witness6 (enc := enc) (C := Try.checked) false ⟨#[], #[.slice none 0 0], []⟩ 8 (by kernel_rfl) (by kernel_rfl) (by kernel_rfl) (by kernel_rfl)) ?_
  intro W base args ds gs before hval0 hW hcnd _
  have hval : ∀ (j : Nat) t v, Try.f3.params[j]? = some t → args[j]? = some v → Value.okWide Try.prog W .any base t v := hval0
  have hW' := hW
  obtain ⟨p, q, hA0, hV, rfl, hfz, hnd⟩ := hW
  have hA : DataW.TrodAll enc Try.prog W 0 (fun _ => true) true Try.f3.params.toList args.toList ds p := hA0
  rw [Try.params3] at hA hval
  obtain ⟨v0, vs0, d0, ds0, p0, q0, hargs, rfl, rfl, h0, r0⟩ := trodAll_cons hA
  obtain ⟨rfl, rfl, rfl⟩ := trodAll_nil r0
  obtain rfl : args = #[v0] := by cases args; simp_all
  obtain ⟨rfl, rfl⟩ := trodVars_none hV
  have g0 := h0
  have lt0 : ∀ x ∈ p0, x.block < W.heap.size := by obtain ⟨m, hm⟩ := g0; exact DataW.trod_lt m _ _ _ hm
  obtain ⟨a0, l0, k0, rfl⟩ := okWide_slice Try.underlying22 (hval 0 22 v0 rfl rfl)
  obtain ⟨z0, w0⟩ : ∃ zs, IsRow .u8 W a0 l0 k0 zs := by
    obtain ⟨fuel, hf⟩ := h0
    rcases open_ints Try.underlying22 Try.underlying5 (by kernel_rfl) hf with ⟨hcs, _⟩ | ⟨x, l, c, zs, hcs, _, hl, hm, hz, _, hcell, hwz⟩
    · simp [Value.cells] at hcs
      obtain ⟨rfl, rfl, rfl⟩ := hcs
      exact ⟨[], .inl ⟨rfl, rfl, rfl, rfl⟩⟩
    · simp [Value.cells] at hcs
      obtain ⟨rfl, rfl, rfl⟩ := hcs
      exact ⟨zs, .inr ⟨_, rfl, hl, hm, by simpa using hz, hcell, hwz⟩⟩
  clear hA0 hval0
  refine (walk W a0 l0 k0 z0 w0).mono fun e W' ⟨he, bel⟩ => ?_
  subst he
  exact ⟨_, rfl, _, _, _, [], _, [], hW', trodAll_mk1 (shut_bool Try.underlying4 _), (trodAll_cons_mk (Below.trod laidOut (by kernel_rfl) (of_decide_eq_true (by kernel_rfl)) g0 bel lt0) trodAll_mk0), rfl, bel.frame _, fun h => by cases h⟩

theorem proved : Rows.FnSortBatchSaid :=
  OpenClaim.holds_of_wide 3 Try.f3 rfl rfl rfl rfl rfl rfl rfl ⟨rfl, rfl, rfl, rfl, rfl⟩ rfl rfl rfl rfl rfl (by kernel_rfl) Try.func3 (by kernel_rfl)
    (of_decide_eq_true (by kernel_rfl)) (by unfold Func.isWrapper; first | (rw [if_pos (by decide +kernel)]; kernel_rfl) | (rw [if_neg (by decide +kernel)]; exact ⟨rfl, rfl⟩))
    (fun os started H enc _ => lifted os started H enc)
#print axioms proved
end Go.Proofs.Ytedhenffolfkeaa.fnSortBatch
