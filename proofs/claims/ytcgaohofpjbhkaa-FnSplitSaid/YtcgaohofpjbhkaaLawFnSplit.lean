/-
  For every slice of bytes, laws.FnSplit returns true.
-/
import Derived.Test.YtcgaohofpjbhkaaRows
import Derived.Test.YtcgaohofpjbhkaaDrawH
import Derived.Test.YtcgaohofpjbhkaaSplit
import Derived.Test.YtcgaohofpjbhkaaSo
import Derived.Test.YtcgaohofpjbhkaaCountM
import Derived.WalkKit
import Derived.ProofKit
import Derived.OpenShut
import Derived.ShutString
import Derived.ChangeOld
import Derived.Below
import Derived.Handy
import Derived.Lib.Hide
namespace Go.Proofs.Ytcgaohofpjbhkaa.fnSplit
open Go.ChangeShapes Go.WideShapes Go.ChangeAt Go.RowKit
open Go.ChangeMaps (open_string shut_string)
open Go.PlainAid (bt get_bt bt_nonneg bt_le)
set_option linter.unusedVariables false

theorem own : ownKnob Try.prog.godebug = none := by kernel_rfl
theorem laidOut : laidOutB Try.prog = true := by kernel_rfl

set_option maxHeartbeats 4000000 in
set_option maxRecDepth 100000 in
theorem walk (w : World) (a0 : Option Addr) (l0 k0 : Nat) (z0 : List Int) (w0 : IsRow .u8 w a0 l0 k0 z0) :
    Calls Try.prog 4 #[.slice a0 l0 k0] w fun e w' => e = .returned (.bool true) ∧ Below w.heap.size w w' := by
  by_cases hl : 1048576 < l0
  · go_enter Try.func4, Try.ntmps4
    go_wp2
    go_ret
    exact ⟨rfl, Below.refl _ _⟩
  go_enter Try.func4, Try.ntmps4
  go_wp2_with fail
  refine (DrawSplitBatch_any a0 l0 k0 z0 w w0).mono ?_
  rintro e u ⟨v, s, rfl, hs, a, n, c, I, C, rfl, lt, fi, hn, bl⟩
  have LT := Lib.hid lt
  have FI := Lib.hid fi
  have BL := Lib.hid bl
  clear lt fi bl
  have hn2 : n ≤ 1048576 := by omega
  have hsm : s.size ≤ maxLen := by unfold maxLen; omega
  obtain ⟨f, hf⟩ : ∃ f, M.countP n I C s = f := ⟨_, rfl⟩
  have HF := Lib.hid hf
  cases hok : M.splitOk n I C s
  · rw [M.countP_no hok] at hf
    subst hf
    have hz1 : ([] : List (Int × ByteArray)).length ≤ 1048576 := Nat.zero_le _
    have hz2 := hz1
    go_wp2_with fail
    refine (impl_SplitBatch_no _ _ _ _ _ _ _ LT.out FI.out hsm hok).mono ?_
    rintro e v1 ⟨p, p', rfl, r1, r2, _, k1⟩
    replace LT := Lib.hid (LT.out.on k1)
    replace BL := Lib.hid (step BL.out k1)
    clear k1
    go_wp2_with fail
    refine (spec_SplitBatch_no _ _ _ _ _ _ _ LT.out FI.out hn2 hsm hok).mono ?_
    rintro e v2 ⟨q, q', rfl, r3, r4, _, k2⟩
    replace LT := Lib.hid (LT.out.on k2)
    replace BL := Lib.hid (step BL.out k2)
    have R1 := Lib.hid (r1.on k2)
    have R2 := Lib.hid (r2.on k2)
    have R3 := Lib.hid r3
    have R4 := Lib.hid r4
    clear k2 r1 r2 r3 r4
    go_wp2_with fail
    refine (soBatch_row _ _ _ _ _ _ R1.out R3.out hz1).mono ?_
    rintro e v3 ⟨rfl, k3⟩
    replace LT := Lib.hid (LT.out.on k3)
    replace BL := Lib.hid (step BL.out k3)
    replace R1 := Lib.hid (R1.out.on k3)
    replace R2 := Lib.hid (R2.out.on k3)
    replace R3 := Lib.hid (R3.out.on k3)
    replace R4 := Lib.hid (R4.out.on k3)
    clear k3
    go_wp2_with fail
    refine (soBatch_row _ _ _ _ _ _ R2.out R4.out hz2).mono ?_
    rintro e v4 ⟨rfl, k4⟩
    replace LT := Lib.hid (LT.out.on k4)
    replace BL := Lib.hid (step BL.out k4)
    replace R1 := Lib.hid (R1.out.on k4)
    replace R2 := Lib.hid (R2.out.on k4)
    replace R3 := Lib.hid (R3.out.on k4)
    replace R4 := Lib.hid (R4.out.on k4)
    clear k4
    go_wp2_with fail
    refine (soBatch_row _ _ _ _ _ _ R1.out R3.out hz1).mono ?_
    rintro e v5 ⟨rfl, k5⟩
    replace LT := Lib.hid (LT.out.on k5)
    replace BL := Lib.hid (step BL.out k5)
    replace R1 := Lib.hid (R1.out.on k5)
    replace R2 := Lib.hid (R2.out.on k5)
    replace R3 := Lib.hid (R3.out.on k5)
    replace R4 := Lib.hid (R4.out.on k5)
    clear k5
    go_wp2_with fail
    refine (soBatch_row _ _ _ _ _ _ R2.out R4.out hz2).mono ?_
    rintro e v6 ⟨rfl, k6⟩
    replace LT := Lib.hid (LT.out.on k6)
    replace BL := Lib.hid (step BL.out k6)
    replace R1 := Lib.hid (R1.out.on k6)
    replace R2 := Lib.hid (R2.out.on k6)
    replace R3 := Lib.hid (R3.out.on k6)
    replace R4 := Lib.hid (R4.out.on k6)
    clear k6
    go_wp2_with fail
    refine (impl_CountPrefix _ _ _ _ _ _ _ LT.out FI.out hsm).mono ?_
    rw [HF.out]
    rintro e v7 ⟨rfl, k7⟩
    replace LT := Lib.hid (LT.out.on k7)
    replace BL := Lib.hid (step BL.out k7)
    clear k7
    go_wp2_with fail
    refine (spec_CountPrefix _ _ _ _ _ _ _ LT.out FI.out hn2 hsm).mono ?_
    rw [HF.out]
    rintro e v8 ⟨rfl, k8⟩
    replace LT := Lib.hid (LT.out.on k8)
    replace BL := Lib.hid (step BL.out k8)
    clear k8
    go_wp2
    go_ret
    exact ⟨rfl, BL.out⟩
  · have hb : M.batch n I C = true := by unfold M.splitOk at hok; rw [Bool.and_eq_true] at hok; exact hok.1
    have hp7 : s.size ≤ 7 := by unfold M.splitOk M.prefixOk at hok; rw [Bool.and_eq_true, Bool.and_eq_true, decide_eq_true_iff] at hok; exact hok.2.2
    rw [M.countP_yes hok] at hf
    have H7 := Lib.hid (fun (j : Nat) (hj : j < n) => (M.code_yes ((M.batch_yes hb).2 j hj).1).2)
    obtain ⟨L1, hL1⟩ : ∃ L1, M.withP s (M.lst I C n) = L1 := ⟨_, rfl⟩
    obtain ⟨L2, hL2⟩ : ∃ L2, M.sansP s (M.lst I C n) = L2 := ⟨_, rfl⟩
    have hz1 : L1.length ≤ 1048576 := by rw [← hL1]; exact Nat.le_trans (M.withP_le s I C n) hn2
    have hz2 : L2.length ≤ 1048576 := by rw [← hL2]; exact Nat.le_trans (M.sansP_le s I C n) hn2
    have HL1 := Lib.hid hL1
    have HL2 := Lib.hid hL2
    clear hL1 hL2
    go_wp2_with fail
    refine (impl_SplitBatch_yes _ _ _ _ _ _ _ LT.out FI.out hsm hok).mono ?_
    rw [HL1.out, HL2.out]
    rintro e v1 ⟨p, p', rfl, r1, r2, _, k1⟩
    replace LT := Lib.hid (LT.out.on k1)
    replace BL := Lib.hid (step BL.out k1)
    clear k1
    go_wp2_with fail
    refine (spec_SplitBatch_yes _ _ _ _ _ _ _ LT.out FI.out hn2 hsm hok).mono ?_
    rw [HL1.out, HL2.out]
    rintro e v2 ⟨q, q', rfl, r3, r4, _, k2⟩
    replace LT := Lib.hid (LT.out.on k2)
    replace BL := Lib.hid (step BL.out k2)
    have R1 := Lib.hid (r1.on k2)
    have R2 := Lib.hid (r2.on k2)
    have R3 := Lib.hid r3
    have R4 := Lib.hid r4
    clear k2 r1 r2 r3 r4
    go_wp2_with fail
    refine (soBatch_row _ _ _ _ _ _ R1.out R3.out hz1).mono ?_
    rintro e v3 ⟨rfl, k3⟩
    replace LT := Lib.hid (LT.out.on k3)
    replace BL := Lib.hid (step BL.out k3)
    replace R1 := Lib.hid (R1.out.on k3)
    replace R2 := Lib.hid (R2.out.on k3)
    replace R3 := Lib.hid (R3.out.on k3)
    replace R4 := Lib.hid (R4.out.on k3)
    clear k3
    go_wp2_with fail
    refine (soBatch_row _ _ _ _ _ _ R2.out R4.out hz2).mono ?_
    rintro e v4 ⟨rfl, k4⟩
    replace LT := Lib.hid (LT.out.on k4)
    replace BL := Lib.hid (step BL.out k4)
    replace R1 := Lib.hid (R1.out.on k4)
    replace R2 := Lib.hid (R2.out.on k4)
    replace R3 := Lib.hid (R3.out.on k4)
    replace R4 := Lib.hid (R4.out.on k4)
    clear k4
    clear R3 R4 hok hb
    obtain ⟨a1, c1, rfl, _, t1⟩ := R1.out.form
    obtain ⟨a2, c2, rfl, _, t2⟩ := R2.out.form
    have T1 := Lib.hid t1
    have T2 := Lib.hid t2
    clear t1 t2 R1 R2
    obtain ⟨g, hg⟩ : ∃ g : Nat → Nat, ∀ j, (M.withP s (M.lst I C j)).length = g j := ⟨_, fun _ => rfl⟩
    obtain ⟨g', hg'⟩ : ∃ g' : Nat → Nat, ∀ j, (M.sansP s (M.lst I C j)).length = g' j := ⟨_, fun _ => rfl⟩
    have HG := Lib.hid hg
    have HG' := Lib.hid hg'
    have e1 : L1.length = g n := by rw [← HL1.out]; exact hg n
    have e2 : L2.length = g' n := by rw [← HL2.out]; exact hg' n
    have hff : f = (g n : Nat) := by rw [← hf, hg n]
    have HB := Lib.hid (fun j => (show g j ≤ j from by rw [← hg j]; exact M.withP_le s I C j))
    have HB' := Lib.hid (fun j => (show g' j ≤ j from by rw [← hg' j]; exact M.sansP_le s I C j))
    clear hg hg' hf
    rw [e1] at T1
    rw [e2] at T2
    rw [e1, e2]
    subst hff
    go_wp2
    go_loopw [11, 12, 13] (fun i k m wr => ∃ j : Nat, j ≤ n ∧ m = .int .i64 j ∧ i = .int .i64 (g j : Nat) ∧ k = .int .i64 (g' j : Nat) ∧ Hid (Below v4.heap.size v4 wr)) (fun _ _ m _ => n - (intOf m).toNat)
    case atStart => exact ⟨0, by omega, rfl, by rw [show g 0 = 0 from (HG.out 0).symm]; rfl, by rw [show g' 0 = 0 from (HG'.out 0).symm]; rfl, Below.refl _ _⟩
    case round =>
      obtain ⟨j, hj, rfl, rfl, rfl, hbl⟩ := hrel
      by_cases hlt : j < n
      · have h7 := H7.out j hlt
        have hle : (s.size : Int) ≤ ((C j).size : Int) := by omega
        have hb1 := HB.out j
        have hb2 := HB'.out j
        cases hbg : M.begins (C j) s
        · have hcmp : (((C j).extract 0 s.size).toList == s.toList) = false := by rw [M.list_eq, ← M.begins_long (by omega)]; exact hbg
          obtain ⟨x0, x1, x2⟩ := sansP_at (I := I) hlt hbg
          obtain ⟨y1, y2⟩ := M.split_no (I := I) hbg
          have gs : g (j + 1) = g j := by rw [← HG.out, ← HG.out, y1]
          have gs' : g' (j + 1) = g' j + 1 := by rw [← HG'.out, ← HG'.out, y2]; simp
          have sg : IntKind.i64.wrap (((g' j : Nat) : Int) + 1) = ((g' j + 1 : Nat) : Int) := (IntWalk.i64_in _ (by omega)).trans (by omega)
          rw [HG'.out j, HG'.out n] at x0
          have hge : decide (((g' n : Nat) : Int) ≤ ((g' j : Nat) : Int)) = false := by rw [decide_eq_false_iff_not]; omega
          rw [HG'.out j, HL2.out] at x1 x2
          obtain ⟨b2, o2, rfl, d0, d1⟩ := (T2.out.on hbl.out) (g' j) x0
          rw [x1] at d0
          rw [x2] at d1
          obtain ⟨b, o, rfl, c0, c1⟩ := ((LT.out.on hbl.out)) j hlt
          generalize I j = X at c0 d0
          generalize C j = Y at c1 d1 hcmp hle
          clear hbg x1 x2 y1 y2 h7
          go_wp2
          go_quiet (fail)
          all_goals go_wp2
          all_goals
            exact ⟨⟨j + 1, by omega, by go_num, by rw [gs], by rw [gs']; first | rfl | exact congrArg (Value.int .i64) sg, hbl.out.trans ⟨rfl, rfl, rfl, Nat.le_refl _, fun _ _ => rfl⟩⟩, by simp [intOf]; omega⟩
        · have hcmp : (((C j).extract 0 s.size).toList == s.toList) = true := by rw [M.list_eq, ← M.begins_long (by omega)]; exact hbg
          obtain ⟨x0, x1, x2⟩ := withP_at (I := I) hlt hbg
          obtain ⟨y1, y2⟩ := M.split_yes (I := I) hbg
          have gs : g (j + 1) = g j + 1 := by rw [← HG.out, ← HG.out, y1]; simp
          have sg : IntKind.i64.wrap (((g j : Nat) : Int) + 1) = ((g j + 1 : Nat) : Int) := (IntWalk.i64_in _ (by omega)).trans (by omega)
          have gs' : g' (j + 1) = g' j := by rw [← HG'.out, ← HG'.out, y2]
          rw [HG.out j, HG.out n] at x0
          have hge : decide (((g n : Nat) : Int) ≤ ((g j : Nat) : Int)) = false := by rw [decide_eq_false_iff_not]; omega
          rw [HG.out j, HL1.out] at x1 x2
          obtain ⟨b2, o2, rfl, d0, d1⟩ := (T1.out.on hbl.out) (g j) x0
          rw [x1] at d0
          rw [x2] at d1
          obtain ⟨b, o, rfl, c0, c1⟩ := ((LT.out.on hbl.out)) j hlt
          generalize I j = X at c0 d0
          generalize C j = Y at c1 d1 hcmp hle
          clear hbg x1 x2 y1 y2 h7
          go_wp2
          go_quiet (fail)
          all_goals go_wp2
          all_goals
            exact ⟨⟨j + 1, by omega, by go_num, by rw [gs]; first | rfl | exact congrArg (Value.int .i64) sg, by rw [gs'], hbl.out.trans ⟨rfl, rfl, rfl, Nat.le_refl _, fun _ _ => rfl⟩⟩, by simp [intOf]; omega⟩
      · obtain rfl : j = n := by omega
        go_wp2_with fail
        refine (impl_CountPrefix _ _ _ _ _ _ _ (LT.out.on hbl.out) FI.out hsm).mono ?_
        rw [HF.out]
        rintro e v8 ⟨rfl, k8⟩
        have hB8 := Lib.hid (step (step BL.out hbl.out) k8)
        clear k8
        go_wp2
        go_ret
        exact ⟨rfl, hB8.out⟩

set_option maxRecDepth 100000 in
theorem lifted (os : Os) (started : os.Started) (H : Type) (enc : TypeId × Value → H) :
    ReturnsInHanded {} Try.checked os 4 .any (Rows.fnSplitSpec.pre6 enc Try.prog Try.f4 Rows.fnSplitRow.domain false) (Rows.fnSplitSpec.post enc Try.prog Try.f4 false true false false) := by
  refine returnsInHanded_of_change (C := Try.checked) own started (by kernel_rfl) Try.func4
    (ChangeSpec.witness6 (enc := enc) (C := Try.checked) false ⟨#[], #[.slice none 0 0], []⟩ 8 (by kernel_rfl) (by kernel_rfl) (by kernel_rfl) (by kernel_rfl)) ?_
  intro W base args ds gs before hval0 hW hcnd _
  have hval : ∀ (j : Nat) t v, Try.f4.params[j]? = some t → args[j]? = some v → Value.okWide Try.prog W .any base t v := hval0
  have hW' := hW
  obtain ⟨p, q, hA0, hV, rfl, hfz, hnd⟩ := hW
  have hA : DataW.TrodAll enc Try.prog W 0 (fun _ => true) true Try.f4.params.toList args.toList ds p := hA0
  rw [Try.params4] at hA hval
  obtain ⟨v0, vs0, d0, ds0, p0, q0, hargs, rfl, rfl, h0, r0⟩ := trodAll_cons hA
  obtain ⟨rfl, rfl, rfl⟩ := trodAll_nil r0
  obtain rfl : args = #[v0] := by cases args; simp_all
  obtain ⟨rfl, rfl⟩ := trodVars_none hV
  have g0 := h0
  have lt0 : ∀ x ∈ p0, x.block < W.heap.size := by obtain ⟨m, hm⟩ := g0; exact DataW.trod_lt m _ _ _ hm
  obtain ⟨a0, l0, k0, rfl⟩ := okWide_slice Try.underlying31 (hval 0 31 v0 rfl rfl)
  obtain ⟨z0, w0⟩ : ∃ zs, IsRow .u8 W a0 l0 k0 zs := by
    obtain ⟨fuel, hf⟩ := h0
    rcases open_ints Try.underlying31 Try.underlying5 (by kernel_rfl) hf with ⟨hcs, _⟩ | ⟨x, l, c, zs, hcs, _, hl, hm, hz, _, hcell, hwz⟩
    · simp [Value.cells] at hcs
      obtain ⟨rfl, rfl, rfl⟩ := hcs
      exact ⟨[], .inl ⟨rfl, rfl, rfl, rfl⟩⟩
    · simp [Value.cells] at hcs
      obtain ⟨rfl, rfl, rfl⟩ := hcs
      exact ⟨zs, .inr ⟨_, rfl, hl, hm, by simpa using hz, hcell, hwz⟩⟩
  clear hA0 hval0
  refine (walk W a0 l0 k0 z0 w0).mono fun e W' ⟨he, bel⟩ => ?_
  subst he
  exact ⟨_, rfl, _, _, _, [], _, [], hW', trodAll_mk1 (shut_bool Try.underlying4 _), (trodAll_cons_mk (Below.trod laidOut (by kernel_rfl) (of_decide_eq_true (by kernel_rfl)) g0 bel lt0) trodAll_mk0), rfl, bel.frame _, fun h => by cases h⟩

theorem proved : Rows.FnSplitSaid :=
  OpenClaim.holds_of_wide 4 Try.f4 rfl rfl rfl rfl rfl rfl rfl ⟨rfl, rfl, rfl, rfl, rfl⟩ rfl rfl rfl rfl rfl (by kernel_rfl) Try.func4 (by kernel_rfl)
    (of_decide_eq_true (by kernel_rfl)) (by unfold Func.isWrapper; first | (rw [if_pos (by decide +kernel)]; kernel_rfl) | (rw [if_neg (by decide +kernel)]; exact ⟨rfl, rfl⟩))
    (fun os started H enc _ => lifted os started H enc)
#print axioms proved
end Go.Proofs.Ytcgaohofpjbhkaa.fnSplit
