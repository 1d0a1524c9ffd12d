/-
  For every slice of bytes, laws.FnCollect returns true.
-/
import Derived.Test.YtihbpalhbbingaaRows
import Derived.Test.YtihbpalhbbingaaCollK
import Derived.Test.YtihbpalhbbingaaSo
import Derived.Deep.RegionHeld3
import Derived.BigQuiet
import Derived.IntWalk
import Derived.WalkKit
import Derived.ProofKit
import Derived.OpenShut
import Derived.ShutString
import Derived.ChangeOld
import Derived.Below
import Derived.Handy
import Derived.Lib.Hide
namespace Go.Proofs.Ytihbpalhbbingaa.fnCollect
open Go.ChangeShapes Go.WideShapes Go.ChangeAt Go.RowKit
open Go.ChangeMaps (open_string shut_string)
open Go.PlainAid (bt get_bt bt_nonneg bt_le)
set_option linter.unusedVariables false

theorem own : ownKnob Try.prog.godebug = none := by kernel_rfl
theorem laidOut : laidOutB Try.prog = true := by kernel_rfl

set_option maxHeartbeats 8000000 in
set_option maxRecDepth 100000 in
theorem walk (w : World) (a0 : Option Addr) (l0 k0 : Nat) (z0 : List Int) (w0 : IsRow .u8 w a0 l0 k0 z0) :
    Calls Try.prog 3 #[.slice a0 l0 k0] w fun e w' => e = .returned (.bool true) ∧ Below w.heap.size w w' := by
  by_cases hl : 1048576 < l0
  · go_enter Try.func3, Try.ntmps3
    go_wp2
    go_ret
    exact ⟨rfl, Below.refl _ _⟩
  go_enter Try.func3, Try.ntmps3
  go_wp2_with fail
  refine (DrawCollectBins_any a0 l0 k0 z0 w w0).mono ?_
  rintro e u ⟨v, n, base, V, MM, rfl, hm, hn, hl, bl⟩
  obtain ⟨ua, uc, rfl⟩ := mat_slice_r hm
  have HM := Lib.hid hm
  have HZ := Lib.hid (sz_fit (by omega) hl)
  have BL := Lib.hid bl
  have hn2 : n ≤ 1048576 := by omega
  clear hm bl
  have HE60 := (coll_le (n := n) (MM := MM))
  have hyes := fun h => coll_yes (n := n) (MM := MM) h
  obtain ⟨E, hE⟩ : ∃ E, M.coll n MM = E := ⟨_, rfl⟩
  obtain ⟨ok, hok⟩ : ∃ ok, M.collOk n MM = ok := ⟨_, rfl⟩
  have HI := Lib.hid (fun X (h : MatR X base (.slice ua n uc) n V MM) => impl_CollectBins_r X base _ n V MM h HZ.out.1 HZ.out.2.1 HZ.out.2.2)
  have HS := Lib.hid (fun X (h : MatR X base (.slice ua n uc) n V MM) => spec_CollectBins_r X base _ n V MM h HZ.out.1 HZ.out.2.1 HZ.out.2.2)
  rw [hE, hok] at HI HS hyes
  rw [hE] at HE60
  have hE9 : E.length ≤ 1048576 := by omega
  clear hE hok
  cases ok
  · clear hyes
    go_wp2_with fail
    refine (HI.out _ HM.out).mono ?_
    rintro e v1 ⟨p, rfl, r1, k1⟩
    replace HM := Lib.hid (HM.out.on k1)
    replace BL := Lib.hid (step BL.out k1)
    have R1 := Lib.hid r1
    clear r1
    clear k1
    go_wp2_with fail
    refine (HS.out _ HM.out).mono ?_
    rintro e v2 ⟨q, rfl, r2, k2⟩
    replace HM := Lib.hid (HM.out.on k2)
    replace BL := Lib.hid (step BL.out k2)
    replace R1 := Lib.hid (R1.out.on k2)
    have R2 := Lib.hid r2
    clear r2
    clear k2
    go_wp2_with fail
    refine (soBatch_row _ _ _ _ _ _ R1.out R2.out hE9).mono ?_
    rintro e v3 ⟨rfl, k3⟩
    replace HM := Lib.hid (HM.out.on k3)
    replace BL := Lib.hid (step BL.out k3)
    replace R1 := Lib.hid (R1.out.on k3)
    replace R2 := Lib.hid (R2.out.on k3)
    clear k3
    go_wp2_with fail
    refine (soBatch_row _ _ _ _ _ _ R1.out R2.out hE9).mono ?_
    rintro e v4 ⟨rfl, k4⟩
    replace HM := Lib.hid (HM.out.on k4)
    replace BL := Lib.hid (step BL.out k4)
    clear k4
    go_wp2
    go_ret
    exact ⟨rfl, BL.out⟩
  · have hf := hyes rfl
    clear hyes
    subst hf
    go_wp2_with fail
    refine (HI.out _ HM.out).mono ?_
    rintro e v1 ⟨p, rfl, r1, k1⟩
    replace HM := Lib.hid (HM.out.on k1)
    replace BL := Lib.hid (step BL.out k1)
    have R1 := Lib.hid r1
    clear r1
    clear k1
    go_wp2_with fail
    refine (HS.out _ HM.out).mono ?_
    rintro e v2 ⟨q, rfl, r2, k2⟩
    replace HM := Lib.hid (HM.out.on k2)
    replace BL := Lib.hid (step BL.out k2)
    replace R1 := Lib.hid (R1.out.on k2)
    have R2 := Lib.hid r2
    clear r2
    clear k2
    go_wp2_with fail
    refine (soBatch_row _ _ _ _ _ _ R1.out R2.out hE9).mono ?_
    rintro e v3 ⟨rfl, k3⟩
    replace HM := Lib.hid (HM.out.on k3)
    replace BL := Lib.hid (step BL.out k3)
    replace R1 := Lib.hid (R1.out.on k3)
    replace R2 := Lib.hid (R2.out.on k3)
    clear k3
    clear R2 HI HS
    obtain ⟨a1, c1, hv1, hc1, _⟩ := R1.out.form
    subst hv1
    have HTT := Lib.hid (tot_flat MM n)
    have HZ1 := HE60
    go_wp2
    go_loopw [8, 9] (fun t i wr => ∃ j : Nat, j ≤ n ∧ i = .int .i64 j ∧ t = .int .i64 ((tot MM j : Nat) : Int) ∧ Hid (Below v3.heap.size v3 wr)) (fun _ i _ => n - (intOf i).toNat)
    case atStart => exact ⟨0, Nat.zero_le _, rfl, rfl, Below.refl _ _⟩
    case round =>
      obtain ⟨j, hj, rfl, rfl, hbl⟩ := hrel
      by_cases hlt : j < n
      · have hji : (j : Int) < (n : Int) := by omega
        have hj0 : (0 : Int) ≤ (j : Int) := by omega
        obtain ⟨g, a, d, rfl, c0, hlts⟩ := mat_at_r (HM.out.on hbl.out) hlt
        have HLT := Lib.hid hlts
        have hgz : g < wr.heap.size := World.block_lt_of_cell? _ _ c0
        have hR := R1.out.on hbl.out
        have hmono := tot_mono MM (i := j + 1) (n := n) (by omega)
        have htn : tot MM (j + 1) = tot MM j + (MM j).length := rfl
        have htt := HTT.out
        have hcut : ∀ g1, a1 = some ⟨g1, 0, none⟩ → Lts wr (some ⟨g1, tot MM j * 2, none⟩) (MM j).length (nI (MM j)) (nC (MM j)) := fun g1 e => by
          obtain ⟨a9, c9, e9, _, l9⟩ := hR.form
          injection e9 with q1 q2 q3
          rw [← q1, e] at l9
          exact flat_lts rfl l9 hlt
        have hsome : 0 < (M.flat MM n).length → ∃ g1, a1 = some ⟨g1, 0, none⟩ := fun h => by
          rcases hR.cases with ⟨e1, e2⟩ | ⟨g1, c', e1, _⟩
          · rw [e2] at h; exact absurd h (by simp)
          · injection e1 with e1; exact ⟨g1, e1⟩
        obtain ⟨T, hT⟩ : ∃ T, (M.flat MM n).length = T := ⟨_, rfl⟩
        rw [hT] at hc1 HE60 htt hsome ⊢
        obtain ⟨A, hA⟩ : ∃ A, tot MM j = A := ⟨_, rfl⟩
        rw [hA] at htn hcut ⊢
        obtain ⟨m, hm⟩ : ∃ m, (MM j).length = m := ⟨_, rfl⟩
        rw [hm] at htn hcut c0 HLT
        obtain ⟨B, hB⟩ : ∃ B, A + m = B := ⟨_, rfl⟩
        have HTN : Hid ((B : Int) = ((tot MM (j + 1) : Nat) : Int)) := by rw [Hid, htn, hB]
        have HTN2 : Hid (tot MM (j + 1) = B) := by rw [Hid, htn, hB]
        have hBT : B ≤ T := by omega
        have hAB : A ≤ B := by omega
        have hab : (A : Int) ≤ (B : Int) := by omega
        have hbc : (B : Int) ≤ (c1 : Int) := by omega
        have hbt : ¬ (T : Int) < (B : Int) := by omega
        have hbd : decide ((T : Int) < (B : Int)) = false := by rw [decide_eq_false_iff_not]; omega
        have ha0 : (0 : Int) ≤ (A : Int) := by omega
        have hb0 : (0 : Int) ≤ (B : Int) := by omega
        have hs : IntKind.i64.wrap ((A : Int) + (m : Int)) = (B : Int) := (IntWalk.i64_in _ (by omega)).trans (by omega)
        have hBA : B - A = m := by omega
        have hbcn : B ≤ c1 := by omega
        have hac : A ≤ c1 := by omega
        have HHT := Lib.hid hT
        have HHA := Lib.hid hA
        clear hlts hT hA hm hmono htn htt hB hR
        have hbt2 : ¬ T < B := by omega
        have hbd2 : decide (T < B) = false := by rw [decide_eq_false_iff_not]; omega
        by_cases h0 : m = 0
        · have H0 := Lib.hid h0
          clear hcut hsome h0
          by_cases hcA : c1 = A
          · subst hcA
            have s0 := c0
            have KL : Below wr.heap.size wr wr := Below.refl _ _
            go_wp2_with fail
            go_region_held3 (fun w' => w'.cell? ⟨g, j, none⟩ = some (.slice a m d)) (first | exact s0 | exact s7) (first | (go_at_call 10; refine (soBatch_same _ _ a m _ d (fun _ => 0) (fun _ => ⟨#[]⟩) (fun i hi => absurd hi (by have := H0.out; omega)) (fun i hi => absurd hi (by have := H0.out; omega)) (by omega)).mono ?_; rintro e w7 ⟨rfl, k7⟩; have KL : Below wr.heap.size wr w7 := (by exact sstep (sstep KL (by go_grown)) k7); have s7 := held_one s0 KL hgz))
            all_goals
              have B7 := Lib.hid (sstep hbl.out KL)
              have hz7 := KL.size
              have c7 := s7
              clear s0 s7 k7 KL c0
              go_wp2
              go_roundw
              case rel => exact ⟨j + 1, by omega, by go_num, by (first | exact congrArg (Value.int .i64) HTN.out | (rw [HTN2.out])), by first | exact B7 | exact below_drewC B7.out _⟩
              case measure => simp [intOf]; omega
          · have s0 := c0
            have KL : Below wr.heap.size wr wr := Below.refl _ _
            go_wp2_with fail
            go_region_held3 (fun w' => w'.cell? ⟨g, j, none⟩ = some (.slice a m d)) (first | exact s0 | exact s7) (first | (go_at_call 10; refine (soBatch_same _ _ a m _ d (fun _ => 0) (fun _ => ⟨#[]⟩) (fun i hi => absurd hi (by have := H0.out; omega)) (fun i hi => absurd hi (by have := H0.out; omega)) (by omega)).mono ?_; rintro e w7 ⟨rfl, k7⟩; have KL : Below wr.heap.size wr w7 := (by exact sstep (sstep KL (by go_grown)) k7); have s7 := held_one s0 KL hgz))
            all_goals
              have B7 := Lib.hid (sstep hbl.out KL)
              have hz7 := KL.size
              have c7 := s7
              clear s0 s7 k7 KL c0
              go_wp2
              go_roundw
              case rel => exact ⟨j + 1, by omega, by go_num, by (first | exact congrArg (Value.int .i64) HTN.out | (rw [HTN2.out])), by first | exact B7 | exact below_drewC B7.out _⟩
              case measure => simp [intOf]; omega
        · obtain ⟨g1, hg1⟩ := hsome (by omega)
          have hcA : ¬ c1 = A := by omega
          have HC := Lib.hid (hcut g1 hg1)
          subst hg1
          clear hcut hsome h0
          have s0 := c0
          have KL : Below wr.heap.size wr wr := Below.refl _ _
          go_wp2_with fail
          go_region_held3 (fun w' => w'.cell? ⟨g, j, none⟩ = some (.slice a m d)) (first | exact s0 | exact s7) (first | (go_at_call 10; refine (soBatch_same _ (some ⟨g1, A * 2, none⟩) a m (c1 - A) d _ _ ((HC.out.on KL).on (by go_grown)) ((HLT.out.on KL).on (by go_grown)) (by omega)).mono ?_; rintro e w7 ⟨rfl, k7⟩; have KL : Below wr.heap.size wr w7 := (by exact sstep (sstep KL (by go_grown)) k7); have s7 := held_one s0 KL hgz))
          all_goals
            have B7 := Lib.hid (sstep hbl.out KL)
            have hz7 := KL.size
            have c7 := s7
            clear s0 s7 k7 KL c0
            go_wp2
            go_roundw
            case rel => exact ⟨j + 1, by omega, by go_num, by (first | exact congrArg (Value.int .i64) HTN.out | (rw [HTN2.out])), by first | exact B7 | exact below_drewC B7.out _⟩
            case measure => simp [intOf]; omega
      · obtain rfl : j = n := by omega
        have htt := HTT.out
        have he : ((((tot MM j : Nat) : Int)) == ((M.flat MM j).length : Int)) = true := by rw [beq_iff_eq, htt]
        have hb := step BL.out hbl.out
        have HB := Lib.hid hb
        clear hb hbl htt
        go_wp2
        go_ret
        exact ⟨rfl, HB.out⟩

set_option maxRecDepth 100000 in
theorem lifted (os : Os) (started : os.Started) (H : Type) (enc : TypeId × Value → H) :
    ReturnsInHanded {} Try.checked os 3 .any (Rows.fnCollectSpec.pre6 enc Try.prog Try.f3 Rows.fnCollectRow.domain false) (Rows.fnCollectSpec.post enc Try.prog Try.f3 false true false false) := by
  refine returnsInHanded_of_change (C := Try.checked) own started (by kernel_rfl) Try.func3
    (ChangeSpec.witness6 (enc := enc) (C := Try.checked) false ⟨#[], #[.slice none 0 0], []⟩ 8 (by kernel_rfl) (by kernel_rfl) (by kernel_rfl) (by kernel_rfl)) ?_
  intro W base args ds gs before hval0 hW hcnd _
  have hval : ∀ (j : Nat) t v, Try.f3.params[j]? = some t → args[j]? = some v → Value.okWide Try.prog W .any base t v := hval0
  have hW' := hW
  obtain ⟨p, q, hA0, hV, rfl, hfz, hnd⟩ := hW
  have hA : DataW.TrodAll enc Try.prog W 0 (fun _ => true) true Try.f3.params.toList args.toList ds p := hA0
  rw [Try.params3] at hA hval
  obtain ⟨v0, vs0, d0, ds0, p0, q0, hargs, rfl, rfl, h0, r0⟩ := trodAll_cons hA
  obtain ⟨rfl, rfl, rfl⟩ := trodAll_nil r0
  obtain rfl : args = #[v0] := by cases args; simp_all
  obtain ⟨rfl, rfl⟩ := trodVars_none hV
  have g0 := h0
  have lt0 : ∀ x ∈ p0, x.block < W.heap.size := by obtain ⟨m, hm⟩ := g0; exact DataW.trod_lt m _ _ _ hm
  obtain ⟨a0, l0, k0, rfl⟩ := okWide_slice Try.underlying22 (hval 0 22 v0 rfl rfl)
  obtain ⟨z0, w0⟩ : ∃ zs, IsRow .u8 W a0 l0 k0 zs := by
    obtain ⟨fuel, hf⟩ := h0
    rcases open_ints Try.underlying22 Try.underlying5 (by kernel_rfl) hf with ⟨hcs, _⟩ | ⟨x, l, c, zs, hcs, _, hl, hm, hz, _, hcell, hwz⟩
    · simp [Value.cells] at hcs
      obtain ⟨rfl, rfl, rfl⟩ := hcs
      exact ⟨[], .inl ⟨rfl, rfl, rfl, rfl⟩⟩
    · simp [Value.cells] at hcs
      obtain ⟨rfl, rfl, rfl⟩ := hcs
      exact ⟨zs, .inr ⟨_, rfl, hl, hm, by simpa using hz, hcell, hwz⟩⟩
  clear hA0 hval0
  refine (walk W a0 l0 k0 z0 w0).mono fun e W' ⟨he, bel⟩ => ?_
  subst he
  exact ⟨_, rfl, _, _, _, [], _, [], hW', trodAll_mk1 (shut_bool Try.underlying4 _), (trodAll_cons_mk (Below.trod laidOut (by kernel_rfl) (of_decide_eq_true (by kernel_rfl)) g0 bel lt0) trodAll_mk0), rfl, bel.frame _, fun h => by cases h⟩

theorem proved : Rows.FnCollectSaid :=
  OpenClaim.holds_of_wide 3 Try.f3 rfl rfl rfl rfl rfl rfl rfl ⟨rfl, rfl, rfl, rfl, rfl⟩ rfl rfl rfl rfl rfl (by kernel_rfl) Try.func3 (by kernel_rfl)
    (of_decide_eq_true (by kernel_rfl)) (by unfold Func.isWrapper; first | (rw [if_pos (by decide +kernel)]; kernel_rfl) | (rw [if_neg (by decide +kernel)]; exact ⟨rfl, rfl⟩))
    (fun os started H enc _ => lifted os started H enc)
#print axioms proved
end Go.Proofs.Ytihbpalhbbingaa.fnCollect
