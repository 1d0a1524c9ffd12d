/-
  For every slice of bytes, laws.FnSample returns true.
-/
import Derived.Test.YtbkhndgdgefhpaaRows
import Derived.Test.YtbkhndgdgefhpaaDrawS
import Derived.Test.YtbkhndgdgefhpaaSample
import Derived.Test.YtbkhndgdgefhpaaSmpM
import Derived.Test.YtbkhndgdgefhpaaSo
import Derived.WalkKit
import Derived.ProofKit
import Derived.OpenShut
import Derived.ShutString
import Derived.ChangeOld
import Derived.Below
import Derived.Handy
import Derived.Lib.Hide
namespace Go.Proofs.Ytbkhndgdgefhpaa.fnSample
open Go.ChangeShapes Go.WideShapes Go.ChangeAt Go.RowKit
open Go.ChangeMaps (open_string shut_string)
open Go.PlainAid (bt get_bt bt_nonneg bt_le)
set_option linter.unusedVariables false

theorem own : ownKnob Try.prog.godebug = none := by kernel_rfl
theorem laidOut : laidOutB Try.prog = true := by kernel_rfl

set_option maxHeartbeats 4000000 in
set_option maxRecDepth 100000 in
theorem walk (w : World) (a0 : Option Addr) (l0 k0 : Nat) (z0 : List Int) (w0 : IsRow .u8 w a0 l0 k0 z0) :
    Calls Try.prog 10 #[.slice a0 l0 k0] w fun e w' => e = .returned (.bool true) ∧ Below w.heap.size w w' := by
  by_cases hl : 1048576 < l0
  · go_enter Try.func10, Try.ntmps10
    go_wp2
    go_ret
    exact ⟨rfl, Below.refl _ _⟩
  go_enter Try.func10, Try.ntmps10
  go_wp2_with fail
  refine (DrawSampleLetters_any a0 l0 k0 z0 w w0).mono ?_
  rintro e u ⟨v, x, rfl, a, n, c, I, C, rfl, lt, fi, hn, bl⟩
  have LT := Lib.hid lt
  have FI := Lib.hid fi
  have BL := Lib.hid bl
  clear lt fi bl
  have hn2 : n ≤ 1048576 := by omega
  obtain ⟨LL, hLL⟩ : ∃ LL, M.smpL n I C x = LL := ⟨_, rfl⟩
  have HLL := Lib.hid hLL
  have hll : LL.length ≤ 1048576 := by rw [← hLL]; exact M.smpL_le
  cases hok : M.smpOk n I C x
  · clear hLL
    go_wp2_with fail
    refine (impl_SampleLetters _ _ _ _ _ _ LT.out FI.out _).mono ?_
    rw [hok]
    rw [HLL.out]
    rintro e v1 ⟨p1, rfl, r1, k1⟩
    replace BL := Lib.hid (step BL.out k1)
    replace LT := Lib.hid (LT.out.on k1)
    have R1 := Lib.hid r1
    clear k1
    go_wp2_with fail
    refine (spec_SampleLetters _ _ _ _ _ _ LT.out FI.out hn2 _).mono ?_
    rw [hok]
    rw [HLL.out]
    rintro e v2 ⟨p2, rfl, r2, k2⟩
    replace BL := Lib.hid (step BL.out k2)
    replace LT := Lib.hid (LT.out.on k2)
    replace R1 := Lib.hid (R1.out.on k2)
    have R2 := Lib.hid r2
    clear k2
    clear r1 r2
    go_wp2_with fail
    refine (soBatch_row _ _ _ _ _ _ R1.out R2.out hll).mono ?_
    rintro e v3 ⟨rfl, k3⟩
    replace BL := Lib.hid (step BL.out k3)
    replace LT := Lib.hid (LT.out.on k3)
    replace R1 := Lib.hid (R1.out.on k3)
    replace R2 := Lib.hid (R2.out.on k3)
    clear k3
    go_wp2_with fail
    refine (soBatch_row _ _ _ _ _ _ R1.out R2.out hll).mono ?_
    rintro e v4 ⟨rfl, k4⟩
    replace BL := Lib.hid (step BL.out k4)
    replace LT := Lib.hid (LT.out.on k4)
    replace R1 := Lib.hid (R1.out.on k4)
    replace R2 := Lib.hid (R2.out.on k4)
    clear k4
    go_wp2
    go_ret
    exact ⟨rfl, BL.out⟩
  · have hb : M.batch n I C = true := by unfold M.smpOk at hok; rw [Bool.and_eq_true] at hok; exact hok.1
    have hx : 1 ≤ x ∧ x ≤ 60 := by unfold M.smpOk at hok; rw [Bool.and_eq_true] at hok; exact of_decide_eq_true hok.2
    obtain ⟨q, rfl⟩ := Int.eq_ofNat_of_zero_le (show 0 ≤ x by omega)
    have he := (M.smp_yes hb hx.1 hx.2).2
    rw [hLL, Int.toNat_natCast] at he
    obtain ⟨t, ht⟩ : ∃ t, (n + q - 1) / q = t := ⟨_, rfl⟩
    rw [ht] at he
    have HE := Lib.hid he
    have hlt0 : LL.length = t := by rw [he]; exact M.smp_len I C q t
    have HT := Lib.hid hlt0
    have HTT := Lib.hid ht
    have ht61 : t ≤ 200 := by rw [← ht]; exact Nat.le_trans (Nat.div_le_self _ _) (by have := (M.batch_yes hb).1; omega)
    have HIX := Lib.hid (fun i (hi : i < t) => M.smp_ix (n := n) (q := q) (t := t) (by omega) ht hi)
    have HG := Lib.hid (fun i (hi : i < t) => he ▸ M.smp_get I C q hi)
    have h1 := M.smp_yes hb (show (1 : Int) ≤ 1 by omega) (show (1 : Int) ≤ 60 by omega)
    have HO1 := Lib.hid h1.1
    have HL1 : Hid (M.smpL n I C 1 = M.lst I C n) := by
      unfold Hid
      rw [h1.2]
      show M.smp I C 1 ((n + 1 - 1) / 1) = _
      rw [Nat.add_sub_cancel, Nat.div_one]
      exact M.smp_one I C n
    have HOK := Lib.hid hok
    clear hLL he hlt0 ht h1 hok hb
    go_wp2_with fail
    refine (impl_SampleLetters _ _ _ _ _ _ LT.out FI.out _).mono ?_
    rw [HOK.out]
    rw [HLL.out]
    rintro e v1 ⟨p1, rfl, r1, k1⟩
    replace BL := Lib.hid (step BL.out k1)
    replace LT := Lib.hid (LT.out.on k1)
    have R1 := Lib.hid r1
    clear k1
    go_wp2_with fail
    refine (spec_SampleLetters _ _ _ _ _ _ LT.out FI.out hn2 _).mono ?_
    rw [HOK.out]
    rw [HLL.out]
    rintro e v2 ⟨p2, rfl, r2, k2⟩
    replace BL := Lib.hid (step BL.out k2)
    replace LT := Lib.hid (LT.out.on k2)
    replace R1 := Lib.hid (R1.out.on k2)
    have R2 := Lib.hid r2
    clear k2
    clear r1 r2
    go_wp2_with fail
    refine (soBatch_row _ _ _ _ _ _ R1.out R2.out hll).mono ?_
    rintro e v3 ⟨rfl, k3⟩
    replace BL := Lib.hid (step BL.out k3)
    replace LT := Lib.hid (LT.out.on k3)
    replace R1 := Lib.hid (R1.out.on k3)
    replace R2 := Lib.hid (R2.out.on k3)
    clear k3
    obtain ⟨a5, c5, rfl, _, l5⟩ := R1.out.form
    rw [HT.out] at l5 ⊢
    have L5 := Lib.hid l5
    have q2 : ¬ (q : Int) = 0 := by omega
    clear l5
    go_wp2
    go_loopw [9] (fun i wr => ∃ j : Nat, j ≤ t ∧ i = .int .i64 j ∧ Hid (Below v3.heap.size v3 wr)) (fun i _ => t - (intOf i).toNat)
    case atStart => exact ⟨0, Nat.zero_le _, rfl, Below.refl _ _⟩
    case round =>
      obtain ⟨j, hj, rfl, hb3⟩ := hrel
      by_cases hlt : j < t
      · obtain ⟨b6, o6, rfl, q6, q7⟩ := (L5.out.on hb3.out) j hlt
        have hix := HIX.out j hlt
        obtain ⟨b7, o7, rfl, q8, q9⟩ := (LT.out.on hb3.out) (j * q) hix
        obtain ⟨g1, g2⟩ := HG.out j hlt
        rw [g1] at q6
        rw [g2] at q7
        have hji : (j : Int) < (t : Int) := by omega
        have hj0 : (0 : Int) ≤ (j : Int) := by omega
        have hc : ((j * q : Nat) : Int) = (j : Int) * (q : Int) := Int.natCast_mul j q
        have hm0 : (0 : Int) ≤ (j : Int) * (q : Int) := by rw [← hc]; omega
        have hm1 : (j : Int) * (q : Int) < (n : Int) := by rw [← hc]; omega
        have hw : IntKind.i64.wrap ((j : Int) * (q : Int)) = (j : Int) * (q : Int) := IntWalk.i64_in _ (by omega)
        have hmn : ((j : Int) * (q : Int)).toNat = j * q := by rw [← hc, Int.toNat_natCast]
        obtain ⟨x1, hx1⟩ : ∃ x1, I (j * q) = x1 := ⟨_, rfl⟩
        obtain ⟨x2, hx2⟩ : ∃ x2, C (j * q) = x2 := ⟨_, rfl⟩
        rw [hx1] at q6 q8
        rw [hx2] at q7 q9
        go_wp2
        go_quiet (fail)
        go_wp2
        go_roundw
        case rel => exact ⟨j + 1, by omega, by go_num, below_drewS hb3.out _⟩
        case measure => simp [intOf]; omega
      · obtain rfl : j = t := by omega
        replace LT := Lib.hid (LT.out.on hb3.out)
        replace BL := Lib.hid (step BL.out hb3.out)
        go_wp2_with fail
        refine (impl_SampleLetters _ _ _ _ _ _ LT.out FI.out _).mono ?_
        rw [HO1.out]
        rw [HL1.out]
        rintro e v11 ⟨p1, rfl, r9, k11⟩
        replace BL := Lib.hid (step BL.out k11)
        replace LT := Lib.hid (LT.out.on k11)
        have R9 := Lib.hid r9
        clear k11
        obtain ⟨a9, c9, rfl, _, _⟩ := R9.out.form
        have LL9 : Hid (Lts v11 a9 n I C) := by
          have r9 := R9.out
          rw [M.lst_length] at r9
          exact r9.lts_lst
        rw [M.lst_length]
        have hdv : ((n : Int) + (q : Int) - 1).tdiv (q : Int) = (j : Int) := by
          rw [← HTT.out, show (n : Int) + (q : Int) - 1 = ((n + q - 1 : Nat) : Int) by omega, Int.ofNat_tdiv]
        have hw1 : IntKind.i64.wrap ((n : Int) + (q : Int)) = (n : Int) + (q : Int) := IntWalk.i64_in _ (by omega)
        have hw2 : IntKind.i64.wrap ((n : Int) + (q : Int) - 1) = (n : Int) + (q : Int) - 1 := IntWalk.i64_in _ (by omega)
        have hw3 : IntKind.i64.wrap (((n : Int) + (q : Int) - 1).tdiv (q : Int)) = (j : Int) := by rw [hdv]; exact IntWalk.i64_in _ (by omega)
        go_wp2_with fail
        refine (soBatch_same _ _ _ _ _ _ _ _ LL9.out LT.out hn2).mono ?_
        rintro e v12 ⟨rfl, k12⟩
        replace BL := Lib.hid (step BL.out k12)
        replace LT := Lib.hid (LT.out.on k12)
        replace R9 := Lib.hid (R9.out.on k12)
        clear k12
        go_wp2
        go_ret
        exact ⟨rfl, BL.out⟩

set_option maxRecDepth 100000 in
theorem lifted (os : Os) (started : os.Started) (H : Type) (enc : TypeId × Value → H) :
    ReturnsInHanded {} Try.checked os 10 .any (Rows.fnSampleSpec.pre6 enc Try.prog Try.f10 Rows.fnSampleRow.domain false) (Rows.fnSampleSpec.post enc Try.prog Try.f10 false true false false) := by
  refine returnsInHanded_of_change (C := Try.checked) own started (by kernel_rfl) Try.func10
    (ChangeSpec.witness6 (enc := enc) (C := Try.checked) false ⟨#[], #[.slice none 0 0], []⟩ 8 (by kernel_rfl) (by kernel_rfl) (by kernel_rfl) (by kernel_rfl)) ?_
  intro W base args ds gs before hval0 hW hcnd _
  have hval : ∀ (j : Nat) t v, Try.f10.params[j]? = some t → args[j]? = some v → Value.okWide Try.prog W .any base t v := hval0
  have hW' := hW
  obtain ⟨p, q, hA0, hV, rfl, hfz, hnd⟩ := hW
  have hA : DataW.TrodAll enc Try.prog W 0 (fun _ => true) true Try.f10.params.toList args.toList ds p := hA0
  rw [Try.params10] at hA hval
  obtain ⟨v0, vs0, d0, ds0, p0, q0, hargs, rfl, rfl, h0, r0⟩ := trodAll_cons hA
  obtain ⟨rfl, rfl, rfl⟩ := trodAll_nil r0
  obtain rfl : args = #[v0] := by cases args; simp_all
  obtain ⟨rfl, rfl⟩ := trodVars_none hV
  have g0 := h0
  have lt0 : ∀ x ∈ p0, x.block < W.heap.size := by obtain ⟨m, hm⟩ := g0; exact DataW.trod_lt m _ _ _ hm
  obtain ⟨a0, l0, k0, rfl⟩ := okWide_slice Try.underlying22 (hval 0 22 v0 rfl rfl)
  obtain ⟨z0, w0⟩ : ∃ zs, IsRow .u8 W a0 l0 k0 zs := by
    obtain ⟨fuel, hf⟩ := h0
    rcases open_ints Try.underlying22 Try.underlying5 (by kernel_rfl) hf with ⟨hcs, _⟩ | ⟨x, l, c, zs, hcs, _, hl, hm, hz, _, hcell, hwz⟩
    · simp [Value.cells] at hcs
      obtain ⟨rfl, rfl, rfl⟩ := hcs
      exact ⟨[], .inl ⟨rfl, rfl, rfl, rfl⟩⟩
    · simp [Value.cells] at hcs
      obtain ⟨rfl, rfl, rfl⟩ := hcs
      exact ⟨zs, .inr ⟨_, rfl, hl, hm, by simpa using hz, hcell, hwz⟩⟩
  clear hA0 hval0
  refine (walk W a0 l0 k0 z0 w0).mono fun e W' ⟨he, bel⟩ => ?_
  subst he
  exact ⟨_, rfl, _, _, _, [], _, [], hW', trodAll_mk1 (shut_bool Try.underlying4 _), (trodAll_cons_mk (Below.trod laidOut (by kernel_rfl) (of_decide_eq_true (by kernel_rfl)) g0 bel lt0) trodAll_mk0), rfl, bel.frame _, fun h => by cases h⟩

theorem proved : Rows.FnSampleSaid :=
  OpenClaim.holds_of_wide 10 Try.f10 rfl rfl rfl rfl rfl rfl rfl ⟨rfl, rfl, rfl, rfl, rfl⟩ rfl rfl rfl rfl rfl (by kernel_rfl) Try.func10 (by kernel_rfl)
    (of_decide_eq_true (by kernel_rfl)) (by unfold Func.isWrapper; first | (rw [if_pos (by decide +kernel)]; kernel_rfl) | (rw [if_neg (by decide +kernel)]; exact ⟨rfl, rfl⟩))
    (fun os started H enc _ => lifted os started H enc)
#print axioms proved
end Go.Proofs.Ytbkhndgdgefhpaa.fnSample
