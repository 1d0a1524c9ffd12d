/-
  For every slice of bytes, laws.FnInversions returns true.
-/
import Derived.Test.YtmekhbekjfandaaRows
import Derived.Test.YtmekhbekjfandaaSrtB
import Derived.Test.YtmekhbekjfandaaInvA
import Derived.Test.YtmekhbekjfandaaInv
import Derived.WalkKit
import Derived.ProofKit
import Derived.OpenShut
import Derived.ShutString
import Derived.ChangeOld
import Derived.Below
import Derived.Handy
import Derived.Lib.Hide
namespace Go.Proofs.Ytmekhbekjfandaa.fnInversions
open Go.ChangeShapes Go.WideShapes Go.ChangeAt Go.RowKit
open Go.ChangeMaps (open_string shut_string)
open Go.PlainAid (bt get_bt bt_nonneg bt_le)
set_option linter.unusedVariables false

theorem drawN_below {b : Nat} {w w' : World} (h : Below b w w') (n : Nat) : Below b w (w'.drewN n) := h.trans ⟨rfl, rfl, rfl, Nat.le_refl _, fun _ _ => rfl⟩
set_option maxHeartbeats 1000000 in
theorem DrawInversions_any (a : Option Addr) (l k : Nat) (z : List Int) (w : World) (h : IsRow .u8 w a l k z) :
    Calls Try.prog 8 #[.slice a l k] w (LetsOnly w) := by
  go_enter Try.func8, Try.ntmps8
  go_wp2_with fail
  refine (DrawSortedBatch_any a l k z w h).mono ?_
  rintro e w1 ⟨v, rfl, a2, n, c, I, C, rfl, hL, hf, hn, hb⟩
  have HL := Lib.hid (And.intro hL (And.intro hf hb))
  clear hL hf hb
  go_wp2
  go_ret
  exact ⟨_, rfl, a2, n, c, I, C, rfl, HL.out.1, HL.out.2.1, hn, HL.out.2.2⟩
theorem tally_le (f : Nat → Bool) : ∀ k, M.tally f k ≤ k
  | 0 => Nat.le_refl _
  | k + 1 => by
    have := tally_le f k
    rw [M.tally_succ]
    have h : M.bit (f k) ≤ 1 := by unfold M.bit; split <;> omega
    omega
theorem neq_code {a b : ByteArray} (h : a ≠ b) : (a.toList == b.toList) = false := by
  rw [beq_eq_false_iff_ne]
  intro e
  rw [ByteArray.toList_eq, ByteArray.toList_eq] at e
  exact h (ByteArray.ext (Array.toList_inj.1 e))
theorem eqs_le (C : Nat → ByteArray) (n : Nat) : ∀ k, k ≤ n → M.eqs C k ≤ n * k
  | 0, _ => Nat.le_refl _
  | k + 1, h => by
    have := eqs_le C n k (by omega)
    have h2 := tally_le (fun j => decide (C j = C k)) k
    show M.eqs C k + M.tally (fun j => decide (C j = C k)) k ≤ _
    rw [Nat.mul_succ]
    omega
theorem own : ownKnob Try.prog.godebug = none := by kernel_rfl
theorem laidOut : laidOutB Try.prog = true := by kernel_rfl

set_option maxHeartbeats 4000000 in
set_option maxRecDepth 100000 in
theorem walk (w : World) (a0 : Option Addr) (l0 k0 : Nat) (z0 : List Int) (w0 : IsRow .u8 w a0 l0 k0 z0) :
    Calls Try.prog 3 #[.slice a0 l0 k0] w fun e w' => e = .returned (.bool true) ∧ Below w.heap.size w w' := by
  by_cases hl : 1048576 < l0
  · go_enter Try.func3, Try.ntmps3
    go_wp2
    go_ret
    exact ⟨rfl, Below.refl _ _⟩
  go_enter Try.func3, Try.ntmps3
  go_wp2_with fail
  refine (DrawInversions_any a0 l0 k0 z0 w w0).mono ?_
  rintro e w1 ⟨v, rfl, a, n, c, I, C, rfl, hL, hf, hn, K1⟩
  have HL1 := Lib.hid hL
  have HF := Lib.hid hf
  have B1 := Lib.hid K1
  clear hL hf K1
  cases hb : M.batch n I C
  · have HX : Hid (M.inversions n I C = -1) := M.inversions_no hb
    have HS : Hid (M.sorted n I C = false) := M.sorted_no hb
    have HB := Lib.hid hb
    clear hb
    go_wp2_with fail
    refine (impl_Inversions _ _ _ _ _ _ HL1.out HF.out).mono ?_
    rw [HX.out]
    rintro e w2 ⟨rfl, k2⟩
    have HL2 := Lib.hid (HL1.out.on k2)
    have B2 := Lib.hid (sstep B1.out k2)
    clear k2
    go_wp2_with fail
    refine (spec_Inversions _ _ _ _ _ _ HL2.out HF.out (by omega)).mono ?_
    rw [HX.out]
    rintro e w3 ⟨rfl, k3⟩
    have HL3 := Lib.hid (HL2.out.on k3)
    have B3 := Lib.hid (sstep B2.out k3)
    clear k3
    go_wp2_with fail
    refine (impl_SortedBatch _ _ _ _ _ _ HL3.out HF.out).mono ?_
    rw [HS.out]
    rintro e w4 ⟨rfl, k4⟩
    have HL4 := Lib.hid (HL3.out.on k4)
    have B4 := Lib.hid (sstep B3.out k4)
    clear k4
    go_wp2_with fail
    refine (spec_SortedBatch _ _ _ _ _ _ HL4.out HF.out (by omega)).mono ?_
    rw [HS.out]
    rintro e w5 ⟨rfl, k5⟩
    have HL5 := Lib.hid (HL4.out.on k5)
    have B5 := Lib.hid (sstep B4.out k5)
    clear k5
    go_wp2_with fail
    refine (spec_Inversions _ _ _ _ _ _ HL5.out HF.out (by omega)).mono ?_
    rw [HX.out]
    rintro e w6 ⟨rfl, k6⟩
    have HL6 := Lib.hid (HL5.out.on k6)
    have B6 := Lib.hid (sstep B5.out k6)
    clear k6
    go_wp2_with fail
    refine (impl_SortedBatch _ _ _ _ _ _ HL6.out HF.out).mono ?_
    rw [HS.out]
    rintro e w7 ⟨rfl, k7⟩
    have HL7 := Lib.hid (HL6.out.on k7)
    have B7 := Lib.hid (sstep B6.out k7)
    clear k7
    go_wp2_with fail
    refine (spec_SortedBatch _ _ _ _ _ _ HL7.out HF.out (by omega)).mono ?_
    rw [HS.out]
    rintro e w8 ⟨rfl, k8⟩
    have HL8 := Lib.hid (HL7.out.on k8)
    have B8 := Lib.hid (sstep B7.out k8)
    clear k8
    go_wp2_with fail
    refine (impl_BatchValid _ _ _ _ _ _ HL8.out HF.out).mono ?_
    rw [HB.out]
    rintro e w9 ⟨rfl, k9⟩
    have HL9 := Lib.hid (HL8.out.on k9)
    have B9 := Lib.hid (sstep B8.out k9)
    clear k9
    go_wp2
    go_ret
    exact ⟨rfl, B9.out⟩
  · obtain ⟨x, hx⟩ : ∃ x : Nat, M.inv C n = x := ⟨_, rfl⟩
    have HX : Hid (M.inversions n I C = (x : Int)) := by rw [Hid, M.inversions_yes hb, hx]
    have HS : Hid (M.sorted n I C = decide (x = 0)) := by rw [Hid, M.sorted_yes hb, M.asc_inv, hx]
    have HT := Lib.hid (inversions_turned hb)
    have hlr : (M.lst I C n).reverse.length = n := by rw [List.length_reverse, lst_len]
    obtain ⟨hsum, hsm⟩ := pairs_sum C n hn
    rw [hx] at hsum hsm
    have HFT := Lib.hid (fits_turned HF.out)
    obtain ⟨L5, hL5⟩ : ∃ L5, (M.lst I C n).reverse = L5 := ⟨_, rfl⟩
    have HST := Lib.hid (fun (W : World) (h : Lts W a n I C) => soTurned_any W a n c I C h hn)
    rw [hL5] at hlr HT HFT HST
    rw [hlr] at HT HFT
    obtain ⟨y, hy⟩ : ∃ y, M.ups C n = y := ⟨_, rfl⟩
    rw [hy] at HT hsum hsm
    have HLR := Lib.hid hlr
    have x0 : ¬ ((x : Int) < 0) := by omega
    have HE := Lib.hid hsum
    have HLE : Hid (∀ k, k ≤ n → M.eqs C k ≤ 3721) := fun k hk => by
      have h1 := eqs_le C n k hk
      have h2 : n * k ≤ 61 * 61 := Nat.mul_le_mul hn (by omega)
      omega
    clear hb hx hL5 hy hlr hsum
    go_wp2_with fail
    refine (impl_Inversions _ _ _ _ _ _ HL1.out HF.out).mono ?_
    rw [HX.out]
    rintro e w2 ⟨rfl, k2⟩
    have HL2 := Lib.hid (HL1.out.on k2)
    have B2 := Lib.hid (sstep B1.out k2)
    clear k2
    go_wp2_with fail
    refine (spec_Inversions _ _ _ _ _ _ HL2.out HF.out (by omega)).mono ?_
    rw [HX.out]
    rintro e w3 ⟨rfl, k3⟩
    have HL3 := Lib.hid (HL2.out.on k3)
    have B3 := Lib.hid (sstep B2.out k3)
    clear k3
    go_wp2_with fail
    refine (impl_SortedBatch _ _ _ _ _ _ HL3.out HF.out).mono ?_
    rw [HS.out]
    rintro e w4 ⟨rfl, k4⟩
    have HL4 := Lib.hid (HL3.out.on k4)
    have B4 := Lib.hid (sstep B3.out k4)
    clear k4
    go_wp2_with fail
    refine (spec_SortedBatch _ _ _ _ _ _ HL4.out HF.out (by omega)).mono ?_
    rw [HS.out]
    rintro e w5 ⟨rfl, k5⟩
    have HL5 := Lib.hid (HL4.out.on k5)
    have B5 := Lib.hid (sstep B4.out k5)
    clear k5
    go_wp2_with fail
    refine (HST.out _ HL5.out).mono ?_
    rintro e w6 ⟨v6, rfl, r6, k6⟩
    obtain ⟨a6, c6, rfl, _, h6⟩ := r6.form
    rw [HLR.out] at h6
    rw [HLR.out]
    have HR6 := Lib.hid h6
    have HL6 := Lib.hid (HL5.out.on k6)
    have B6 := Lib.hid (sstep B5.out k6)
    clear k6 r6 h6
    go_wp2_with fail
    refine (impl_Inversions _ _ _ _ _ _ HR6.out HFT.out).mono ?_
    rw [HT.out]
    rintro e w7 ⟨rfl, k7⟩
    have HL7 := Lib.hid (HL6.out.on k7)
    have B7 := Lib.hid (sstep B6.out k7)
    clear k7
    go_wp2
    go_loopw [6, 7] (fun t i wr => ∃ k : Nat, k ≤ n ∧ i = .int .i64 k ∧ t = .int .i64 (M.eqs C k) ∧ Below w7.heap.size w7 wr) (fun _ i _ => n - (intOf i).toNat)
    case atStart => exact ⟨0, Nat.zero_le _, rfl, rfl, Below.refl _ _⟩
    case round =>
      obtain ⟨k, hk, rfl, rfl, hbr⟩ := hrel
      have hz := hbr.size
      have hek := HLE.out k hk
      by_cases hlt : k < n
      · have HSU : Hid (M.eqs C (k + 1) = M.eqs C k + M.tally (fun j => decide (C j = C k)) k) := rfl
        have hek2 := HLE.out (k + 1) (by omega)
        rw [HSU.out] at hek2
        obtain ⟨q, hq⟩ : ∃ q, M.eqs C k = q := ⟨_, rfl⟩
        rw [hq] at HSU hek hek2 ⊢
        obtain ⟨b, o, rfl, _, ck⟩ := (HL7.out.on hbr) k hlt
        obtain ⟨yk, hyk⟩ : ∃ yk, C k = yk := ⟨_, rfl⟩
        rw [hyk] at ck hek2 HSU
        have HLE2 : Hid (∀ j, j ≤ k → M.tally (fun j => decide (C j = yk)) j ≤ j) := fun j _ => tally_le _ j
        have HLR : Hid (Lts w7 (some ⟨b, o, none⟩) n I C) := HL7.out
        clear hq hyk
        go_wp2
        go_loopw [6, 8] (fun t i wr2 => ∃ j : Nat, j ≤ k ∧ i = .int .i64 j ∧ t = .int .i64 ((q + M.tally (fun j => decide (C j = yk)) j : Nat) : Int) ∧ Below wr.heap.size wr wr2) (fun _ i _ => k - (intOf i).toNat)
        case atStart => exact ⟨0, Nat.zero_le _, rfl, rfl, Below.refl _ _⟩
        case round =>
          obtain ⟨j, hj, rfl, rfl, hb2⟩ := hrel
          have hlj := HLE2.out j hj
          have ck2 := (hb2.cell (p := ⟨b, o + k * 2 + 1, none⟩) (World.block_lt_of_cell? _ _ ck)).trans ck
          by_cases hjk : j < k
          · obtain ⟨b', o', e', _, cj⟩ := ((HLR.out.on hbr).on hb2) j (by omega)
            cases e'
            have HTS := Lib.hid (M.tally_succ (fun j => decide (C j = yk)) j)
            obtain ⟨yj, hyj⟩ : ∃ yj, C j = yj := ⟨_, rfl⟩
            have HYJ : decide (C j = yk) = decide (yj = yk) := by rw [hyj]
            rw [hyj] at cj
            rw [HYJ] at HTS
            obtain ⟨tj, htj⟩ : ∃ tj, M.tally (fun j => decide (C j = yk)) j = tj := ⟨_, rfl⟩
            rw [htj] at hlj HTS ⊢
            clear hyj htj ck HYJ
            have k0 : (0 : Int) ≤ (k : Int) := by omega
            have k1 : (k : Int) < (n : Int) := by omega
            have j0 : (0 : Int) ≤ (j : Int) := by omega
            have j1 : (j : Int) < (n : Int) := by omega
            by_cases he : yj = yk
            · have HN : Hid (M.tally (fun j => decide (C j = yk)) (j + 1) = tj + 1) := by rw [Hid, HTS.out, decide_eq_true he]; rfl
              have hee : (yj.toList == yk.toList) = true := by rw [he]; simp
              clear he
              go_wp2_with fail
              go_quiet (fail)
              go_wp2
              go_roundw
              case rel => exact ⟨j + 1, by omega, by go_num, by refine congrArg (Value.int .i64) ?_; have := HN.out; omega, by first | exact hb2 | exact hb2.drew | exact drawN_below hb2 _⟩
              case measure => first | (simp [intOf]; done) | (simp [intOf]; omega)
            · have HN : Hid (M.tally (fun j => decide (C j = yk)) (j + 1) = tj) := by rw [Hid, HTS.out, decide_eq_false he]; rfl
              have hee := neq_code he
              clear he
              go_wp2_with fail
              go_quiet (fail)
              go_wp2
              go_roundw
              case rel => exact ⟨j + 1, by omega, by go_num, by refine congrArg (Value.int .i64) ?_; have := HN.out; omega, by first | exact hb2 | exact hb2.drew | exact drawN_below hb2 _⟩
              case measure => first | (simp [intOf]; done) | (simp [intOf]; omega)
          · obtain rfl : j = k := by omega
            go_wp2
            go_roundw
            case rel => exact ⟨j + 1, by omega, by go_num, by refine congrArg (Value.int .i64) ?_; have := HSU.out; omega, hbr.trans (hb2.mono hz)⟩
            case measure => first | (simp [intOf]; done) | (simp [intOf]; omega)
      · obtain rfl : k = n := by omega
        obtain ⟨q, hq⟩ : ∃ q, M.eqs C k = q := ⟨_, rfl⟩
        have hE := HE.out
        rw [hq] at hE hsm ⊢
        have HL8 := Lib.hid (HL7.out.on hbr)
        have B8 := Lib.hid (sstep B7.out hbr)
        have s0 : IntKind.i64.wrap ((k : Int) - 1) = (k : Int) - 1 := IntWalk.i64_in _ (by omega)
        obtain ⟨z, hz2⟩ : ∃ z, (k : Int) * ((k : Int) - 1) = z := ⟨_, rfl⟩
        rw [hz2] at hE
        have s1 : IntKind.i64.wrap z = z := IntWalk.i64_in _ (by omega)
        have s2 : z.tdiv 2 = (x : Int) + y + q := by rw [hE, Int.mul_tdiv_cancel_left _ (by decide)]
        have s3 : IntKind.i64.wrap ((x : Int) + y) = (x : Int) + y := IntWalk.i64_in _ (by omega)
        have s4 : IntKind.i64.wrap ((x : Int) + y + q) = (x : Int) + y + q := IntWalk.i64_in _ (by omega)
        clear hE hq
        rcases Nat.eq_zero_or_pos x with hx0 | hx0
        all_goals
          have HS2 := HS.out
          first
            | rw [decide_eq_true hx0] at HS2
            | rw [decide_eq_false (by omega)] at HS2
          have e0 : ((x : Int) == 0) = true ∨ ((x : Int) == 0) = false := by cases ((x : Int) == 0) <;> simp
          have e1 : ((x : Int) == 0) = decide (x = 0) := by
            by_cases h : x = 0
            · rw [decide_eq_true h, beq_iff_eq]; omega
            · rw [decide_eq_false h, beq_eq_false_iff_ne]; omega
          first
            | rw [decide_eq_true hx0] at e1
            | rw [decide_eq_false (show ¬ x = 0 by omega)] at e1
          have HS3 := Lib.hid HS2
          clear e0 HS2 hx0
          go_wp2_with fail
          refine (impl_SortedBatch _ _ _ _ _ _ HL8.out HF.out).mono ?_
          rw [HS3.out]
          rintro e w9 ⟨rfl, k9⟩
          have B9 := Lib.hid (sstep B8.out k9)
          go_wp2
          go_ret
          exact ⟨by simp, B9.out⟩

set_option maxRecDepth 100000 in
theorem lifted (os : Os) (started : os.Started) (H : Type) (enc : TypeId × Value → H) :
    ReturnsInHanded {} Try.checked os 3 .any (Rows.fnInversionsSpec.pre6 enc Try.prog Try.f3 Rows.fnInversionsRow.domain false) (Rows.fnInversionsSpec.post enc Try.prog Try.f3 false true false false) := by
  refine returnsInHanded_of_change (C := Try.checked) own started (by kernel_rfl) Try.func3
    (ChangeSpec.witness6 (enc := enc) (C := Try.checked) false ⟨#[], #[.slice none 0 0], []⟩ 8 (by kernel_rfl) (by kernel_rfl) (by kernel_rfl) (by kernel_rfl)) ?_
  intro W base args ds gs before hval0 hW hcnd _
  have hval : ∀ (j : Nat) t v, Try.f3.params[j]? = some t → args[j]? = some v → Value.okWide Try.prog W .any base t v := hval0
  have hW' := hW
  obtain ⟨p, q, hA0, hV, rfl, hfz, hnd⟩ := hW
  have hA : DataW.TrodAll enc Try.prog W 0 (fun _ => true) true Try.f3.params.toList args.toList ds p := hA0
  rw [Try.params3] at hA hval
  obtain ⟨v0, vs0, d0, ds0, p0, q0, hargs, rfl, rfl, h0, r0⟩ := trodAll_cons hA
  obtain ⟨rfl, rfl, rfl⟩ := trodAll_nil r0
  obtain rfl : args = #[v0] := by cases args; simp_all
  obtain ⟨rfl, rfl⟩ := trodVars_none hV
  have g0 := h0
  have lt0 : ∀ x ∈ p0, x.block < W.heap.size := by obtain ⟨m, hm⟩ := g0; exact DataW.trod_lt m _ _ _ hm
  obtain ⟨a0, l0, k0, rfl⟩ := okWide_slice Try.underlying22 (hval 0 22 v0 rfl rfl)
  obtain ⟨z0, w0⟩ : ∃ zs, IsRow .u8 W a0 l0 k0 zs := by
    obtain ⟨fuel, hf⟩ := h0
    rcases open_ints Try.underlying22 Try.underlying5 (by kernel_rfl) hf with ⟨hcs, _⟩ | ⟨x, l, c, zs, hcs, _, hl, hm, hz, _, hcell, hwz⟩
    · simp [Value.cells] at hcs
      obtain ⟨rfl, rfl, rfl⟩ := hcs
      exact ⟨[], .inl ⟨rfl, rfl, rfl, rfl⟩⟩
    · simp [Value.cells] at hcs
      obtain ⟨rfl, rfl, rfl⟩ := hcs
      exact ⟨zs, .inr ⟨_, rfl, hl, hm, by simpa using hz, hcell, hwz⟩⟩
  clear hA0 hval0
  refine (walk W a0 l0 k0 z0 w0).mono fun e W' ⟨he, bel⟩ => ?_
  subst he
  exact ⟨_, rfl, _, _, _, [], _, [], hW', trodAll_mk1 (shut_bool Try.underlying4 _), (trodAll_cons_mk (Below.trod laidOut (by kernel_rfl) (of_decide_eq_true (by kernel_rfl)) g0 bel lt0) trodAll_mk0), rfl, bel.frame _, fun h => by cases h⟩

theorem proved : Rows.FnInversionsSaid :=
  OpenClaim.holds_of_wide 3 Try.f3 rfl rfl rfl rfl rfl rfl rfl ⟨rfl, rfl, rfl, rfl, rfl⟩ rfl rfl rfl rfl rfl (by kernel_rfl) Try.func3 (by kernel_rfl)
    (of_decide_eq_true (by kernel_rfl)) (by unfold Func.isWrapper; first | (rw [if_pos (by decide +kernel)]; kernel_rfl) | (rw [if_neg (by decide +kernel)]; exact ⟨rfl, rfl⟩))
    (fun os started H enc _ => lifted os started H enc)
#print axioms proved
end Go.Proofs.Ytmekhbekjfandaa.fnInversions
