/-
  For every slice of bytes, laws.FnLabel returns true.
-/
import Derived.Test.YtmekhbekjfandaaRows
import Derived.Test.YtmekhbekjfandaaDrawT
import Derived.Test.YtmekhbekjfandaaSoTurn
import Derived.Deep.RegionHeld3
import Derived.WalkKit
import Derived.ProofKit
import Derived.OpenShut
import Derived.ShutString
import Derived.ChangeOld
import Derived.Below
import Derived.Handy
import Derived.Lib.Hide
namespace Go.Proofs.Ytmekhbekjfandaa.fnLabel
open Go.ChangeShapes Go.WideShapes Go.ChangeAt Go.RowKit
open Go.ChangeMaps (open_string shut_string)
open Go.PlainAid (bt get_bt bt_nonneg bt_le)
set_option linter.unusedVariables false

theorem own : ownKnob Try.prog.godebug = none := by kernel_rfl
theorem laidOut : laidOutB Try.prog = true := by kernel_rfl

set_option maxHeartbeats 4000000 in
set_option maxRecDepth 100000 in
theorem walk (w : World) (a0 : Option Addr) (l0 k0 : Nat) (z0 : List Int) (w0 : IsRow .u8 w a0 l0 k0 z0) :
    Calls Try.prog 4 #[.slice a0 l0 k0] w fun e w' => e = .returned (.bool true) ∧ Below w.heap.size w w' := by
  by_cases hl : 1048576 < l0
  · go_enter Try.func4, Try.ntmps4
    go_wp2
    go_ret
    exact ⟨rfl, Below.refl _ _⟩
  go_enter Try.func4, Try.ntmps4
  go_wp2_with fail
  refine (DrawLabelOf_any a0 l0 k0 z0 w w0).mono ?_
  rintro e w1 ⟨v, rfl, a, n, c, I, C, rfl, hL, hf, hn, K1⟩
  have HL := Lib.hid hL
  have HF := Lib.hid hf
  have B1 := Lib.hid K1
  clear hL hf K1
  obtain ⟨A, hA⟩ : ∃ A, label n I C = A := ⟨_, rfl⟩
  have HA := Lib.hid hA
  clear hA
  go_wp2_with fail
  refine (impl_LabelOf _ _ _ _ _ _ HL.out HF.out (by omega)).mono ?_
  rw [HA.out]
  rintro e w2 ⟨rfl, k2⟩
  have HL2 := Lib.hid (HL.out.on k2)
  have B2 := Lib.hid (sstep B1.out k2)
  clear k2
  go_wp2_with fail
  refine (spec_LabelOf _ _ _ _ _ _ HL2.out HF.out (by omega)).mono ?_
  rw [HA.out]
  rintro e w3 ⟨rfl, k3⟩
  have HL3 := Lib.hid (HL2.out.on k3)
  have B3 := Lib.hid (sstep B2.out k3)
  clear k3
  cases hb : M.batch n I C
  · have hv : A = ⟨#[]⟩ := by rw [← HA.out]; exact label_no (by rw [hb]; simp)
    go_wp2_with (go_at_call 13; refine (impl_BatchValid _ _ _ _ _ _ HL3.out HF.out).mono ?_; rw [hb]; rintro e w4 ⟨rfl, k4⟩)
    go_ret
    exact ⟨by first | rfl | (rw [hv]; rfl), sstep B3.out k4⟩
  · by_cases h0 : 0 < n
    · have hv := (label_yes hb h0).symm.trans HA.out
      have HT := Lib.hid (label_turned hb h0)
      obtain ⟨m, hm⟩ : ∃ m, n - 1 = m := ⟨_, rfl⟩
      have hmn : m < n := by omega
      rw [hm] at hv
      have hlr : (M.lst I C n).reverse.length = n := by rw [List.length_reverse, lst_len]
      have hft := fits_turned HF.out
      have hlt := HT.out
      rw [hm] at hlt
      have HST := Lib.hid (fun (W : World) (a : Option Addr) (c : Nat) (h : Lts W a n I C) => soTurned_any W a n c I C h hn)
      obtain ⟨L5, hL⟩ : ∃ L5, (M.lst I C n).reverse = L5 := ⟨_, rfl⟩
      rw [hL] at hlr hft hlt HST
      rw [hlr] at hft hlt
      have HFT := Lib.hid hft
      have HT2 := Lib.hid hlt
      have HLR := Lib.hid hlr
      clear hL hft hlt HT
      have b0 : ((n : Int) == 0) = false := by rw [beq_eq_false_iff_ne]; omega
      have b1 : (n == 0) = false := by rw [beq_eq_false_iff_ne]; omega
      have hs0 := (M.code_yes ((M.batch_yes hb).2 0 (by omega)).1).2
      have hs1 := (M.code_yes ((M.batch_yes hb).2 m (by omega)).1).2
      have s0 : IntKind.i64.wrap ((n : Int) - 1) = (m : Int) := by rw [IntWalk.i64_in _ (by omega)]; omega
      have hn0 : (0 : Int) < (n : Int) := by omega
      have hmi : (m : Int) < (n : Int) := by omega
      have HM := Lib.hid hm
      clear hm
      go_wp2_with (go_at_call 13; refine (impl_BatchValid _ _ _ _ _ _ HL3.out HF.out).mono ?_; rw [hb]; rintro e w4 ⟨rfl, k4⟩)
      have HL4 := Lib.hid (HL3.out.on k4)
      have B4 := Lib.hid (sstep B3.out k4)
      clear k4
      obtain ⟨b, o, rfl, _, c1⟩ := HL4.out 0 (by omega)
      obtain ⟨_, _, e1, _, d1⟩ := HL4.out m (by omega)
      cases e1
      rw [Nat.zero_mul, Nat.add_zero] at c1
      subst hv
      obtain ⟨f, hf⟩ : ∃ f, C 0 = f := ⟨_, rfl⟩
      obtain ⟨g, hg⟩ : ∃ g, C m = g := ⟨_, rfl⟩
      rw [hf, hg] at HT2
      rw [hf] at c1 hs0 ⊢
      rw [hg] at d1 hs1 ⊢
      replace hs0 := Nat.le_of_eq hs0
      replace hs1 := Nat.le_of_eq hs1
      clear hlr hb hf hg HA
      have q1 : ¬ 9223372036854775807 < f.size + 1 := by omega
      have q2 : ¬ 9223372036854775807 < f.size + 1 + g.size := by omega
      have q3 : ¬ 9223372036854775807 < g.size + 1 := by omega
      have q4 : ¬ 9223372036854775807 < g.size + 1 + f.size := by omega
      have hlb := World.block_lt_of_cell? _ _ c1
      go_region_held3 (fun w' => w'.cell? ⟨b, o + 1, none⟩ = some (.string f) ∧ w'.cell? ⟨b, o + m * 2 + 1, none⟩ = some (.string g)) (first | exact ⟨c1, d1⟩ | exact t5 | exact t6) (first
        | (go_at_call 14; refine (HST.out _ _ _ (HL4.out.on (by go_grown))).mono ?_; rintro e w5 ⟨v5, rfl, r5, k5⟩; obtain ⟨a5, c5, hv5, _, hL5⟩ := r5.form; rw [HLR.out] at hv5 hL5; subst hv5; have HL5 := Lib.hid hL5; have K5 : Below w4.heap.size w4 w5 := (by exact sstep (by go_grown) k5); have t5 : w5.cell? ⟨b, o + 1, none⟩ = some (.string f) ∧ w5.cell? ⟨b, o + m * 2 + 1, none⟩ = some (.string g) := ⟨(K5.cell (p := ⟨b, o + 1, none⟩) hlb).trans c1, (K5.cell (p := ⟨b, o + m * 2 + 1, none⟩) hlb).trans d1⟩; clear r5 hL5)
        | (go_at_call 16; refine (impl_LabelOf _ _ _ _ _ _ (HL5.out.on (by go_grown)) HFT.out (by omega)).mono ?_; rw [HT2.out]; rintro e w6 ⟨rfl, k6⟩; have K6 : Below w4.heap.size w4 w6 := (by exact sstep (sstep K5 (by go_grown)) k6); have t6 : w6.cell? ⟨b, o + 1, none⟩ = some (.string f) ∧ w6.cell? ⟨b, o + m * 2 + 1, none⟩ = some (.string g) := ⟨(K6.cell (p := ⟨b, o + 1, none⟩) hlb).trans c1, (K6.cell (p := ⟨b, o + m * 2 + 1, none⟩) hlb).trans d1⟩))
      all_goals
        go_wp2
        go_ret
        exact ⟨by simp, sstep B4.out K6⟩
    · obtain rfl : n = 0 := by omega
      have hv : A = ⟨#[]⟩ := by rw [← HA.out]; exact label_no (by simp)
      go_wp2_with (go_at_call 13; refine (impl_BatchValid _ _ _ _ _ _ HL3.out HF.out).mono ?_; rw [hb]; rintro e w4 ⟨rfl, k4⟩)
      go_ret
      exact ⟨by first | rfl | (rw [hv]; rfl), sstep B3.out k4⟩

set_option maxRecDepth 100000 in
theorem lifted (os : Os) (started : os.Started) (H : Type) (enc : TypeId × Value → H) :
    ReturnsInHanded {} Try.checked os 4 .any (Rows.fnLabelSpec.pre6 enc Try.prog Try.f4 Rows.fnLabelRow.domain false) (Rows.fnLabelSpec.post enc Try.prog Try.f4 false true false false) := by
  refine returnsInHanded_of_change (C := Try.checked) own started (by kernel_rfl) Try.func4
    (ChangeSpec.witness6 (enc := enc) (C := Try.checked) false ⟨#[], #[.slice none 0 0], []⟩ 8 (by kernel_rfl) (by kernel_rfl) (by kernel_rfl) (by kernel_rfl)) ?_
  intro W base args ds gs before hval0 hW hcnd _
  have hval : ∀ (j : Nat) t v, Try.f4.params[j]? = some t → args[j]? = some v → Value.okWide Try.prog W .any base t v := hval0
  have hW' := hW
  obtain ⟨p, q, hA0, hV, rfl, hfz, hnd⟩ := hW
  have hA : DataW.TrodAll enc Try.prog W 0 (fun _ => true) true Try.f4.params.toList args.toList ds p := hA0
  rw [Try.params4] at hA hval
  obtain ⟨v0, vs0, d0, ds0, p0, q0, hargs, rfl, rfl, h0, r0⟩ := trodAll_cons hA
  obtain ⟨rfl, rfl, rfl⟩ := trodAll_nil r0
  obtain rfl : args = #[v0] := by cases args; simp_all
  obtain ⟨rfl, rfl⟩ := trodVars_none hV
  have g0 := h0
  have lt0 : ∀ x ∈ p0, x.block < W.heap.size := by obtain ⟨m, hm⟩ := g0; exact DataW.trod_lt m _ _ _ hm
  obtain ⟨a0, l0, k0, rfl⟩ := okWide_slice Try.underlying22 (hval 0 22 v0 rfl rfl)
  obtain ⟨z0, w0⟩ : ∃ zs, IsRow .u8 W a0 l0 k0 zs := by
    obtain ⟨fuel, hf⟩ := h0
    rcases open_ints Try.underlying22 Try.underlying5 (by kernel_rfl) hf with ⟨hcs, _⟩ | ⟨x, l, c, zs, hcs, _, hl, hm, hz, _, hcell, hwz⟩
    · simp [Value.cells] at hcs
      obtain ⟨rfl, rfl, rfl⟩ := hcs
      exact ⟨[], .inl ⟨rfl, rfl, rfl, rfl⟩⟩
    · simp [Value.cells] at hcs
      obtain ⟨rfl, rfl, rfl⟩ := hcs
      exact ⟨zs, .inr ⟨_, rfl, hl, hm, by simpa using hz, hcell, hwz⟩⟩
  clear hA0 hval0
  refine (walk W a0 l0 k0 z0 w0).mono fun e W' ⟨he, bel⟩ => ?_
  subst he
  exact ⟨_, rfl, _, _, _, [], _, [], hW', trodAll_mk1 (shut_bool Try.underlying4 _), (trodAll_cons_mk (Below.trod laidOut (by kernel_rfl) (of_decide_eq_true (by kernel_rfl)) g0 bel lt0) trodAll_mk0), rfl, bel.frame _, fun h => by cases h⟩

theorem proved : Rows.FnLabelSaid :=
  OpenClaim.holds_of_wide 4 Try.f4 rfl rfl rfl rfl rfl rfl rfl ⟨rfl, rfl, rfl, rfl, rfl⟩ rfl rfl rfl rfl rfl (by kernel_rfl) Try.func4 (by kernel_rfl)
    (of_decide_eq_true (by kernel_rfl)) (by unfold Func.isWrapper; first | (rw [if_pos (by decide +kernel)]; kernel_rfl) | (rw [if_neg (by decide +kernel)]; exact ⟨rfl, rfl⟩))
    (fun os started H enc _ => lifted os started H enc)
#print axioms proved
end Go.Proofs.Ytmekhbekjfandaa.fnLabel
