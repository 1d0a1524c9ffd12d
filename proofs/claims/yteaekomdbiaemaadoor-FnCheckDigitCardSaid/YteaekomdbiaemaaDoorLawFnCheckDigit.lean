/-
  For every input, laws.FnCheckDigit returns true: digits with a further one are complete exactly if this is the check digit, which does not depend on their order. Condition: the listed table of check digits holds what the program's text lays, to which the card ties it.
-/
import Derived.Test.YteaekomdbiaemaaDoorCards
import Derived.Test.YteaekomdbiaemaaDoorDrawCheck
import Derived.Test.YteaekomdbiaemaaDoorSums
import Derived.Test.YteaekomdbiaemaaDoorVars
import Derived.Test.YteaekomdbiaemaaDoorTie
import Derived.LaidMore
import Derived.Stop.Joined
import Derived.SevenTiedAt
import Derived.WalkKit
import Derived.ProofKit
import Derived.OpenShut
import Derived.ShutString
import Derived.ChangeOld
import Derived.Below
import Derived.Handy
import Derived.Lib.Hide
namespace Go.Proofs.YteaekomdbiaemaaDoor.fnCheckDigit
open Go.ChangeShapes Go.WideShapes Go.ChangeAt Go.RowKit
open Go.ChangeMaps (open_string shut_string)
open Go.PlainAid (bt get_bt bt_nonneg bt_le)
set_option linter.unusedVariables false

theorem own : ownKnob Tryd.prog.godebug = none := by kernel_rfl
theorem laidOut : laidOutB Tryd.prog = true := by kernel_rfl

set_option maxHeartbeats 2000000 in
set_option maxRecDepth 100000 in
theorem walk (w : World) (a0 : Option Addr) (l0 k0 : Nat) (z0 : List Int) (w0 : IsRow .u8 w a0 l0 k0 z0) (hL : Laid.checks w) :
    Calls Tryd.prog 3 #[.slice a0 l0 k0] w fun e w' => e = .returned (.bool true) ∧ Below w.heap.size w w' := by
  by_cases hl : 1048576 < l0
  · go_enter Tryd.func3, Tryd.ntmps3
    go_wp2
    go_ret
    exact ⟨rfl, Below.refl _ _⟩
  go_enter Tryd.func3, Tryd.ntmps3
  go_wp2_with fail
  refine (DrawCheckDigit_any a0 l0 k0 z0 w w0).mono ?_
  rintro e w1 ⟨s, rfl, _, hs40, hb1⟩
  have hL1 := Lib.hid (hL.below hb1)
  have hz1 := hb1.size
  have hsm : s.size ≤ maxLen := by unfold maxLen; omega
  clear w0 hL
  go_wp2_with fail
  refine (impl_CheckDigit _ _ hsm hL1.out).mono ?_
  rintro e w2 ⟨rfl, hb2⟩
  have hB2 := Lib.hid (hb1.trans (hb2.mono hz1))
  have hL2 := Lib.hid (hL1.out.below hb2)
  clear hb1 hb2 hL1 hz1
  go_wp2_with fail
  refine (spec_CheckDigit _ _ hsm).mono ?_
  rintro e w3 ⟨rfl, rfl⟩
  cases hd : M.digs s
  · have hv := M.checkDigit_no hd
    rw [hv]
    go_wp2_with fail
    refine (impl_DigitsValid _ _ hsm).mono ?_
    rw [hd]
    rintro e w4 ⟨rfl, hb4⟩
    go_wp2_with fail
    refine (spec_CheckDigit _ _ hsm).mono ?_
    rw [hv]
    rintro e w5 ⟨rfl, rfl⟩
    go_wp2_with fail
    refine (impl_DigitsValid _ _ hsm).mono ?_
    rw [hd]
    rintro e w6 ⟨rfl, hb6⟩
    have hB4 := Lib.hid (hB2.out.trans (hb4.below.mono hB2.out.size))
    have hB6 := Lib.hid (hB4.out.trans (hb6.below.mono hB4.out.size))
    clear hb4 hb6
    go_wp2
    go_ret
    exact ⟨rfl, hB6.out⟩
  · obtain ⟨d0, d9⟩ := M.checkDigit_bd hd
    have hlen := M.digs_len hd
    have HA := Lib.hid (fun (h19 : s.size ≤ 19) (x : Int) (x0 : 0 ≤ x) (x1 : x ≤ 9) => append_check hd h19 x x0 x1)
    have HT := Lib.hid (turn_check hd)
    generalize hcd : M.checkDigit s = d at d0 d9 HA HT ⊢
    have HCD := Lib.hid hcd
    clear hcd
    have q0 : decide (0 ≤ d) = true := by simp; omega
    have q1 : decide (d < 0) = false := by simp; omega
    go_wp2_with fail
    refine (impl_DigitsValid _ _ hsm).mono ?_
    rw [hd]
    rintro e w4 ⟨rfl, hb4⟩
    have hB4 := Lib.hid (hB2.out.trans (hb4.below.mono hB2.out.size))
    have hL4 := Lib.hid (hL2.out.below hb4.below)
    clear hb4
    by_cases h20 : s.size = 20
    · have q2 : ((s.size : Int) == 20) = true := by simp; omega
      clear h20 HA HT
      go_wp2_with fail
      refine (spec_CheckDigit _ _ hsm).mono ?_
      rw [HCD.out]
      rintro e w5 ⟨rfl, rfl⟩
      go_wp2_with fail
      refine (impl_DigitsValid _ _ hsm).mono ?_
      rw [hd]
      rintro e w6 ⟨rfl, hb6⟩
      have hB6 := Lib.hid (hB4.out.trans (hb6.below.mono hB4.out.size))
      clear hb6
      go_wp2
      go_ret
      exact ⟨rfl, hB6.out⟩
    · have q2 : ((s.size : Int) == 20) = false := by simp; omega
      have h19 : s.size ≤ 19 := by omega
      clear h20
      go_wp2
      go_loopw [5] (fun i wr => ∃ k : Nat, k ≤ 10 ∧ i = .int .i64 k ∧ Below w.heap.size w wr ∧ Hid (Laid.checks wr)) (fun i _ => 10 - (intOf i).toNat)
      case atStart => exact ⟨0, by omega, rfl, hB4.out, hL4⟩
      case round =>
        obtain ⟨k, hk, rfl, hb, hLr⟩ := hrel
        have hrz := hb.size
        by_cases hlt : k ≤ 9
        · have q3 : decide ((k : Int) ≤ 9) = true := by simp; omega
          have hone := one_byte wr (48 + (k : Int)) (by omega) (by omega)
          have hz : (⟨#[UInt8.ofNat (48 + (k : Int)).toNat]⟩ : ByteArray).size ≤ 1 := Nat.le_refl 1
          have hch := Lib.hid (HA.out h19 k (by omega) (by omega))
          generalize (⟨#[UInt8.ofNat (48 + (k : Int)).toNat]⟩ : ByteArray) = X at hz hch hone
          have hSX : (s ++ X).size ≤ maxLen := by rw [ByteArray.size_append]; unfold maxLen; omega
          go_wp2_with (go_at_call 16; refine (impl_CheckValid _ _ hSX (hLr.out.below ((Below.refl _ _).alloc (Nat.le_refl _) _))).mono ?_; rw [hch.out]; rintro e w7 ⟨rfl, hb7⟩)
          have hA : Below wr.heap.size wr (wr.alloc (.cells #[.int .u8 (48 + (k : Int))] 5)) := (Below.refl _ _).alloc (Nat.le_refl _) _
          go_roundw
          case rel => exact ⟨k + 1, by omega, by go_num, (hb.trans (hA.mono hrz)).trans (hb7.mono (by simp; omega)), (hLr.out.below hA).below hb7⟩
          case measure => simp [intOf]; omega
        · have q3 : decide ((k : Int) ≤ 9) = false := by simp; omega
          go_wp2_with fail
          refine (impl_TurnBars _ _ (by omega)).mono ?_
          rintro e w7 ⟨rfl, hb7⟩
          have hL7 := hLr.out.below hb7
          have hB7 := Lib.hid (hb.trans (hb7.mono hrz))
          clear hb7
          go_wp2_with fail
          refine (impl_CheckDigit _ _ (by rw [turn_size]; exact hsm) hL7).mono ?_
          rw [HT.out]
          rintro e w8 ⟨rfl, hb8⟩
          have hB8 := Lib.hid (hB7.out.trans (hb8.mono hB7.out.size))
          clear hb8
          go_wp2
          go_ret
          exact ⟨rfl, hB8.out⟩

set_option maxRecDepth 100000 in
theorem lifted (os : Os) (started : os.Started) (H : Type) (enc : TypeId × Value → H) :
    ReturnsInHanded {} Tryd.checked os 3 .any (fun w args => (Rows.fnCheckDigitSpec.pre enc Tryd.prog Tryd.f3 [] false w args ∧ laidMetH Tryd.prog Rows.fnCheckDigitRow.laid w) ∧ sizedMet enc Tryd.prog Tryd.f3 (OpenSpec.ofChange Rows.fnCheckDigitSpec) false w args)
      (Rows.fnCheckDigitSpec.post enc Tryd.prog Tryd.f3 false true false false) := by
  refine returnsInHanded_of_change_and (C := Tryd.checked) (X := fun w _ => laidMetH Tryd.prog Rows.fnCheckDigitRow.laid w) (fun _ _ _ hh h => h.of_heap hh) own started (by kernel_rfl) Tryd.func3
    (ChangeSpec.witness_shaped (enc := enc) (C := Tryd.checked) (os := os) (X := fun w _ => laidMetH Tryd.prog Rows.fnCheckDigitRow.laid w) false (World.doorLaid Tryd.prog 400 os) #[.slice none 0 0] 8 rfl (World.shaped_of_RefB (by kernel_rfl) (by kernel_rfl)) (by kernel_rfl) (by kernel_rfl) (by kernel_rfl) (Laid.door_checks os _)) ?_
  intro W base args ds gs before hval0 hW _ _ hL _
  have hval : ∀ (j : Nat) t v, Tryd.f3.params[j]? = some t → args[j]? = some v → Value.okWide Tryd.prog W .any base t v := hval0
  have hW' := hW
  obtain ⟨p, q, hA0, hV, rfl, hfz, hnd⟩ := hW
  have hA : DataW.TrodAll enc Tryd.prog W 0 (fun _ => true) true Tryd.f3.params.toList args.toList ds p := hA0
  rw [Tryd.params3] at hA hval
  obtain ⟨v0, vs0, d0, ds0, p0, q0, hargs, rfl, rfl, h0, r0⟩ := trodAll_cons hA
  obtain ⟨rfl, rfl, rfl⟩ := trodAll_nil r0
  obtain rfl : args = #[v0] := by cases args; simp_all
  have ltV := DataW.TrodVars.lt hV
  obtain ⟨e0, rfl⟩ : ∃ e0, gs = [e0] := Vars.gs_1 hV
  have g0 := h0
  have lt0 : ∀ x ∈ p0, x.block < W.heap.size := by obtain ⟨m, hm⟩ := g0; exact DataW.trod_lt m _ _ _ hm
  obtain ⟨a0, l0, k0, rfl⟩ := okWide_slice Tryd.underlying22 (hval 0 22 v0 rfl rfl)
  obtain ⟨z0, w0⟩ : ∃ zs, IsRow .u8 W a0 l0 k0 zs := by
    obtain ⟨fuel, hf⟩ := h0
    rcases open_ints Tryd.underlying22 Tryd.underlying5 (by kernel_rfl) hf with ⟨hcs, _⟩ | ⟨x, l, c, zs, hcs, _, hl, hm, hz, _, hcell, hwz⟩
    · simp [Value.cells] at hcs
      obtain ⟨rfl, rfl, rfl⟩ := hcs
      exact ⟨[], .inl ⟨rfl, rfl, rfl, rfl⟩⟩
    · simp [Value.cells] at hcs
      obtain ⟨rfl, rfl, rfl⟩ := hcs
      exact ⟨zs, .inr ⟨_, rfl, hl, hm, by simpa using hz, hcell, hwz⟩⟩
  clear hA0 hval0
  refine (walk W a0 l0 k0 z0 w0 (Laid.of_checks hL)).mono fun e W' ⟨he, bel⟩ => ?_
  subst he
  exact ⟨_, rfl, _, _, _, [], _, _, hW', trodAll_mk1 (shut_bool Tryd.underlying4 _), (trodAll_cons_mk (Below.trod laidOut (by kernel_rfl) (of_decide_eq_true (by kernel_rfl)) g0 bel lt0) trodAll_mk0), Vars.trodVars_below laidOut bel Laid.named_checks hV ltV, bel.frame _, fun h => by cases h⟩

theorem row_holds : Rows.FnCheckDigitSaid :=
  OpenClaim.holds_of_wide 3 Tryd.f3 rfl rfl rfl rfl rfl rfl rfl ⟨rfl, rfl, rfl, rfl, rfl⟩ rfl rfl rfl rfl rfl (by kernel_rfl) Tryd.func3 (by kernel_rfl)
    (of_decide_eq_true (by kernel_rfl)) (by unfold Func.isWrapper; first | (rw [if_pos (by decide +kernel)]; kernel_rfl) | (rw [if_neg (by decide +kernel)]; exact ⟨rfl, rfl⟩))
    (fun os started H enc _ => lifted os started H enc)

theorem proved : Rows.FnCheckDigitCardSaid :=
  Claim7.holds_tied_plain_at .later [] [.data] true Rows.fnCheckDigitCard.stood.harness false
    row_holds (fun _ h => by cases h) (by kernel_rfl) (fun _ h => by cases h) fnCheckDigit_row_tie rfl ⟨rfl, rfl⟩ (by kernel_rfl) rfl
    (fun f fn hf hfn => by
      obtain rfl : f = 3 := Option.some.inj ((show Tryd.prog.funcNamed Rows.fnCheckDigitRow.func = some 3 by kernel_rfl).symm.trans hf) |>.symm
      obtain rfl : fn = Tryd.f3 := (Option.some.inj (Tryd.func3.symm.trans hfn)).symm
      exact ⟨by kernel_rfl, fun j t ht => by
        rw [Tryd.params3] at ht
        have hm : t ∈ [22] := by simpa using Array.mem_of_getElem? ht
        have hall : ([22].all fun u => !Tryd.prog.wantsStandIn u) = true := by kernel_rfl
        exact (show Tryd.prog.wantsStandIn t = false by simpa using List.all_eq_true.1 hall t hm)⟩)
    (by kernel_rfl)
#print axioms proved
end Go.Proofs.YteaekomdbiaemaaDoor.fnCheckDigit
