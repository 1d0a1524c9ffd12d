/-
  For every input, laws.FnDigitBars returns true: the bars of a drawn digit have two long ones, the digit is read from them, and none if one of them is changed. Condition: the listed table of bars holds what the program's text lays, to which the card ties it.
-/
import Derived.Test.YteaekomdbiaemaaDoorCards
import Derived.Test.YteaekomdbiaemaaDoorDrawBars
import Derived.Test.YteaekomdbiaemaaDoorPut
import Derived.Test.YteaekomdbiaemaaDoorVars
import Derived.Test.YteaekomdbiaemaaDoorTie
import Derived.LaidMore
import Derived.Stop.Joined
import Derived.SevenTiedAt
import Derived.WalkKit
import Derived.ProofKit
import Derived.OpenShut
import Derived.ShutString
import Derived.ChangeOld
import Derived.Below
import Derived.Handy
import Derived.Lib.Hide
namespace Go.Proofs.YteaekomdbiaemaaDoor.fnDigitBars
open Go.ChangeShapes Go.WideShapes Go.ChangeAt Go.RowKit
open Go.ChangeMaps (open_string shut_string)
open Go.PlainAid (bt get_bt bt_nonneg bt_le)
set_option linter.unusedVariables false

theorem own : ownKnob Tryd.prog.godebug = none := by kernel_rfl
theorem laidOut : laidOutB Tryd.prog = true := by kernel_rfl

set_option maxHeartbeats 2000000 in
set_option maxRecDepth 100000 in
theorem walk (w : World) (a0 : Option Addr) (l0 k0 : Nat) (z0 : List Int) (w0 : IsRow .u8 w a0 l0 k0 z0) (hL : Laid.bars w) :
    Calls Tryd.prog 5 #[.slice a0 l0 k0] w fun e w' => e = .returned (.bool true) ∧ Below w.heap.size w w' := by
  by_cases hl : 1048576 < l0
  · go_enter Tryd.func5, Tryd.ntmps5
    go_wp2
    go_ret
    exact ⟨rfl, Below.refl _ _⟩
  go_enter Tryd.func5, Tryd.ntmps5
  go_wp2_with fail
  refine (DrawDigitBars_any a0 l0 k0 z0 w w0).mono ?_
  rintro e w1 ⟨d, rfl, hb1⟩
  have hL1 := hL.below hb1
  have hz1 := hb1.size
  by_cases hd : 0 ≤ d ∧ d ≤ 9
  · obtain ⟨h0, h9⟩ := hd
    go_wp2_with fail
    refine (impl_DigitBars_yes _ _ hL1 h0 h9).mono ?_
    rintro e w2 ⟨rfl, rfl⟩
    go_wp2_with fail
    refine (spec_DigitBars_yes _ _ h0 h9).mono ?_
    rintro e w3 ⟨rfl, hb3⟩
    have hL3 := Lib.hid (hL1.below hb3)
    have hB := Lib.hid (hb1.trans (hb3.mono hz1))
    have hsz := M.bar_size h0 h9
    obtain ⟨hc2, hf⟩ := M.bar_facts h0 h9
    have HF := Lib.hid hf
    have hbd := Lib.hid (M.bar_digit h0 h9)
    have hbt := get_bt (M.bar d)
    have hne := List.isEmpty_eq_false_iff.2 (ne_empty (M.bar d) (by omega))
    clear hf w0 hL hL1 hb1 hb3
    generalize M.bar d = B at *
    have h5a : 5 ≤ B.size := by omega
    have h5b : B.size ≤ 5 := by omega
    have h5c : ((B.size : Int) == 5) = true := by simp; omega
    have HC := Lib.hid hc2
    clear hsz hc2
    go_wp2
    go_loopw [5, 6] (fun n i wr => ∃ k : Nat, k ≤ 5 ∧ i = .int .i64 k ∧ n = .int .i64 (M.cnt 124 B k) ∧ Below w.heap.size w wr ∧ Hid (Laid.bars wr)) (fun _ i _ => 5 - (intOf i).toNat)
    case atStart => exact ⟨0, by omega, rfl, rfl, hB.out, hL3⟩
    case round =>
      obtain ⟨k, hk, rfl, rfl, hb, hLr⟩ := hrel
      have hrz := hb.size
      obtain ⟨n0, n1⟩ := M.cnt_bd 124 B k
      by_cases hlt : k < B.size
      · have hflip := HF.out k (by omega)
        by_cases hbar : bt B k = 124
        · rw [if_pos hbar] at hflip
          have hcn := Lib.hid (M.cnt_yes hbar)
          have hbq : (bt B k == 124) = true := by simp [hbar]
          have HX := Lib.hid hflip
          clear hflip hbar
          go_wp2_with (first | (go_at_call 20; refine (soPut_any _ _ _ _ hlt (by omega) (by omega)).mono ?_; rintro e w4 ⟨rfl, hb4⟩) | (go_at_call 24; refine (impl_BarsDigit _ _ (hLr.out.below hb4)).mono ?_; rw [HX.out]; rintro e w5 ⟨rfl, rfl⟩))
          go_roundw
          case rel => exact ⟨k + 1, by omega, by go_num, by rw [hcn.out], hb.trans (hb4.mono hrz), hLr.out.below hb4⟩
          case measure => simp [intOf]; omega
        · rw [if_neg hbar] at hflip
          have hcn := Lib.hid (M.cnt_no hbar)
          have hbq : (bt B k == 124) = false := by simp [hbar]
          have HX := Lib.hid hflip
          clear hflip hbar
          go_wp2_with (first | (go_at_call 20; refine (soPut_any _ _ _ _ hlt (by omega) (by omega)).mono ?_; rintro e w4 ⟨rfl, hb4⟩) | (go_at_call 24; refine (impl_BarsDigit _ _ (hLr.out.below hb4)).mono ?_; rw [HX.out]; rintro e w5 ⟨rfl, rfl⟩))
          go_roundw
          case rel => exact ⟨k + 1, by omega, by go_num, by rw [hcn.out], hb.trans (hb4.mono hrz), hLr.out.below hb4⟩
          case measure => simp [intOf]; omega
      · obtain rfl : k = 5 := by omega
        have hc2 := HC.out
        clear HF
        go_wp2_with (go_at_call 24; refine (impl_BarsDigit _ _ hLr.out).mono ?_; rw [hbd.out]; rintro e w5 ⟨rfl, rfl⟩)
        go_ret
        exact ⟨rfl, hb⟩
  · have h' : d < 0 ∨ 9 < d := by omega
    clear hd
    go_wp2_with (first | (go_at_call 23; refine (spec_DigitBars_no _ _ h').mono ?_; rintro e w1 ⟨rfl, rfl⟩) | (go_at_call 22; refine (impl_DigitBars_no _ _ h').mono ?_; rintro e w2 ⟨rfl, rfl⟩))
    all_goals
      go_ret
      first | exact ⟨rfl, hb1⟩ | exact ⟨ret_bool (by simp; omega), hb1⟩

set_option maxRecDepth 100000 in
theorem lifted (os : Os) (started : os.Started) (H : Type) (enc : TypeId × Value → H) :
    ReturnsInHanded {} Tryd.checked os 5 .any (fun w args => (Rows.fnDigitBarsSpec.pre enc Tryd.prog Tryd.f5 [] false w args ∧ laidMetH Tryd.prog Rows.fnDigitBarsRow.laid w) ∧ sizedMet enc Tryd.prog Tryd.f5 (OpenSpec.ofChange Rows.fnDigitBarsSpec) false w args)
      (Rows.fnDigitBarsSpec.post enc Tryd.prog Tryd.f5 false true false false) := by
  refine returnsInHanded_of_change_and (C := Tryd.checked) (X := fun w _ => laidMetH Tryd.prog Rows.fnDigitBarsRow.laid w) (fun _ _ _ hh h => h.of_heap hh) own started (by kernel_rfl) Tryd.func5
    (ChangeSpec.witness_shaped (enc := enc) (C := Tryd.checked) (os := os) (X := fun w _ => laidMetH Tryd.prog Rows.fnDigitBarsRow.laid w) false (World.doorLaid Tryd.prog 400 os) #[.slice none 0 0] 8 rfl (World.shaped_of_RefB (by kernel_rfl) (by kernel_rfl)) (by kernel_rfl) (by kernel_rfl) (by kernel_rfl) (Laid.door_bars os _)) ?_
  intro W base args ds gs before hval0 hW _ _ hL _
  have hval : ∀ (j : Nat) t v, Tryd.f5.params[j]? = some t → args[j]? = some v → Value.okWide Tryd.prog W .any base t v := hval0
  have hW' := hW
  obtain ⟨p, q, hA0, hV, rfl, hfz, hnd⟩ := hW
  have hA : DataW.TrodAll enc Tryd.prog W 0 (fun _ => true) true Tryd.f5.params.toList args.toList ds p := hA0
  rw [Tryd.params5] at hA hval
  obtain ⟨v0, vs0, d0, ds0, p0, q0, hargs, rfl, rfl, h0, r0⟩ := trodAll_cons hA
  obtain ⟨rfl, rfl, rfl⟩ := trodAll_nil r0
  obtain rfl : args = #[v0] := by cases args; simp_all
  have ltV := DataW.TrodVars.lt hV
  obtain ⟨e0, rfl⟩ : ∃ e0, gs = [e0] := Vars.gs_1 hV
  have g0 := h0
  have lt0 : ∀ x ∈ p0, x.block < W.heap.size := by obtain ⟨m, hm⟩ := g0; exact DataW.trod_lt m _ _ _ hm
  obtain ⟨a0, l0, k0, rfl⟩ := okWide_slice Tryd.underlying22 (hval 0 22 v0 rfl rfl)
  obtain ⟨z0, w0⟩ : ∃ zs, IsRow .u8 W a0 l0 k0 zs := by
    obtain ⟨fuel, hf⟩ := h0
    rcases open_ints Tryd.underlying22 Tryd.underlying5 (by kernel_rfl) hf with ⟨hcs, _⟩ | ⟨x, l, c, zs, hcs, _, hl, hm, hz, _, hcell, hwz⟩
    · simp [Value.cells] at hcs
      obtain ⟨rfl, rfl, rfl⟩ := hcs
      exact ⟨[], .inl ⟨rfl, rfl, rfl, rfl⟩⟩
    · simp [Value.cells] at hcs
      obtain ⟨rfl, rfl, rfl⟩ := hcs
      exact ⟨zs, .inr ⟨_, rfl, hl, hm, by simpa using hz, hcell, hwz⟩⟩
  clear hA0 hval0
  refine (walk W a0 l0 k0 z0 w0 (Laid.of_bars hL)).mono fun e W' ⟨he, bel⟩ => ?_
  subst he
  exact ⟨_, rfl, _, _, _, [], _, _, hW', trodAll_mk1 (shut_bool Tryd.underlying4 _), (trodAll_cons_mk (Below.trod laidOut (by kernel_rfl) (of_decide_eq_true (by kernel_rfl)) g0 bel lt0) trodAll_mk0), Vars.trodVars_below laidOut bel Laid.named_bars hV ltV, bel.frame _, fun h => by cases h⟩

theorem row_holds : Rows.FnDigitBarsSaid :=
  OpenClaim.holds_of_wide 5 Tryd.f5 rfl rfl rfl rfl rfl rfl rfl ⟨rfl, rfl, rfl, rfl, rfl⟩ rfl rfl rfl rfl rfl (by kernel_rfl) Tryd.func5 (by kernel_rfl)
    (of_decide_eq_true (by kernel_rfl)) (by unfold Func.isWrapper; first | (rw [if_pos (by decide +kernel)]; kernel_rfl) | (rw [if_neg (by decide +kernel)]; exact ⟨rfl, rfl⟩))
    (fun os started H enc _ => lifted os started H enc)

theorem proved : Rows.FnDigitBarsCardSaid :=
  Claim7.holds_tied_plain_at .later [] [.data] true Rows.fnDigitBarsCard.stood.harness false
    row_holds (fun _ h => by cases h) (by kernel_rfl) (fun _ h => by cases h) fnDigitBars_row_tie rfl ⟨rfl, rfl⟩ (by kernel_rfl) rfl
    (fun f fn hf hfn => by
      obtain rfl : f = 5 := Option.some.inj ((show Tryd.prog.funcNamed Rows.fnDigitBarsRow.func = some 5 by kernel_rfl).symm.trans hf) |>.symm
      obtain rfl : fn = Tryd.f5 := (Option.some.inj (Tryd.func5.symm.trans hfn)).symm
      exact ⟨by kernel_rfl, fun j t ht => by
        rw [Tryd.params5] at ht
        have hm : t ∈ [22] := by simpa using Array.mem_of_getElem? ht
        have hall : ([22].all fun u => !Tryd.prog.wantsStandIn u) = true := by kernel_rfl
        exact (show Tryd.prog.wantsStandIn t = false by simpa using List.all_eq_true.1 hall t hm)⟩)
    (by kernel_rfl)
#print axioms proved
end Go.Proofs.YteaekomdbiaemaaDoor.fnDigitBars
