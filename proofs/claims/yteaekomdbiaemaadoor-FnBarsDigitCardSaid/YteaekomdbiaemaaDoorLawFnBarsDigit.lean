/-
  For every input, laws.FnBarsDigit returns true: five bars are those of a digit exactly if two are long and three short, also if they are read from the other side. Condition: the listed table of bars holds what the program's text lays, to which the card ties it.
-/
import Derived.Test.YteaekomdbiaemaaDoorCards
import Derived.Test.YteaekomdbiaemaaDoorDrawBars
import Derived.Test.YteaekomdbiaemaaDoorGood
import Derived.Test.YteaekomdbiaemaaDoorVars
import Derived.Test.YteaekomdbiaemaaDoorTie
import Derived.LaidMore
import Derived.Stop.Joined
import Derived.SevenTiedAt
import Derived.WalkKit
import Derived.ProofKit
import Derived.OpenShut
import Derived.ShutString
import Derived.ChangeOld
import Derived.Below
import Derived.Handy
import Derived.Lib.Hide
namespace Go.Proofs.YteaekomdbiaemaaDoor.fnBarsDigit
open Go.ChangeShapes Go.WideShapes Go.ChangeAt Go.RowKit
open Go.ChangeMaps (open_string shut_string)
open Go.PlainAid (bt get_bt bt_nonneg bt_le)
set_option linter.unusedVariables false

theorem own : ownKnob Tryd.prog.godebug = none := by kernel_rfl
theorem laidOut : laidOutB Tryd.prog = true := by kernel_rfl

set_option maxHeartbeats 2000000 in
set_option maxRecDepth 100000 in
theorem walk (w : World) (a0 : Option Addr) (l0 k0 : Nat) (z0 : List Int) (w0 : IsRow .u8 w a0 l0 k0 z0) (hL : Laid.bars w) :
    Calls Tryd.prog 6 #[.slice a0 l0 k0] w fun e w' => e = .returned (.bool true) ∧ Below w.heap.size w w' := by
  by_cases hl : 1048576 < l0
  · go_enter Tryd.func6, Tryd.ntmps6
    go_wp2
    go_ret
    exact ⟨rfl, Below.refl _ _⟩
  go_enter Tryd.func6, Tryd.ntmps6
  go_wp2_with fail
  refine (DrawBarsDigit_any a0 l0 k0 z0 w w0).mono ?_
  rintro e w1 ⟨B, rfl, hB10, hb1⟩
  have hL1 := hL.below hb1
  have hz1 := hb1.size
  go_wp2_with fail
  refine (impl_BarsDigit _ _ hL1).mono ?_
  rintro e w2 ⟨rfl, rfl⟩
  go_wp2_with fail
  refine (spec_BarsDigit _ _).mono ?_
  rintro e w3 ⟨rfl, hb3⟩
  have hL3 := Lib.hid (hL1.below hb3)
  have hB := Lib.hid (hb1.trans (hb3.mono hz1))
  have hbt := get_bt B
  clear w0 hL hL1 hb1 hb3
  rcases M.bar_cases B with ⟨d, hd, hBB⟩ | hno
  · have h0 : (0 : Int) ≤ (d : Int) := by omega
    have h9 : (d : Int) ≤ 9 := by omega
    have HBB := Lib.hid hBB.symm
    have hbd : M.barDigit B = d := by rw [hBB]; exact M.bar_digit h0 h9
    have hsz : B.size = 5 := by rw [hBB]; exact M.bar_size h0 h9
    have hc2 : M.cnt 124 B 5 = 2 := by rw [hBB]; exact (M.bar_facts h0 h9).1
    have hc3 : M.cnt 46 B 5 = 3 := by rw [hBB]; exact (bars_good h0 h9).1
    have ht0 : 0 ≤ M.barDigit (turn B) := by rw [hBB]; exact (bars_good h0 h9).2
    rw [hbd]
    clear hBB
    have h5a : 5 ≤ B.size := by omega
    have h5b : B.size ≤ 5 := by omega
    have h5c : ((B.size : Int) == 5) = true := by simp; omega
    have HC2 := Lib.hid hc2
    have HC3 := Lib.hid hc3
    clear hsz hc2 hc3 hbd
    go_wp2
    go_loopw [5, 6, 7] (fun n m i wr => ∃ k : Nat, k ≤ B.size ∧ i = .int .i64 k ∧ n = .int .i64 (M.cnt 124 B k) ∧ m = .int .i64 (M.cnt 46 B k) ∧ wr = w3) (fun _ _ i _ => B.size - (intOf i).toNat)
    case atStart => exact ⟨0, by omega, rfl, rfl, rfl, (by first | trivial | rfl)⟩
    case round =>
      obtain ⟨k, hk, rfl, rfl, rfl, rfl⟩ := hrel
      obtain ⟨n0, n1⟩ := M.cnt_bd 124 B k
      obtain ⟨m0, m1⟩ := M.cnt_bd 46 B k
      by_cases hlt : k < B.size
      · by_cases hb1 : bt B k = 124
        · have c1 := Lib.hid (M.cnt_yes hb1)
          have c2 := Lib.hid (M.cnt_no (c := 46) (s := B) (k := k) (by omega))
          have q1 : (bt B k == 124) = true := by simp [hb1]
          have q2 : (bt B k == 46) = false := by simp [hb1]
          clear hb1
          go_wp2
          go_roundw
          case rel => exact ⟨k + 1, by omega, by go_num, by rw [c1.out], by rw [c2.out], (by first | trivial | rfl)⟩
          case measure => simp [intOf]; omega
        · by_cases hb2 : bt B k = 46
          · have c1 := Lib.hid (M.cnt_no hb1)
            have c2 := Lib.hid (M.cnt_yes hb2)
            have q1 : (bt B k == 124) = false := by simp [hb1]
            have q2 : (bt B k == 46) = true := by simp [hb2]
            clear hb1 hb2
            go_wp2
            go_roundw
            case rel => exact ⟨k + 1, by omega, by go_num, by rw [c1.out], by rw [c2.out], (by first | trivial | rfl)⟩
            case measure => simp [intOf]; omega
          · have c1 := Lib.hid (M.cnt_no hb1)
            have c2 := Lib.hid (M.cnt_no hb2)
            have q1 : (bt B k == 124) = false := by simp [hb1]
            have q2 : (bt B k == 46) = false := by simp [hb2]
            clear hb1 hb2
            go_wp2
            go_roundw
            case rel => exact ⟨k + 1, by omega, by go_num, by rw [c1.out], by rw [c2.out], (by first | trivial | rfl)⟩
            case measure => simp [intOf]; omega
      · obtain rfl : k = 5 := by omega
        have e2 := HC2.out
        have e3 := HC3.out
        clear hbt
        go_wp2_with (first | (go_at_call 22; refine (impl_DigitBars_yes _ _ hL3.out h0 h9).mono ?_; rw [HBB.out]; rintro e w4 ⟨rfl, rfl⟩) | (go_at_call 17; refine (impl_TurnBars _ _ (by omega)).mono ?_; rintro e w5 ⟨rfl, hb5⟩) | (go_at_call 24; refine (impl_BarsDigit _ _ (hL3.out.below hb5)).mono ?_; rintro e w6 ⟨rfl, rfl⟩))
        go_ret
        exact ⟨rfl, hB.out.trans (hb5.mono hB.out.size)⟩
  · have hbd := M.barDigit_no hno
    rw [hbd]
    have HN := Lib.hid hno
    clear hno hbd
    go_wp2
    go_loopw [5, 6, 7] (fun n m i wr => ∃ k : Nat, k ≤ B.size ∧ i = .int .i64 k ∧ n = .int .i64 (M.cnt 124 B k) ∧ m = .int .i64 (M.cnt 46 B k) ∧ wr = w3) (fun _ _ i _ => B.size - (intOf i).toNat)
    case atStart => exact ⟨0, by omega, rfl, rfl, rfl, (by first | trivial | rfl)⟩
    case round =>
      obtain ⟨k, hk, rfl, rfl, rfl, rfl⟩ := hrel
      obtain ⟨n0, n1⟩ := M.cnt_bd 124 B k
      obtain ⟨m0, m1⟩ := M.cnt_bd 46 B k
      by_cases hlt : k < B.size
      · by_cases hb1 : bt B k = 124
        · have c1 := Lib.hid (M.cnt_yes hb1)
          have c2 := Lib.hid (M.cnt_no (c := 46) (s := B) (k := k) (by omega))
          have q1 : (bt B k == 124) = true := by simp [hb1]
          have q2 : (bt B k == 46) = false := by simp [hb1]
          clear hb1
          go_wp2
          go_roundw
          case rel => exact ⟨k + 1, by omega, by go_num, by rw [c1.out], by rw [c2.out], (by first | trivial | rfl)⟩
          case measure => simp [intOf]; omega
        · by_cases hb2 : bt B k = 46
          · have c1 := Lib.hid (M.cnt_no hb1)
            have c2 := Lib.hid (M.cnt_yes hb2)
            have q1 : (bt B k == 124) = false := by simp [hb1]
            have q2 : (bt B k == 46) = true := by simp [hb2]
            clear hb1 hb2
            go_wp2
            go_roundw
            case rel => exact ⟨k + 1, by omega, by go_num, by rw [c1.out], by rw [c2.out], (by first | trivial | rfl)⟩
            case measure => simp [intOf]; omega
          · have c1 := Lib.hid (M.cnt_no hb1)
            have c2 := Lib.hid (M.cnt_no hb2)
            have q1 : (bt B k == 124) = false := by simp [hb1]
            have q2 : (bt B k == 46) = false := by simp [hb2]
            clear hb1 hb2
            go_wp2
            go_roundw
            case rel => exact ⟨k + 1, by omega, by go_num, by rw [c1.out], by rw [c2.out], (by first | trivial | rfl)⟩
            case measure => simp [intOf]; omega
      · obtain rfl : k = B.size := by omega
        go_wp2
        all_goals
          go_ret
          first
            | exact ⟨rfl, hB.out⟩
            | exact ⟨ret_bool (by simp; omega), hB.out⟩
            | (exfalso
               have h5 : B.size = 5 := by omega
               have c1 : M.cnt 124 B B.size = 2 := by assumption
               have c2 : M.cnt 46 B B.size = 3 := by assumption
               rw [h5] at c1 c2
               exact HN.out (good_bars h5 c1 c2))

set_option maxRecDepth 100000 in
theorem lifted (os : Os) (started : os.Started) (H : Type) (enc : TypeId × Value → H) :
    ReturnsInHanded {} Tryd.checked os 6 .any (fun w args => (Rows.fnBarsDigitSpec.pre enc Tryd.prog Tryd.f6 [] false w args ∧ laidMetH Tryd.prog Rows.fnBarsDigitRow.laid w) ∧ sizedMet enc Tryd.prog Tryd.f6 (OpenSpec.ofChange Rows.fnBarsDigitSpec) false w args)
      (Rows.fnBarsDigitSpec.post enc Tryd.prog Tryd.f6 false true false false) := by
  refine returnsInHanded_of_change_and (C := Tryd.checked) (X := fun w _ => laidMetH Tryd.prog Rows.fnBarsDigitRow.laid w) (fun _ _ _ hh h => h.of_heap hh) own started (by kernel_rfl) Tryd.func6
    (ChangeSpec.witness_shaped (enc := enc) (C := Tryd.checked) (os := os) (X := fun w _ => laidMetH Tryd.prog Rows.fnBarsDigitRow.laid w) false (World.doorLaid Tryd.prog 400 os) #[.slice none 0 0] 8 rfl (World.shaped_of_RefB (by kernel_rfl) (by kernel_rfl)) (by kernel_rfl) (by kernel_rfl) (by kernel_rfl) (Laid.door_bars os _)) ?_
  intro W base args ds gs before hval0 hW _ _ hL _
  have hval : ∀ (j : Nat) t v, Tryd.f6.params[j]? = some t → args[j]? = some v → Value.okWide Tryd.prog W .any base t v := hval0
  have hW' := hW
  obtain ⟨p, q, hA0, hV, rfl, hfz, hnd⟩ := hW
  have hA : DataW.TrodAll enc Tryd.prog W 0 (fun _ => true) true Tryd.f6.params.toList args.toList ds p := hA0
  rw [Tryd.params6] at hA hval
  obtain ⟨v0, vs0, d0, ds0, p0, q0, hargs, rfl, rfl, h0, r0⟩ := trodAll_cons hA
  obtain ⟨rfl, rfl, rfl⟩ := trodAll_nil r0
  obtain rfl : args = #[v0] := by cases args; simp_all
  have ltV := DataW.TrodVars.lt hV
  obtain ⟨e0, rfl⟩ : ∃ e0, gs = [e0] := Vars.gs_1 hV
  have g0 := h0
  have lt0 : ∀ x ∈ p0, x.block < W.heap.size := by obtain ⟨m, hm⟩ := g0; exact DataW.trod_lt m _ _ _ hm
  obtain ⟨a0, l0, k0, rfl⟩ := okWide_slice Tryd.underlying22 (hval 0 22 v0 rfl rfl)
  obtain ⟨z0, w0⟩ : ∃ zs, IsRow .u8 W a0 l0 k0 zs := by
    obtain ⟨fuel, hf⟩ := h0
    rcases open_ints Tryd.underlying22 Tryd.underlying5 (by kernel_rfl) hf with ⟨hcs, _⟩ | ⟨x, l, c, zs, hcs, _, hl, hm, hz, _, hcell, hwz⟩
    · simp [Value.cells] at hcs
      obtain ⟨rfl, rfl, rfl⟩ := hcs
      exact ⟨[], .inl ⟨rfl, rfl, rfl, rfl⟩⟩
    · simp [Value.cells] at hcs
      obtain ⟨rfl, rfl, rfl⟩ := hcs
      exact ⟨zs, .inr ⟨_, rfl, hl, hm, by simpa using hz, hcell, hwz⟩⟩
  clear hA0 hval0
  refine (walk W a0 l0 k0 z0 w0 (Laid.of_bars hL)).mono fun e W' ⟨he, bel⟩ => ?_
  subst he
  exact ⟨_, rfl, _, _, _, [], _, _, hW', trodAll_mk1 (shut_bool Tryd.underlying4 _), (trodAll_cons_mk (Below.trod laidOut (by kernel_rfl) (of_decide_eq_true (by kernel_rfl)) g0 bel lt0) trodAll_mk0), Vars.trodVars_below laidOut bel Laid.named_bars hV ltV, bel.frame _, fun h => by cases h⟩

theorem row_holds : Rows.FnBarsDigitSaid :=
  OpenClaim.holds_of_wide 6 Tryd.f6 rfl rfl rfl rfl rfl rfl rfl ⟨rfl, rfl, rfl, rfl, rfl⟩ rfl rfl rfl rfl rfl (by kernel_rfl) Tryd.func6 (by kernel_rfl)
    (of_decide_eq_true (by kernel_rfl)) (by unfold Func.isWrapper; first | (rw [if_pos (by decide +kernel)]; kernel_rfl) | (rw [if_neg (by decide +kernel)]; exact ⟨rfl, rfl⟩))
    (fun os started H enc _ => lifted os started H enc)

theorem proved : Rows.FnBarsDigitCardSaid :=
  Claim7.holds_tied_plain_at .later [] [.data] true Rows.fnBarsDigitCard.stood.harness false
    row_holds (fun _ h => by cases h) (by kernel_rfl) (fun _ h => by cases h) fnBarsDigit_row_tie rfl ⟨rfl, rfl⟩ (by kernel_rfl) rfl
    (fun f fn hf hfn => by
      obtain rfl : f = 6 := Option.some.inj ((show Tryd.prog.funcNamed Rows.fnBarsDigitRow.func = some 6 by kernel_rfl).symm.trans hf) |>.symm
      obtain rfl : fn = Tryd.f6 := (Option.some.inj (Tryd.func6.symm.trans hfn)).symm
      exact ⟨by kernel_rfl, fun j t ht => by
        rw [Tryd.params6] at ht
        have hm : t ∈ [22] := by simpa using Array.mem_of_getElem? ht
        have hall : ([22].all fun u => !Tryd.prog.wantsStandIn u) = true := by kernel_rfl
        exact (show Tryd.prog.wantsStandIn t = false by simpa using List.all_eq_true.1 hall t hm)⟩)
    (by kernel_rfl)
#print axioms proved
end Go.Proofs.YteaekomdbiaemaaDoor.fnBarsDigit
