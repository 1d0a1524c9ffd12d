/-
  For every two slices of bytes, laws.FnRecover returns true. Condition: the listed tables hold what the program's text lays, to which the card ties them.
-/
import Derived.Test.YthpdcilffbffoaaDoorCards
import Derived.Test.YthpdcilffbffoaaDoorFlipM
import Derived.Test.YthpdcilffbffoaaDoorRead
import Derived.Test.YthpdcilffbffoaaDoorDrawRead
import Derived.Test.YthpdcilffbffoaaDoorPut
import Derived.Test.YthpdcilffbffoaaDoorShaped
import Derived.Lay
import Derived.Test.YthpdcilffbffoaaDoorLaidB
import Derived.Test.YthpdcilffbffoaaDoorVars
import Derived.Test.YthpdcilffbffoaaDoorTie
import Derived.LaidMore
import Derived.Stop.Joined
import Derived.SevenTiedAt
import Derived.WalkKit
import Derived.ProofKit
import Derived.OpenShut
import Derived.ShutString
import Derived.ChangeOld
import Derived.Below
import Derived.Handy
import Derived.Lib.Hide
namespace Go.Proofs.YthpdcilffbffoaaDoor.fnRecover
open Go.ChangeShapes Go.WideShapes Go.ChangeAt Go.RowKit
open Go.ChangeMaps (open_string shut_string)
open Go.PlainAid (bt get_bt bt_nonneg bt_le)
set_option linter.unusedVariables false

theorem own : ownKnob Tryd.prog.godebug = none := by kernel_rfl
theorem laidOut : laidOutB Tryd.prog = true := by kernel_rfl

set_option maxHeartbeats 8000000 in
set_option maxRecDepth 100000 in
theorem walk (w : World) (a0 : Option Addr) (l0 k0 : Nat) (z0 : List Int) (w0 : IsRow .u8 w a0 l0 k0 z0) (a1 : Option Addr) (l1 k1 : Nat) (z1 : List Int) (w1 : IsRow .u8 w a1 l1 k1 z1) (hL : Laid.read w) :
    Calls Tryd.prog 6 #[.slice a0 l0 k0, .slice a1 l1 k1] w fun e w' => e = .returned (.bool true) ∧ Below w.heap.size w w' := by
  by_cases hl : 1048576 < l0
  · go_enter Tryd.func6, Tryd.ntmps6
    go_wp2
    go_ret
    exact ⟨rfl, Below.refl _ _⟩
  by_cases hl' : 1048576 < l1
  · go_enter Tryd.func6, Tryd.ntmps6
    go_wp2
    go_ret
    exact ⟨rfl, Below.refl _ _⟩
  go_enter Tryd.func6, Tryd.ntmps6
  go_wp2_with fail
  refine (DrawBarsOf_any a0 l0 k0 z0 w w0).mono ?_
  rintro e w1 ⟨c, rfl, hs, k1⟩
  have h1 : Below w.heap.size w w1 := k1
  have hsm : c.size ≤ maxLen := by unfold maxLen; omega
  cases hc : M.code c
  · go_wp2_with fail
    refine (impl_BarsOf_no _ _ hsm hc).mono ?_
    rintro e w2 ⟨rfl, k2⟩
    have h2 : Below w.heap.size w w2 := stepR h1 k2
    go_wp2_with fail
    refine (spec_BarsOf_no _ _ hsm hc).mono ?_
    rintro e w3 ⟨rfl, rfl⟩
    go_wp2
    go_ret
    exact ⟨rfl, h2⟩
  · have HC := Lib.hid hc
    have h42 := M.bars_size hc
    go_wp2_with fail
    refine (impl_BarsOf_yes _ _ (hL.below h1).1 hc).mono ?_
    rintro e w2 ⟨rfl, k2⟩
    have h2 : Below w.heap.size w w2 := stepR h1 k2
    go_wp2_with fail
    refine (spec_BarsOf_yes _ _ hc).mono ?_
    rintro e w3 ⟨rfl, k3⟩
    have h3 : Below w.heap.size w w3 := stepR h2 k3
    have HR : Hid (∀ x k, k < 8 → M.Smudged (M.barsOf c) x k → bt x (1 + 5 * k) = 63 → M.recov x = some c ∧ M.readB x = none) := fun x k hk h1 h2 => ⟨M.Smudged.recov hc hk h1 h2, M.Smudged.unread hk h1 h2⟩
    have HSR : Hid (∀ k, M.Smudged (M.barsOf c) (M.barsOf c) k) := fun k => M.Smudged.refl h42 k
    clear hc
    generalize M.barsOf c = B at *
    go_wp2
    go_loopw [10] (fun i wr => ∃ k : Nat, k ≤ 8 ∧ i = .int .i64 k ∧ Below w.heap.size w wr) (fun i _ => 8 - (intOf i).toNat)
    case atStart => exact ⟨0, by omega, rfl, h3⟩
    case round =>
      obtain ⟨k, hk, rfl, hb⟩ := hrel
      have hz := hb.size
      by_cases hlt : k < 8
      · have hk8 : decide ((k : Int) < 8) = true := by simp; omega
        go_wp2
        go_loopw [11, 12] (fun x i wr => ∃ (j : Nat) (t : ByteArray), j ≤ 5 ∧ i = .int .i64 j ∧ x = .string t ∧ Hid (M.Smudged B t k) ∧ Hid (0 < j → bt t (1 + 5 * k) = 63) ∧ Below w.heap.size w wr) (fun _ i _ => 5 - (intOf i).toNat)
        case atStart => exact ⟨0, B, by omega, rfl, rfl, HSR.out k, fun h => by omega, hb⟩
        case round =>
          obtain ⟨j, t, hj, rfl, rfl, hsm2, hq, hb2⟩ := hrel
          have hz2 := hb2.size
          have ht := hsm2.out.1
          have HT := Lib.hid ht
          have ht1 : t.size ≤ 42 := by omega
          have ht2 : 42 ≤ t.size := by omega
          clear ht
          by_cases hj5 : j < 5
          · by_cases h0 : j = 0
            · subst h0
              have hbp := bt_put t (1 + 5 * k) 63 (by omega) (by omega) (1 + 5 * k) (by omega)
              rw [if_pos rfl] at hbp
              have HBP := Lib.hid hbp
              have HS2 := Lib.hid (hsm2.out.put (i := 1 + 5 * k) 63 (by omega) (by omega) (by omega))
              clear hbp
              go_wp2_with (go_at_call 20; rw [show ((1 : Int) + 5 * (k : Int)) = ((1 + 5 * k : Nat) : Int) from by omega]; refine (soPut_any _ _ _ _ (by omega) (by omega) (by omega)).mono ?_; rintro e w5 ⟨rfl, k5⟩)
              go_roundw
              case rel => exact ⟨1, _, by omega, rfl, rfl, HS2, fun _ => HBP.out, stepR hb2 k5⟩
              case measure => simp [intOf]
            · have p0 : (0 : Int) ≤ (j : Int) * (k : Int) := Int.mul_nonneg (by omega) (by omega)
              have p1 : (j : Int) * (k : Int) ≤ 4 * 7 := Int.mul_le_mul (by omega) (by omega) (by omega) (by omega)
              have hj0 : ((j : Int) == 0) = false := by simp; omega
              have hbp := bt_put t (1 + 5 * k + j) 63 (by omega) (by omega) (1 + 5 * k) (by omega)
              rw [if_neg (by omega), hq.out (by omega)] at hbp
              have HBP := Lib.hid hbp
              have HS2 := Lib.hid (hsm2.out.put (i := 1 + 5 * k + j) 63 (by omega) (by omega) (by omega))
              clear hbp
              by_cases hcd : 0 < ((l1 : Int) + (j : Int) * (k : Int)) % 3
              · go_wp2_with (go_at_call 20; rw [show ((1 : Int) + 5 * (k : Int) + (j : Int)) = ((1 + 5 * k + j : Nat) : Int) from by omega]; refine (soPut_any _ _ _ _ (by omega) (by omega) (by omega)).mono ?_; rintro e w5 ⟨rfl, k5⟩)
                go_roundw
                case rel => exact ⟨j + 1, _, by omega, by go_num, rfl, HS2, fun _ => HBP.out, stepR hb2 k5⟩
                case measure => simp [intOf]; omega
              · go_wp2
                go_roundw
                case rel => exact ⟨j + 1, _, by omega, by go_num, rfl, hsm2, fun _ => hq.out (by omega), hb2⟩
                case measure => simp [intOf]; omega
          · obtain rfl : j = 5 := by omega
            have hq5 := hq.out (by omega)
            obtain ⟨r1, r2⟩ := HR.out t k hlt hsm2.out hq5
            have hy := (hsm2.out.put (i := 0) 63 (by omega) (by omega) (by omega)).put (i := 41) 46 (by omega) (by omega) (by omega)
            have hyq : bt (M.put (M.put t 0 63) 41 46) (1 + 5 * k) = 63 := by
              rw [bt_put _ _ _ (by omega) (by omega) _ (by rw [M.put_size]; omega), if_neg (by omega), bt_put _ _ _ (by omega) (by omega) _ (by omega), if_neg (by omega)]
              exact hq5
            obtain ⟨r3, _⟩ := HR.out _ k hlt hy hyq
            have R1 := Lib.hid r1
            have R2 := Lib.hid r2
            have R3 := Lib.hid r3
            have hps := M.put_size t 0 63
            have hp41 : 41 < (M.put t 0 63).size := by omega
            clear r1 r2 r3 hy hyq hq5 hps
            go_wp2_with fail
            rw [show (0 : Int) = ((0 : Nat) : Int) from rfl]
            refine (soPut_any t 0 63 _ (by omega) (by omega) (by omega)).mono ?_
            rintro e w5 ⟨rfl, k5⟩
            go_wp2_with fail
            rw [show (41 : Int) = ((41 : Nat) : Int) from rfl]
            refine (soPut_any _ 41 46 _ hp41 (by omega) (by omega)).mono ?_
            rintro e w6 ⟨rfl, k6⟩
            have h6 := stepR (stepR hb2 k5) k6
            go_wp2_with fail
            refine (impl_RecoverBars _ _ (hL.below h6)).mono ?_
            rw [R1.out, M.ans_some]
            rintro e w7 ⟨rfl, k7⟩
            have h7 := stepR h6 k7
            go_wp2_with fail
            refine (impl_RecoverBars _ _ (hL.below h7)).mono ?_
            rw [R3.out, M.ans_some]
            rintro e w8 ⟨rfl, k8⟩
            have h8 := stepR h7 k8
            go_wp2_with fail
            refine (impl_ReadBars _ _ (hL.below h8)).mono ?_
            rw [R2.out, M.ans_none]
            rintro e w9 ⟨rfl, k9⟩
            have h9 := stepR h8 k9
            have hee : (c.toList == c.toList) = true := by simp
            go_wp2
            go_roundw
            case rel => exact ⟨k + 1, by omega, by go_num, h9⟩
            case measure => simp [intOf]; omega
      · obtain rfl : k = 8 := by omega
        go_wp2
        go_ret
        exact ⟨rfl, hb⟩

set_option maxRecDepth 100000 in
theorem lifted (os : Os) (started : os.Started) (H : Type) (enc : TypeId × Value → H) :
    ReturnsInHanded {} Tryd.checked os 6 .any (fun w args => (Rows.fnRecoverSpec.pre enc Tryd.prog Tryd.f6 [] false w args ∧ laidMetH Tryd.prog Rows.fnRecoverRow.laid w) ∧ sizedMet enc Tryd.prog Tryd.f6 (OpenSpec.ofChange Rows.fnRecoverSpec) false w args)
      (Rows.fnRecoverSpec.post enc Tryd.prog Tryd.f6 false true false false) := by
  refine returns_listed (C := Tryd.checked) (X := fun w _ => laidMetH Tryd.prog Rows.fnRecoverRow.laid w) (fun _ _ _ hh h => h.of_heap hh) own started (by kernel_rfl) Tryd.func6
    (ChangeSpec.witness_shaped (enc := enc) (C := Tryd.checked) (os := os) (X := fun w _ => laidMetH Tryd.prog Rows.fnRecoverRow.laid w) false (World.laidAll Tryd.prog os Rows.fnRecoverRow.laid) #[.slice none 0 0, .slice none 0 0] 8 (World.laidAll_os _ _ _) (World.shaped_of_ZipB (by kernel_rfl) (by kernel_rfl)) (by kernel_rfl) (by kernel_rfl) (by kernel_rfl) (Laid.door_read os _)) ?_
  intro W base args ds gs before hval0 hW hL hsh
  have hval : ∀ (j : Nat) t v, Tryd.f6.params[j]? = some t → args[j]? = some v → Value.okWide Tryd.prog W .any base t v := hval0
  have hW' := hW
  obtain ⟨p, q, hA0, hV, rfl, hfz, hnd⟩ := hW
  have hA : DataW.TrodAll enc Tryd.prog W 0 (fun _ => true) true Tryd.f6.params.toList args.toList ds p := hA0
  rw [Tryd.params6] at hA hval
  obtain ⟨v0, vs0, d0, ds0, p0, q0, hargs, rfl, rfl, h0, r0⟩ := trodAll_cons hA
  obtain ⟨v1, vs1, d1, ds1, p1, q1, rfl, rfl, rfl, h1, r1⟩ := trodAll_cons r0
  obtain ⟨rfl, rfl, rfl⟩ := trodAll_nil r1
  obtain rfl : args = #[v0, v1] := by cases args; simp_all
  have ltV := DataW.TrodVars.lt hV
  obtain ⟨e0, e1, rfl⟩ : ∃ e0 e1, gs = [e0, e1] := Vars.gs_2 hV
  have g0 := h0
  have lt0 : ∀ x ∈ p0, x.block < W.heap.size := by obtain ⟨m, hm⟩ := g0; exact DataW.trod_lt m _ _ _ hm
  have g1 := h1
  have lt1 : ∀ x ∈ p1, x.block < W.heap.size := by obtain ⟨m, hm⟩ := g1; exact DataW.trod_lt m _ _ _ hm
  obtain ⟨a0, l0, k0, rfl⟩ := okWide_slice Tryd.underlying22 (hval 0 22 v0 rfl rfl)
  obtain ⟨z0, w0⟩ : ∃ zs, IsRow .u8 W a0 l0 k0 zs := by
    obtain ⟨fuel, hf⟩ := h0
    rcases open_ints Tryd.underlying22 Tryd.underlying5 (by kernel_rfl) hf with ⟨hcs, _⟩ | ⟨x, l, c, zs, hcs, _, hl, hm, hz, _, hcell, hwz⟩
    · simp [Value.cells] at hcs
      obtain ⟨rfl, rfl, rfl⟩ := hcs
      exact ⟨[], .inl ⟨rfl, rfl, rfl, rfl⟩⟩
    · simp [Value.cells] at hcs
      obtain ⟨rfl, rfl, rfl⟩ := hcs
      exact ⟨zs, .inr ⟨_, rfl, hl, hm, by simpa using hz, hcell, hwz⟩⟩
  obtain ⟨a1, l1, k1, rfl⟩ := okWide_slice Tryd.underlying22 (hval 1 22 v1 rfl rfl)
  obtain ⟨z1, w1⟩ : ∃ zs, IsRow .u8 W a1 l1 k1 zs := by
    obtain ⟨fuel, hf⟩ := h1
    rcases open_ints Tryd.underlying22 Tryd.underlying5 (by kernel_rfl) hf with ⟨hcs, _⟩ | ⟨x, l, c, zs, hcs, _, hl, hm, hz, _, hcell, hwz⟩
    · simp [Value.cells] at hcs
      obtain ⟨rfl, rfl, rfl⟩ := hcs
      exact ⟨[], .inl ⟨rfl, rfl, rfl, rfl⟩⟩
    · simp [Value.cells] at hcs
      obtain ⟨rfl, rfl, rfl⟩ := hcs
      exact ⟨zs, .inr ⟨_, rfl, hl, hm, by simpa using hz, hcell, hwz⟩⟩
  clear hA0 hval0
  refine (walk W a0 l0 k0 z0 w0 a1 l1 k1 z1 w1 (Laid.of_read hL hsh)).mono fun e W' ⟨he, bel⟩ => ?_
  subst he
  exact ⟨_, rfl, _, _, _, [], _, _, hW', trodAll_mk1 (shut_bool Tryd.underlying4 _), (trodAll_cons_mk (Below.trod laidOut (by kernel_rfl) (of_decide_eq_true (by kernel_rfl)) g0 bel lt0) (trodAll_cons_mk (Below.trod laidOut (by kernel_rfl) (of_decide_eq_true (by kernel_rfl)) g1 bel lt1) trodAll_mk0)), Vars.trodVars_below laidOut bel Laid.named_read hV ltV, bel.frame _, fun h => by cases h⟩

theorem row_holds : Rows.FnRecoverSaid :=
  OpenClaim.holds_of_wide 6 Tryd.f6 rfl rfl rfl rfl rfl rfl rfl ⟨rfl, rfl, rfl, rfl, rfl⟩ rfl rfl rfl rfl rfl (by kernel_rfl) Tryd.func6 (by kernel_rfl)
    (of_decide_eq_true (by kernel_rfl)) (by unfold Func.isWrapper; first | (rw [if_pos (by decide +kernel)]; kernel_rfl) | (rw [if_neg (by decide +kernel)]; exact ⟨rfl, rfl⟩))
    (fun os started H enc _ => lifted os started H enc)

theorem proved : Rows.FnRecoverCardSaid :=
  Claim7.holds_tied_plain_at .later [] [.data, .data, .data, .data, .data] true Rows.fnRecoverCard.stood.harness false
    row_holds (fun _ h => by cases h) (by kernel_rfl) (fun _ h => by cases h) fnRecover_row_tie rfl ⟨rfl, rfl⟩ (by kernel_rfl) rfl
    (fun f fn hf hfn => by
      obtain rfl : f = 6 := Option.some.inj ((show Tryd.prog.funcNamed Rows.fnRecoverRow.func = some 6 by kernel_rfl).symm.trans hf) |>.symm
      obtain rfl : fn = Tryd.f6 := (Option.some.inj (Tryd.func6.symm.trans hfn)).symm
      exact ⟨by kernel_rfl, fun j t ht => by
        rw [Tryd.params6] at ht
        have hm : t ∈ [22, 22] := by simpa using Array.mem_of_getElem? ht
        have hall : ([22, 22].all fun u => !Tryd.prog.wantsStandIn u) = true := by kernel_rfl
        exact (show Tryd.prog.wantsStandIn t = false by simpa using List.all_eq_true.1 hall t hm)⟩)
    (by kernel_rfl)
#print axioms proved
end Go.Proofs.YthpdcilffbffoaaDoor.fnRecover
