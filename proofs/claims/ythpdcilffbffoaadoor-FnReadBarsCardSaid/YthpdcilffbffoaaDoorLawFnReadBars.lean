/-
  For every slice of bytes, laws.FnReadBars returns true. Condition: the listed tables hold what the program's text lays, to which the card ties them.
-/
import Derived.Test.YthpdcilffbffoaaDoorCards
import Derived.Test.YthpdcilffbffoaaDoorFlipM
import Derived.Test.YthpdcilffbffoaaDoorRead
import Derived.Test.YthpdcilffbffoaaDoorDrawRead
import Derived.Test.YthpdcilffbffoaaDoorPut
import Derived.Test.YthpdcilffbffoaaDoorShaped
import Derived.Lay
import Derived.Test.YthpdcilffbffoaaDoorLaidB
import Derived.Test.YthpdcilffbffoaaDoorVars
import Derived.Test.YthpdcilffbffoaaDoorTie
import Derived.LaidMore
import Derived.Stop.Joined
import Derived.SevenTiedAt
import Derived.WalkKit
import Derived.ProofKit
import Derived.OpenShut
import Derived.ShutString
import Derived.ChangeOld
import Derived.Below
import Derived.Handy
import Derived.Lib.Hide
namespace Go.Proofs.YthpdcilffbffoaaDoor.fnReadBars
open Go.ChangeShapes Go.WideShapes Go.ChangeAt Go.RowKit
open Go.ChangeMaps (open_string shut_string)
open Go.PlainAid (bt get_bt bt_nonneg bt_le)
set_option linter.unusedVariables false

theorem own : ownKnob Tryd.prog.godebug = none := by kernel_rfl
theorem laidOut : laidOutB Tryd.prog = true := by kernel_rfl

set_option maxHeartbeats 4000000 in
set_option maxRecDepth 100000 in
theorem walk (w : World) (a0 : Option Addr) (l0 k0 : Nat) (z0 : List Int) (w0 : IsRow .u8 w a0 l0 k0 z0) (hL : Laid.read w) :
    Calls Tryd.prog 4 #[.slice a0 l0 k0] w fun e w' => e = .returned (.bool true) ∧ Below w.heap.size w w' := by
  by_cases hl : 1048576 < l0
  · go_enter Tryd.func4, Tryd.ntmps4
    go_wp2
    go_ret
    exact ⟨rfl, Below.refl _ _⟩
  go_enter Tryd.func4, Tryd.ntmps4
  go_wp2_with fail
  refine (DrawReadBars_any a0 l0 k0 z0 w w0).mono ?_
  rintro e w1 ⟨s, rfl, hs, k1⟩
  have h1 : Below w.heap.size w w1 := k1
  have hsm : s.size ≤ maxLen := by unfold maxLen; omega
  obtain ⟨o, ho⟩ : ∃ o, M.readB s = o := ⟨_, rfl⟩
  have HO := Lib.hid ho
  cases o with
  | none =>
    go_wp2_with fail
    refine (impl_ReadBars _ _ (hL.below h1)).mono ?_
    rw [HO.out, M.ans_none]
    rintro e w2 ⟨rfl, k2⟩
    have h2 : Below w.heap.size w w2 := stepR h1 k2
    go_wp2_with fail
    refine (spec_ReadBars _ _).mono ?_
    rw [HO.out, M.ans_none]
    rintro e w3 ⟨rfl, k3⟩
    have h3 : Below w.heap.size w w3 := stepR h2 k3
    go_wp2
    go_ret
    exact ⟨rfl, h3⟩
  | some c =>
    obtain ⟨hc, hB⟩ := M.read_some ho
    have HC := Lib.hid hc
    have HB := Lib.hid hB
    have HU : Hid (∀ j, j < 42 → M.readB (M.put s j (if bt s j = 124 then 46 else 124)) = none) := fun j hj => by rw [← hB]; exact M.unread hc hj
    have h42 : s.size = 42 := by rw [← hB]; exact M.bars_size hc
    have hsm7 : c.size ≤ maxLen := by have := (M.code_yes hc).2; unfold maxLen; omega
    have hl1 : s.size ≤ 42 := by omega
    have hl2 : 42 ≤ s.size := by omega
    clear ho hc hB h42
    go_wp2_with fail
    refine (impl_ReadBars _ _ (hL.below h1)).mono ?_
    rw [HO.out, M.ans_some]
    rintro e w2 ⟨rfl, k2⟩
    have h2 : Below w.heap.size w w2 := stepR h1 k2
    go_wp2_with fail
    refine (spec_ReadBars _ _).mono ?_
    rw [HO.out, M.ans_some]
    rintro e w3 ⟨rfl, k3⟩
    have h3 : Below w.heap.size w w3 := stepR h2 k3
    go_wp2_with fail
    refine (impl_BarsOf_yes _ _ (hL.below h3).1 HC.out).mono ?_
    rw [HB.out]
    rintro e w4 ⟨rfl, k4⟩
    have h4 : Below w.heap.size w w4 := stepR h3 k4
    have hbt := get_bt s
    go_wp2
    go_loopw [10] (fun i wr => ∃ j : Nat, j ≤ s.size ∧ i = .int .i64 j ∧ Below w.heap.size w wr) (fun i _ => s.size - (intOf i).toNat)
    case atStart => exact ⟨0, Nat.zero_le _, rfl, h4⟩
    case round =>
      obtain ⟨j, hj, rfl, hb⟩ := hrel
      have hz := hb.size
      by_cases hlt : j < s.size
      · have hj42 : j < 42 := by omega
        by_cases hbar : bt s j = 124
        · have hif : (if bt s j = 124 then (46 : Int) else 124) = 46 := if_pos hbar
          have hbq : (bt s j == 124) = true := by simp [hbar]
          clear hbar
          have HUJ : Hid (M.readB (M.put s j 46) = none) := by have := HU.out j hj42; rw [hif] at this; exact this
          go_wp2_with (first
            | (go_at_call 20; refine (soPut_any _ _ _ _ hlt (by omega) (by omega)).mono ?_; rintro e w5 ⟨rfl, k5⟩)
            | (go_at_call 15; refine (impl_ReadBars _ _ ((hL.below hb).below k5)).mono ?_; rw [HUJ.out, M.ans_none]; rintro e w6 ⟨rfl, k6⟩))
          go_roundw
          case rel => exact ⟨j + 1, by omega, by go_num, stepR (stepR hb k5) k6⟩
          case measure => simp [intOf]; omega
        · have hif : (if bt s j = 124 then (46 : Int) else 124) = 124 := if_neg hbar
          have hbq : (bt s j == 124) = false := by simp [hbar]
          clear hbar
          have HUJ : Hid (M.readB (M.put s j 124) = none) := by have := HU.out j hj42; rw [hif] at this; exact this
          go_wp2_with (first
            | (go_at_call 20; refine (soPut_any _ _ _ _ hlt (by omega) (by omega)).mono ?_; rintro e w5 ⟨rfl, k5⟩)
            | (go_at_call 15; refine (impl_ReadBars _ _ ((hL.below hb).below k5)).mono ?_; rw [HUJ.out, M.ans_none]; rintro e w6 ⟨rfl, k6⟩))
          go_roundw
          case rel => exact ⟨j + 1, by omega, by go_num, stepR (stepR hb k5) k6⟩
          case measure => simp [intOf]; omega
      · obtain rfl : j = s.size := by omega
        have hee : (s.toList == s.toList) = true := by simp
        go_wp2_with (go_at_call 14; refine (impl_CodeValid _ _ hsm7).mono ?_; rw [HC.out]; rintro e w6 ⟨rfl, k6⟩)
        go_ret
        exact ⟨rfl, stepR hb k6.below⟩

set_option maxRecDepth 100000 in
theorem lifted (os : Os) (started : os.Started) (H : Type) (enc : TypeId × Value → H) :
    ReturnsInHanded {} Tryd.checked os 4 .any (fun w args => (Rows.fnReadBarsSpec.pre enc Tryd.prog Tryd.f4 [] false w args ∧ laidMetH Tryd.prog Rows.fnReadBarsRow.laid w) ∧ sizedMet enc Tryd.prog Tryd.f4 (OpenSpec.ofChange Rows.fnReadBarsSpec) false w args)
      (Rows.fnReadBarsSpec.post enc Tryd.prog Tryd.f4 false true false false) := by
  refine returns_listed (C := Tryd.checked) (X := fun w _ => laidMetH Tryd.prog Rows.fnReadBarsRow.laid w) (fun _ _ _ hh h => h.of_heap hh) own started (by kernel_rfl) Tryd.func4
    (ChangeSpec.witness_shaped (enc := enc) (C := Tryd.checked) (os := os) (X := fun w _ => laidMetH Tryd.prog Rows.fnReadBarsRow.laid w) false (World.laidAll Tryd.prog os Rows.fnReadBarsRow.laid) #[.slice none 0 0] 8 (World.laidAll_os _ _ _) (World.shaped_of_ZipB (by kernel_rfl) (by kernel_rfl)) (by kernel_rfl) (by kernel_rfl) (by kernel_rfl) (Laid.door_read os _)) ?_
  intro W base args ds gs before hval0 hW hL hsh
  have hval : ∀ (j : Nat) t v, Tryd.f4.params[j]? = some t → args[j]? = some v → Value.okWide Tryd.prog W .any base t v := hval0
  have hW' := hW
  obtain ⟨p, q, hA0, hV, rfl, hfz, hnd⟩ := hW
  have hA : DataW.TrodAll enc Tryd.prog W 0 (fun _ => true) true Tryd.f4.params.toList args.toList ds p := hA0
  rw [Tryd.params4] at hA hval
  obtain ⟨v0, vs0, d0, ds0, p0, q0, hargs, rfl, rfl, h0, r0⟩ := trodAll_cons hA
  obtain ⟨rfl, rfl, rfl⟩ := trodAll_nil r0
  obtain rfl : args = #[v0] := by cases args; simp_all
  have ltV := DataW.TrodVars.lt hV
  obtain ⟨e0, e1, rfl⟩ : ∃ e0 e1, gs = [e0, e1] := Vars.gs_2 hV
  have g0 := h0
  have lt0 : ∀ x ∈ p0, x.block < W.heap.size := by obtain ⟨m, hm⟩ := g0; exact DataW.trod_lt m _ _ _ hm
  obtain ⟨a0, l0, k0, rfl⟩ := okWide_slice Tryd.underlying22 (hval 0 22 v0 rfl rfl)
  obtain ⟨z0, w0⟩ : ∃ zs, IsRow .u8 W a0 l0 k0 zs := by
    obtain ⟨fuel, hf⟩ := h0
    rcases open_ints Tryd.underlying22 Tryd.underlying5 (by kernel_rfl) hf with ⟨hcs, _⟩ | ⟨x, l, c, zs, hcs, _, hl, hm, hz, _, hcell, hwz⟩
    · simp [Value.cells] at hcs
      obtain ⟨rfl, rfl, rfl⟩ := hcs
      exact ⟨[], .inl ⟨rfl, rfl, rfl, rfl⟩⟩
    · simp [Value.cells] at hcs
      obtain ⟨rfl, rfl, rfl⟩ := hcs
      exact ⟨zs, .inr ⟨_, rfl, hl, hm, by simpa using hz, hcell, hwz⟩⟩
  clear hA0 hval0
  refine (walk W a0 l0 k0 z0 w0 (Laid.of_read hL hsh)).mono fun e W' ⟨he, bel⟩ => ?_
  subst he
  exact ⟨_, rfl, _, _, _, [], _, _, hW', trodAll_mk1 (shut_bool Tryd.underlying4 _), (trodAll_cons_mk (Below.trod laidOut (by kernel_rfl) (of_decide_eq_true (by kernel_rfl)) g0 bel lt0) trodAll_mk0), Vars.trodVars_below laidOut bel Laid.named_read hV ltV, bel.frame _, fun h => by cases h⟩

theorem row_holds : Rows.FnReadBarsSaid :=
  OpenClaim.holds_of_wide 4 Tryd.f4 rfl rfl rfl rfl rfl rfl rfl ⟨rfl, rfl, rfl, rfl, rfl⟩ rfl rfl rfl rfl rfl (by kernel_rfl) Tryd.func4 (by kernel_rfl)
    (of_decide_eq_true (by kernel_rfl)) (by unfold Func.isWrapper; first | (rw [if_pos (by decide +kernel)]; kernel_rfl) | (rw [if_neg (by decide +kernel)]; exact ⟨rfl, rfl⟩))
    (fun os started H enc _ => lifted os started H enc)

theorem proved : Rows.FnReadBarsCardSaid :=
  Claim7.holds_tied_plain_at .later [] [.data, .data, .data, .data, .data] true Rows.fnReadBarsCard.stood.harness false
    row_holds (fun _ h => by cases h) (by kernel_rfl) (fun _ h => by cases h) fnReadBars_row_tie rfl ⟨rfl, rfl⟩ (by kernel_rfl) rfl
    (fun f fn hf hfn => by
      obtain rfl : f = 4 := Option.some.inj ((show Tryd.prog.funcNamed Rows.fnReadBarsRow.func = some 4 by kernel_rfl).symm.trans hf) |>.symm
      obtain rfl : fn = Tryd.f4 := (Option.some.inj (Tryd.func4.symm.trans hfn)).symm
      exact ⟨by kernel_rfl, fun j t ht => by
        rw [Tryd.params4] at ht
        have hm : t ∈ [22] := by simpa using Array.mem_of_getElem? ht
        have hall : ([22].all fun u => !Tryd.prog.wantsStandIn u) = true := by kernel_rfl
        exact (show Tryd.prog.wantsStandIn t = false by simpa using List.all_eq_true.1 hall t hm)⟩)
    (by kernel_rfl)
#print axioms proved
end Go.Proofs.YthpdcilffbffoaaDoor.fnReadBars
