/-
  For every slice of bytes, laws.FnReadEither returns true. Condition: the listed tables hold what the program's text lays, to which the card ties them.
-/
import Derived.Test.YthpdcilffbffoaaDoorCards
import Derived.Test.YthpdcilffbffoaaDoorEither
import Derived.Test.YthpdcilffbffoaaDoorDrawRead
import Derived.Test.YthpdcilffbffoaaDoorShaped
import Derived.Lay
import Derived.Test.YthpdcilffbffoaaDoorLaidB
import Derived.Test.YthpdcilffbffoaaDoorVars
import Derived.Test.YthpdcilffbffoaaDoorTie
import Derived.LaidMore
import Derived.Stop.Joined
import Derived.SevenTiedAt
import Derived.WalkKit
import Derived.ProofKit
import Derived.OpenShut
import Derived.ShutString
import Derived.ChangeOld
import Derived.Below
import Derived.Handy
import Derived.Lib.Hide
namespace Go.Proofs.YthpdcilffbffoaaDoor.fnReadEither
open Go.ChangeShapes Go.WideShapes Go.ChangeAt Go.RowKit
open Go.ChangeMaps (open_string shut_string)
open Go.PlainAid (bt get_bt bt_nonneg bt_le)
set_option linter.unusedVariables false

theorem own : ownKnob Tryd.prog.godebug = none := by kernel_rfl
theorem laidOut : laidOutB Tryd.prog = true := by kernel_rfl

set_option maxHeartbeats 4000000 in
set_option maxRecDepth 100000 in
theorem walk (w : World) (a0 : Option Addr) (l0 k0 : Nat) (z0 : List Int) (w0 : IsRow .u8 w a0 l0 k0 z0) (hL : Laid.read w) :
    Calls Tryd.prog 5 #[.slice a0 l0 k0] w fun e w' => e = .returned (.bool true) ∧ Below w.heap.size w w' := by
  by_cases hl : 1048576 < l0
  · go_enter Tryd.func5, Tryd.ntmps5
    go_wp2
    go_ret
    exact ⟨rfl, Below.refl _ _⟩
  go_enter Tryd.func5, Tryd.ntmps5
  go_wp2_with fail
  refine (DrawReadEither_any a0 l0 k0 z0 w w0).mono ?_
  rintro e w1 ⟨s, rfl, hs, k1⟩
  have h1 : Below w.heap.size w w1 := k1
  have hsm : s.size ≤ maxLen := by unfold maxLen; omega
  have hs1 : s.size ≤ 1048576 := by omega
  have hs4 : s.size ≤ 4194304 := by omega
  have hts := turn_size s
  have ht1 : (turn s).size ≤ 1048576 := by omega
  have htt := Lib.hid (turn_turn s)
  clear hts
  obtain ⟨o, ho⟩ : ∃ o, M.readB s = o := ⟨_, rfl⟩
  obtain ⟨t, htr⟩ : ∃ t, M.readB (turn s) = t := ⟨_, rfl⟩
  have HO := Lib.hid ho
  have HT := Lib.hid htr
  clear ho htr
  rcases o with _ | c <;> rcases t with _ | d
  · go_wp2_with fail
    refine (impl_ReadEither _ _ hs1 (hL.below h1)).mono ?_
    rw [HO.out, HT.out]
    simp only [eith]
    rintro e w2 ⟨rfl, k2⟩
    have h2 : Below w.heap.size w w2 := stepR h1 k2
    go_wp2_with fail
    refine (spec_ReadEither _ _ hs1).mono ?_
    rw [HO.out, HT.out]
    simp only [eith]
    rintro e w3 ⟨rfl, k3⟩
    have h3 : Below w.heap.size w w3 := stepR h2 k3
    go_wp2_with fail
    refine (impl_TurnBars _ _ hs4).mono ?_
    rintro e w4 ⟨rfl, k4⟩
    have h4 : Below w.heap.size w w4 := stepR h3 k4
    go_wp2_with fail
    refine (impl_ReadEither _ _ ht1 (hL.below h4)).mono ?_
    rw [htt.out, HO.out, HT.out]
    simp only [eith]
    rintro e w5 ⟨rfl, k5⟩
    have h5 : Below w.heap.size w w5 := stepR h4 k5
    go_wp2_with fail
    refine (impl_ReadBars _ _ (hL.below h5)).mono ?_
    rw [HO.out, M.ans_none]
    rintro e w6 ⟨rfl, k6⟩
    have h6 : Below w.heap.size w w6 := stepR h5 k6
    go_wp2_with fail
    refine (impl_TurnBars _ _ hs4).mono ?_
    rintro e w7 ⟨rfl, k7⟩
    have h7 : Below w.heap.size w w7 := stepR h6 k7
    go_wp2_with fail
    refine (impl_ReadBars _ _ (hL.below h7)).mono ?_
    rw [HT.out, M.ans_none]
    rintro e w8 ⟨rfl, k8⟩
    have h8 : Below w.heap.size w w8 := stepR h7 k8
    go_wp2
    go_ret
    exact ⟨rfl, h8⟩
  · go_wp2_with fail
    refine (impl_ReadEither _ _ hs1 (hL.below h1)).mono ?_
    rw [HO.out, HT.out]
    simp only [eith]
    rintro e w2 ⟨rfl, k2⟩
    have h2 : Below w.heap.size w w2 := stepR h1 k2
    go_wp2_with fail
    refine (spec_ReadEither _ _ hs1).mono ?_
    rw [HO.out, HT.out]
    simp only [eith]
    rintro e w3 ⟨rfl, k3⟩
    have h3 : Below w.heap.size w w3 := stepR h2 k3
    go_wp2_with fail
    refine (impl_TurnBars _ _ hs4).mono ?_
    rintro e w4 ⟨rfl, k4⟩
    have h4 : Below w.heap.size w w4 := stepR h3 k4
    go_wp2_with fail
    refine (impl_ReadEither _ _ ht1 (hL.below h4)).mono ?_
    rw [htt.out, HO.out, HT.out]
    simp only [eith]
    rintro e w5 ⟨rfl, k5⟩
    have h5 : Below w.heap.size w w5 := stepR h4 k5
    go_wp2_with fail
    refine (impl_ReadBars _ _ (hL.below h5)).mono ?_
    rw [HO.out, M.ans_none]
    rintro e w6 ⟨rfl, k6⟩
    have h6 : Below w.heap.size w w6 := stepR h5 k6
    go_wp2_with fail
    refine (impl_TurnBars _ _ hs4).mono ?_
    rintro e w7 ⟨rfl, k7⟩
    have h7 : Below w.heap.size w w7 := stepR h6 k7
    go_wp2_with fail
    refine (impl_ReadBars _ _ (hL.below h7)).mono ?_
    rw [HT.out, M.ans_some]
    rintro e w8 ⟨rfl, k8⟩
    have h8 : Below w.heap.size w w8 := stepR h7 k8
    go_wp2
    go_ret
    exact ⟨rfl, h8⟩
  · go_wp2_with fail
    refine (impl_ReadEither _ _ hs1 (hL.below h1)).mono ?_
    rw [HO.out, HT.out]
    simp only [eith]
    rintro e w2 ⟨rfl, k2⟩
    have h2 : Below w.heap.size w w2 := stepR h1 k2
    go_wp2_with fail
    refine (spec_ReadEither _ _ hs1).mono ?_
    rw [HO.out, HT.out]
    simp only [eith]
    rintro e w3 ⟨rfl, k3⟩
    have h3 : Below w.heap.size w w3 := stepR h2 k3
    go_wp2_with fail
    refine (impl_TurnBars _ _ hs4).mono ?_
    rintro e w4 ⟨rfl, k4⟩
    have h4 : Below w.heap.size w w4 := stepR h3 k4
    go_wp2_with fail
    refine (impl_ReadEither _ _ ht1 (hL.below h4)).mono ?_
    rw [htt.out, HO.out, HT.out]
    simp only [eith]
    rintro e w5 ⟨rfl, k5⟩
    have h5 : Below w.heap.size w w5 := stepR h4 k5
    go_wp2_with fail
    refine (impl_ReadBars _ _ (hL.below h5)).mono ?_
    rw [HO.out, M.ans_some]
    rintro e w6 ⟨rfl, k6⟩
    have h6 : Below w.heap.size w w6 := stepR h5 k6
    go_wp2_with fail
    refine (impl_TurnBars _ _ hs4).mono ?_
    rintro e w7 ⟨rfl, k7⟩
    have h7 : Below w.heap.size w w7 := stepR h6 k7
    go_wp2_with fail
    refine (impl_ReadBars _ _ (hL.below h7)).mono ?_
    rw [HT.out, M.ans_none]
    rintro e w8 ⟨rfl, k8⟩
    have h8 : Below w.heap.size w w8 := stepR h7 k8
    go_wp2
    go_ret
    exact ⟨rfl, h8⟩
  · go_wp2_with fail
    refine (impl_ReadEither _ _ hs1 (hL.below h1)).mono ?_
    rw [HO.out, HT.out]
    simp only [eith]
    rintro e w2 ⟨rfl, k2⟩
    have h2 : Below w.heap.size w w2 := stepR h1 k2
    go_wp2_with fail
    refine (spec_ReadEither _ _ hs1).mono ?_
    rw [HO.out, HT.out]
    simp only [eith]
    rintro e w3 ⟨rfl, k3⟩
    have h3 : Below w.heap.size w w3 := stepR h2 k3
    go_wp2_with fail
    refine (impl_TurnBars _ _ hs4).mono ?_
    rintro e w4 ⟨rfl, k4⟩
    have h4 : Below w.heap.size w w4 := stepR h3 k4
    go_wp2_with fail
    refine (impl_ReadEither _ _ ht1 (hL.below h4)).mono ?_
    rw [htt.out, HO.out, HT.out]
    simp only [eith]
    rintro e w5 ⟨rfl, k5⟩
    have h5 : Below w.heap.size w w5 := stepR h4 k5
    go_wp2_with fail
    refine (impl_ReadBars _ _ (hL.below h5)).mono ?_
    rw [HO.out, M.ans_some]
    rintro e w6 ⟨rfl, k6⟩
    have h6 : Below w.heap.size w w6 := stepR h5 k6
    go_wp2_with fail
    refine (impl_TurnBars _ _ hs4).mono ?_
    rintro e w7 ⟨rfl, k7⟩
    have h7 : Below w.heap.size w w7 := stepR h6 k7
    go_wp2_with fail
    refine (impl_ReadBars _ _ (hL.below h7)).mono ?_
    rw [HT.out, M.ans_some]
    rintro e w8 ⟨rfl, k8⟩
    have h8 : Below w.heap.size w w8 := stepR h7 k8
    go_wp2
    go_ret
    exact ⟨rfl, h8⟩

set_option maxRecDepth 100000 in
theorem lifted (os : Os) (started : os.Started) (H : Type) (enc : TypeId × Value → H) :
    ReturnsInHanded {} Tryd.checked os 5 .any (fun w args => (Rows.fnReadEitherSpec.pre enc Tryd.prog Tryd.f5 [] false w args ∧ laidMetH Tryd.prog Rows.fnReadEitherRow.laid w) ∧ sizedMet enc Tryd.prog Tryd.f5 (OpenSpec.ofChange Rows.fnReadEitherSpec) false w args)
      (Rows.fnReadEitherSpec.post enc Tryd.prog Tryd.f5 false true false false) := by
  refine returns_listed (C := Tryd.checked) (X := fun w _ => laidMetH Tryd.prog Rows.fnReadEitherRow.laid w) (fun _ _ _ hh h => h.of_heap hh) own started (by kernel_rfl) Tryd.func5
    (ChangeSpec.witness_shaped (enc := enc) (C := Tryd.checked) (os := os) (X := fun w _ => laidMetH Tryd.prog Rows.fnReadEitherRow.laid w) false (World.laidAll Tryd.prog os Rows.fnReadEitherRow.laid) #[.slice none 0 0] 8 (World.laidAll_os _ _ _) (World.shaped_of_ZipB (by kernel_rfl) (by kernel_rfl)) (by kernel_rfl) (by kernel_rfl) (by kernel_rfl) (Laid.door_read os _)) ?_
  intro W base args ds gs before hval0 hW hL hsh
  have hval : ∀ (j : Nat) t v, Tryd.f5.params[j]? = some t → args[j]? = some v → Value.okWide Tryd.prog W .any base t v := hval0
  have hW' := hW
  obtain ⟨p, q, hA0, hV, rfl, hfz, hnd⟩ := hW
  have hA : DataW.TrodAll enc Tryd.prog W 0 (fun _ => true) true Tryd.f5.params.toList args.toList ds p := hA0
  rw [Tryd.params5] at hA hval
  obtain ⟨v0, vs0, d0, ds0, p0, q0, hargs, rfl, rfl, h0, r0⟩ := trodAll_cons hA
  obtain ⟨rfl, rfl, rfl⟩ := trodAll_nil r0
  obtain rfl : args = #[v0] := by cases args; simp_all
  have ltV := DataW.TrodVars.lt hV
  obtain ⟨e0, e1, rfl⟩ : ∃ e0 e1, gs = [e0, e1] := Vars.gs_2 hV
  have g0 := h0
  have lt0 : ∀ x ∈ p0, x.block < W.heap.size := by obtain ⟨m, hm⟩ := g0; exact DataW.trod_lt m _ _ _ hm
  obtain ⟨a0, l0, k0, rfl⟩ := okWide_slice Tryd.underlying22 (hval 0 22 v0 rfl rfl)
  obtain ⟨z0, w0⟩ : ∃ zs, IsRow .u8 W a0 l0 k0 zs := by
    obtain ⟨fuel, hf⟩ := h0
    rcases open_ints Tryd.underlying22 Tryd.underlying5 (by kernel_rfl) hf with ⟨hcs, _⟩ | ⟨x, l, c, zs, hcs, _, hl, hm, hz, _, hcell, hwz⟩
    · simp [Value.cells] at hcs
      obtain ⟨rfl, rfl, rfl⟩ := hcs
      exact ⟨[], .inl ⟨rfl, rfl, rfl, rfl⟩⟩
    · simp [Value.cells] at hcs
      obtain ⟨rfl, rfl, rfl⟩ := hcs
      exact ⟨zs, .inr ⟨_, rfl, hl, hm, by simpa using hz, hcell, hwz⟩⟩
  clear hA0 hval0
  refine (walk W a0 l0 k0 z0 w0 (Laid.of_read hL hsh)).mono fun e W' ⟨he, bel⟩ => ?_
  subst he
  exact ⟨_, rfl, _, _, _, [], _, _, hW', trodAll_mk1 (shut_bool Tryd.underlying4 _), (trodAll_cons_mk (Below.trod laidOut (by kernel_rfl) (of_decide_eq_true (by kernel_rfl)) g0 bel lt0) trodAll_mk0), Vars.trodVars_below laidOut bel Laid.named_read hV ltV, bel.frame _, fun h => by cases h⟩

theorem row_holds : Rows.FnReadEitherSaid :=
  OpenClaim.holds_of_wide 5 Tryd.f5 rfl rfl rfl rfl rfl rfl rfl ⟨rfl, rfl, rfl, rfl, rfl⟩ rfl rfl rfl rfl rfl (by kernel_rfl) Tryd.func5 (by kernel_rfl)
    (of_decide_eq_true (by kernel_rfl)) (by unfold Func.isWrapper; first | (rw [if_pos (by decide +kernel)]; kernel_rfl) | (rw [if_neg (by decide +kernel)]; exact ⟨rfl, rfl⟩))
    (fun os started H enc _ => lifted os started H enc)

theorem proved : Rows.FnReadEitherCardSaid :=
  Claim7.holds_tied_plain_at .later [] [.data, .data, .data, .data, .data] true Rows.fnReadEitherCard.stood.harness false
    row_holds (fun _ h => by cases h) (by kernel_rfl) (fun _ h => by cases h) fnReadEither_row_tie rfl ⟨rfl, rfl⟩ (by kernel_rfl) rfl
    (fun f fn hf hfn => by
      obtain rfl : f = 5 := Option.some.inj ((show Tryd.prog.funcNamed Rows.fnReadEitherRow.func = some 5 by kernel_rfl).symm.trans hf) |>.symm
      obtain rfl : fn = Tryd.f5 := (Option.some.inj (Tryd.func5.symm.trans hfn)).symm
      exact ⟨by kernel_rfl, fun j t ht => by
        rw [Tryd.params5] at ht
        have hm : t ∈ [22] := by simpa using Array.mem_of_getElem? ht
        have hall : ([22].all fun u => !Tryd.prog.wantsStandIn u) = true := by kernel_rfl
        exact (show Tryd.prog.wantsStandIn t = false by simpa using List.all_eq_true.1 hall t hm)⟩)
    (by kernel_rfl)
#print axioms proved
end Go.Proofs.YthpdcilffbffoaaDoor.fnReadEither
