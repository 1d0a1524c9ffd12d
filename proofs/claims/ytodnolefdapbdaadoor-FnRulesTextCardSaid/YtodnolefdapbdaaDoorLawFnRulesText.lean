/-
  For every two slices of bytes, laws.FnRulesText returns true. No condition.
-/
import Derived.Test.YtodnolefdapbdaaDoorCards
import Derived.Test.YtodnolefdapbdaaDoorRtA
import Derived.Test.YtodnolefdapbdaaDoorRulV3
import Derived.Test.YtodnolefdapbdaaDoorShaped
import Derived.Lay
import Derived.Test.YtodnolefdapbdaaDoorLaidRT
import Derived.Test.YtodnolefdapbdaaDoorVars
import Derived.Test.YtodnolefdapbdaaDoorTie
import Derived.LaidMore
import Derived.Stop.Joined
import Derived.SevenTiedAt
import Derived.BigQuiet
import Derived.WalkKit
import Derived.ProofKit
import Derived.OpenShut
import Derived.ShutString
import Derived.ChangeOld
import Derived.Below
import Derived.Handy
import Derived.Lib.Hide
namespace Go.Proofs.YtodnolefdapbdaaDoor.fnRulesText
open Go.ChangeShapes Go.WideShapes Go.ChangeAt Go.RowKit
open Go.ChangeMaps (open_string shut_string)
open Go.PlainAid (bt get_bt bt_nonneg bt_le)
set_option linter.unusedVariables false

theorem own : ownKnob Tryd.prog.godebug = none := by kernel_rfl
theorem laidOut : laidOutB Tryd.prog = true := by kernel_rfl

set_option maxHeartbeats 40000000 in
set_option maxRecDepth 100000 in
theorem walk (w : World) (a0 : Option Addr) (l0 k0 : Nat) (z0 : List Int) (w0 : IsRow .u8 w a0 l0 k0 z0) (a1 : Option Addr) (l1 k1 : Nat) (z1 : List Int) (w1 : IsRow .u8 w a1 l1 k1 z1) (hL : Laid.cuts w) :
    Calls Tryd.prog 4 #[.slice a0 l0 k0, .slice a1 l1 k1] w fun e w' => e = .returned (.bool true) ∧ Below w.heap.size w w' := by
  have HT := Lib.hid hL
  clear hL
  by_cases hl : 1048576 < l0
  · go_enter Tryd.func4, Tryd.ntmps4
    go_wp2
    go_ret
    exact ⟨rfl, Below.refl _ _⟩
  by_cases hl' : 1048576 < l1
  · go_enter Tryd.func4, Tryd.ntmps4
    go_wp2
    go_ret
    exact ⟨rfl, Below.refl _ _⟩
  have HW1 := Lib.hid w1
  clear w1
  go_enter Tryd.func4, Tryd.ntmps4
  go_wp2_with fail
  refine (DrawFormatRules_row a0 l0 k0 z0 w w0).mono ?_
  rintro e u ⟨v, L, B, rfl, rw1, hn, sm, bl⟩
  have R0 := Lib.hid rw1
  obtain ⟨a, c, hv, hcap, lt⟩ := rw1.form
  subst hv
  have LT := Lib.hid lt
  have FI : Hid (FFits L.length (nF L) (nT L)) := fun i hi => by
    have := sm _ (List.getElem_mem hi)
    rw [nF_at hi, nT_at hi]
    exact ⟨by unfold maxLen; omega, by unfold maxLen; omega⟩
  have BL := Lib.hid bl
  have hn2 : L.length ≤ 1048576 := by omega
  clear lt bl rw1 sm w0
  obtain ⟨T, hTT⟩ : ∃ T, M.rulText L.length (nF L) (nT L) = T := ⟨_, rfl⟩
  have HTT := Lib.hid hTT
  have CF : Hid (∀ W, Fws W a L.length (nF L) (nT L) → Calls Tryd.prog 14 #[.slice a L.length c] W fun e w' => e = .returned (.string T) ∧ Below W.heap.size W w') := fun W h => by
    have := impl_FormatRules W a L.length c (nF L) (nT L) h FI.out
    rw [hTT] at this
    exact this
  have CFS : Hid (∀ W, Fws W a L.length (nF L) (nT L) → Calls Tryd.prog 15 #[.slice a L.length c] W fun e w' => e = .returned (.string T) ∧ Below W.heap.size W w') := fun W h => by
    have := spec_FormatRules W a L.length c (nF L) (nT L) h FI.out hn2
    rw [hTT] at this
    exact this
  have CV := Lib.hid (fun W h => impl_RulesValid W a L.length c (nF L) (nT L) h FI.out)
  clear hTT
  cases hb : M.rul L.length (nF L) (nT L)
  · have hT0 : T = ⟨#[]⟩ := by rw [← HTT.out]; unfold M.rulText; rw [hb]; rfl
    subst hT0
    rw [hb] at CV
    clear hb
    go_wp2_with fail
    refine (CF.out _ LT.out).mono ?_
    rintro e v1 ⟨rfl, k1⟩
    replace BL := Lib.hid (step BL.out k1)
    replace LT := Lib.hid (LT.out.on k1)
    replace R0 := Lib.hid (R0.out.on k1)
    clear k1
    go_wp2_with fail
    refine (CFS.out _ LT.out).mono ?_
    rintro e v2 ⟨rfl, k2⟩
    replace BL := Lib.hid (step BL.out k2)
    replace LT := Lib.hid (LT.out.on k2)
    replace R0 := Lib.hid (R0.out.on k2)
    clear k2
    go_wp2_with fail
    refine (CV.out _ LT.out).mono ?_
    rintro e v3 ⟨rfl, k3⟩
    replace BL := Lib.hid (step BL.out k3)
    replace LT := Lib.hid (LT.out.on k3)
    replace R0 := Lib.hid (R0.out.on k3)
    clear k3
    go_wp2_with fail
    refine (DrawParseRules_any a1 l1 k1 z1 _ (HW1.out.beyondR BL.out)).mono ?_
    rintro e vd ⟨s, rfl, hs, kd⟩
    replace BL := Lib.hid (step BL.out kd)
    clear kd
    have hs2 : s.size ≤ 1048576 := by omega
    have hrd := rul_read (t := s)
    have hl9 := rulPL_len s
    have CI2 := Lib.hid (fun W hM => impl_ParseRules s W hM hs2)
    have CS2 := Lib.hid (fun W => spec_ParseRules s W hs2)
    obtain ⟨ok2, hok2⟩ : ∃ b, M.rulPOk s = b := ⟨_, rfl⟩
    obtain ⟨L2, hL2⟩ : ∃ b, M.rulPL s = b := ⟨_, rfl⟩
    rw [hok2, hL2] at CI2 CS2 hrd
    rw [hL2] at hl9
    have hl2 : L2.length ≤ 1048576 := by omega
    clear hok2 hL2 hl9
    have HRD := Lib.hid hrd
    clear hrd
    go_wp2_with fail
    refine (CI2.out _ (MaxL.below HT.out BL.out)).mono ?_
    rintro e ve ⟨p1, rfl, r1, ke⟩
    have R1 := Lib.hid r1
    replace BL := Lib.hid (step BL.out ke)
    clear ke r1
    go_wp2_with fail
    refine (CS2.out _).mono ?_
    rintro e vf ⟨p2, rfl, r2, kf⟩
    replace R1 := Lib.hid (R1.out.on kf)
    have R2 := Lib.hid r2
    replace BL := Lib.hid (step BL.out kf)
    clear kf r2
    obtain ⟨a3, c3, hp3, _, l3⟩ := R1.out.form
    subst hp3
    clear l3
    cases ok2
    · go_wp2_with fail
      refine (soRules_row _ _ _ _ _ _ R1.out R2.out hl2).mono ?_
      rintro e vg ⟨rfl, kg⟩
      have BG := Lib.hid (step BL.out kg)
      clear kg
      go_wp2
      go_ret
      exact ⟨rfl, BG.out⟩
    · have hof := HRD.out rfl
      have HF2 := Lib.hid (show FFits L2.length (nF L2) (nT L2) from fun i hi => by
        have := (rul_sizes hof.1).2 i hi
        exact ⟨by unfold maxLen; omega, by unfold maxLen; omega⟩)
      have HX2 := Lib.hid hof.2
      clear hof
      go_wp2_with fail
      refine (soRules_row _ _ _ _ _ _ R1.out R2.out hl2).mono ?_
      rintro e vg ⟨rfl, kg⟩
      have BG := Lib.hid (step BL.out kg)
      have RG := Lib.hid (R1.out.on kg)
      clear kg
      obtain ⟨a4, c4, e4, _, l4⟩ := RG.out.form
      injection e4 with e41 e42 e43
      subst e41
      have LG := Lib.hid l4
      clear l4 e42 e43
      go_wp2_with fail
      refine (impl_FormatRules vg a3 L2.length c3 (nF L2) (nT L2) LG.out HF2.out).mono ?_
      rw [HX2.out]
      rintro e vh ⟨rfl, kh⟩
      have BH := Lib.hid (step BG.out kh)
      clear kh
      have hss : (s.toList == s.toList) = true := by simp
      go_wp2
      go_ret
      exact ⟨rfl, BH.out⟩
  · have hsz := rul_text_size hb
    rw [HTT.out] at hsz
    have hof : RulOf T L := ⟨hb, HTT.out⟩
    obtain ⟨hbk1, hbk2⟩ := rul_back hof
    rw [hb] at CV
    have CI : Hid (∀ W, MaxL W → Calls Tryd.prog 17 #[.string T] W (rulPOut W true L)) := fun W hM => by
      have := impl_ParseRules T W hM (by omega)
      rw [hbk1, hbk2] at this
      exact this
    have ht1 : ¬ T.toList = [] := text_fullR T (by omega)
    have ht2 : (T.toList == []) = false := by rw [beq_eq_false_iff_ne]; exact ht1
    have ht3 : (T.toList != []) = true := by rw [bne_iff_ne]; exact ht1
    have ht4 : T.toList.isEmpty = false := by rw [List.isEmpty_eq_false_iff]; exact ht1
    have ht5 : (T.toList == T.toList) = true := by simp
    have ht6 : (T.toList != T.toList) = false := by simp
    clear hb hof hbk1 hbk2
    go_wp2_with fail
    refine (CF.out _ LT.out).mono ?_
    rintro e v1 ⟨rfl, k1⟩
    replace BL := Lib.hid (step BL.out k1)
    replace LT := Lib.hid (LT.out.on k1)
    replace R0 := Lib.hid (R0.out.on k1)
    clear k1
    go_wp2_with fail
    refine (CFS.out _ LT.out).mono ?_
    rintro e v2 ⟨rfl, k2⟩
    replace BL := Lib.hid (step BL.out k2)
    replace LT := Lib.hid (LT.out.on k2)
    replace R0 := Lib.hid (R0.out.on k2)
    clear k2
    go_wp2_with fail
    refine (CV.out _ LT.out).mono ?_
    rintro e v3 ⟨rfl, k3⟩
    replace BL := Lib.hid (step BL.out k3)
    replace LT := Lib.hid (LT.out.on k3)
    replace R0 := Lib.hid (R0.out.on k3)
    clear k3
    go_wp2_with fail
    refine (CI.out _ (MaxL.below HT.out BL.out)).mono ?_
    rintro e v4 ⟨p0, rfl, r0, k4⟩
    replace BL := Lib.hid (step BL.out k4)
    replace LT := Lib.hid (LT.out.on k4)
    replace R0 := Lib.hid (R0.out.on k4)
    have RB := Lib.hid r0
    clear k4
    clear r0
    go_wp2_with fail
    refine (soRules_row _ _ _ _ _ _ RB.out R0.out hn2).mono ?_
    rintro e v5 ⟨rfl, k5⟩
    replace BL := Lib.hid (step BL.out k5)
    replace LT := Lib.hid (LT.out.on k5)
    replace R0 := Lib.hid (R0.out.on k5)
    replace RB := Lib.hid (RB.out.on k5)
    clear k5
    go_wp2_with fail
    refine (DrawParseRules_any a1 l1 k1 z1 _ (HW1.out.beyondR BL.out)).mono ?_
    rintro e vd ⟨s, rfl, hs, kd⟩
    replace BL := Lib.hid (step BL.out kd)
    clear kd
    have hs2 : s.size ≤ 1048576 := by omega
    have hrd := rul_read (t := s)
    have hl9 := rulPL_len s
    have CI2 := Lib.hid (fun W hM => impl_ParseRules s W hM hs2)
    have CS2 := Lib.hid (fun W => spec_ParseRules s W hs2)
    obtain ⟨ok2, hok2⟩ : ∃ b, M.rulPOk s = b := ⟨_, rfl⟩
    obtain ⟨L2, hL2⟩ : ∃ b, M.rulPL s = b := ⟨_, rfl⟩
    rw [hok2, hL2] at CI2 CS2 hrd
    rw [hL2] at hl9
    have hl2 : L2.length ≤ 1048576 := by omega
    clear hok2 hL2 hl9
    have HRD := Lib.hid hrd
    clear hrd
    go_wp2_with fail
    refine (CI2.out _ (MaxL.below HT.out BL.out)).mono ?_
    rintro e ve ⟨p1, rfl, r1, ke⟩
    have R1 := Lib.hid r1
    replace BL := Lib.hid (step BL.out ke)
    clear ke r1
    go_wp2_with fail
    refine (CS2.out _).mono ?_
    rintro e vf ⟨p2, rfl, r2, kf⟩
    replace R1 := Lib.hid (R1.out.on kf)
    have R2 := Lib.hid r2
    replace BL := Lib.hid (step BL.out kf)
    clear kf r2
    obtain ⟨a3, c3, hp3, _, l3⟩ := R1.out.form
    subst hp3
    clear l3
    cases ok2
    · go_wp2_with fail
      refine (soRules_row _ _ _ _ _ _ R1.out R2.out hl2).mono ?_
      rintro e vg ⟨rfl, kg⟩
      have BG := Lib.hid (step BL.out kg)
      clear kg
      go_wp2
      go_ret
      exact ⟨rfl, BG.out⟩
    · have hof := HRD.out rfl
      have HF2 := Lib.hid (show FFits L2.length (nF L2) (nT L2) from fun i hi => by
        have := (rul_sizes hof.1).2 i hi
        exact ⟨by unfold maxLen; omega, by unfold maxLen; omega⟩)
      have HX2 := Lib.hid hof.2
      clear hof
      go_wp2_with fail
      refine (soRules_row _ _ _ _ _ _ R1.out R2.out hl2).mono ?_
      rintro e vg ⟨rfl, kg⟩
      have BG := Lib.hid (step BL.out kg)
      have RG := Lib.hid (R1.out.on kg)
      clear kg
      obtain ⟨a4, c4, e4, _, l4⟩ := RG.out.form
      injection e4 with e41 e42 e43
      subst e41
      have LG := Lib.hid l4
      clear l4 e42 e43
      go_wp2_with fail
      refine (impl_FormatRules vg a3 L2.length c3 (nF L2) (nT L2) LG.out HF2.out).mono ?_
      rw [HX2.out]
      rintro e vh ⟨rfl, kh⟩
      have BH := Lib.hid (step BG.out kh)
      clear kh
      have hss : (s.toList == s.toList) = true := by simp
      go_wp2
      go_ret
      exact ⟨rfl, BH.out⟩

set_option maxRecDepth 100000 in
theorem lifted (os : Os) (started : os.Started) (H : Type) (enc : TypeId × Value → H) :
    ReturnsInHanded {} Tryd.checked os 4 .any (fun w args => (Rows.fnRulesTextSpec.pre enc Tryd.prog Tryd.f4 [] false w args ∧ laidMetH Tryd.prog Rows.fnRulesTextRow.laid w) ∧ sizedMet enc Tryd.prog Tryd.f4 (OpenSpec.ofChange Rows.fnRulesTextSpec) false w args)
      (Rows.fnRulesTextSpec.post enc Tryd.prog Tryd.f4 false true false false) := by
  refine returns_listed (C := Tryd.checked) (X := fun w _ => laidMetH Tryd.prog Rows.fnRulesTextRow.laid w) (fun _ _ _ hh h => h.of_heap hh) own started (by kernel_rfl) Tryd.func4
    (ChangeSpec.witness_shaped (enc := enc) (C := Tryd.checked) (os := os) (X := fun w _ => laidMetH Tryd.prog Rows.fnRulesTextRow.laid w) false (World.laidAll Tryd.prog os Rows.fnRulesTextRow.laid) #[.slice none 0 0, .slice none 0 0] 8 (World.laidAll_os _ _ _) (World.shaped_of_ZipB (by kernel_rfl) (by kernel_rfl)) (by kernel_rfl) (by kernel_rfl) (by kernel_rfl) (Laid.door_cuts os _)) ?_
  intro W base args ds gs before hval0 hW hL hsh
  have hval : ∀ (j : Nat) t v, Tryd.f4.params[j]? = some t → args[j]? = some v → Value.okWide Tryd.prog W .any base t v := hval0
  have hW' := hW
  obtain ⟨p, q, hA0, hV, rfl, hfz, hnd⟩ := hW
  have hA : DataW.TrodAll enc Tryd.prog W 0 (fun _ => true) true Tryd.f4.params.toList args.toList ds p := hA0
  rw [Tryd.params4] at hA hval
  obtain ⟨v0, vs0, d0, ds0, p0, q0, hargs, rfl, rfl, h0, r0⟩ := trodAll_cons hA
  obtain ⟨v1, vs1, d1, ds1, p1, q1, rfl, rfl, rfl, h1, r1⟩ := trodAll_cons r0
  obtain ⟨rfl, rfl, rfl⟩ := trodAll_nil r1
  obtain rfl : args = #[v0, v1] := by cases args; simp_all
  obtain ⟨rfl, rfl⟩ := trodVars_none hV
  have g0 := h0
  have lt0 : ∀ x ∈ p0, x.block < W.heap.size := by obtain ⟨m, hm⟩ := g0; exact DataW.trod_lt m _ _ _ hm
  have g1 := h1
  have lt1 : ∀ x ∈ p1, x.block < W.heap.size := by obtain ⟨m, hm⟩ := g1; exact DataW.trod_lt m _ _ _ hm
  obtain ⟨a0, l0, k0, rfl⟩ := okWide_slice Tryd.underlying22 (hval 0 22 v0 rfl rfl)
  obtain ⟨z0, w0⟩ : ∃ zs, IsRow .u8 W a0 l0 k0 zs := by
    obtain ⟨fuel, hf⟩ := h0
    rcases open_ints Tryd.underlying22 Tryd.underlying5 (by kernel_rfl) hf with ⟨hcs, _⟩ | ⟨x, l, c, zs, hcs, _, hl, hm, hz, _, hcell, hwz⟩
    · simp [Value.cells] at hcs
      obtain ⟨rfl, rfl, rfl⟩ := hcs
      exact ⟨[], .inl ⟨rfl, rfl, rfl, rfl⟩⟩
    · simp [Value.cells] at hcs
      obtain ⟨rfl, rfl, rfl⟩ := hcs
      exact ⟨zs, .inr ⟨_, rfl, hl, hm, by simpa using hz, hcell, hwz⟩⟩
  obtain ⟨a1, l1, k1, rfl⟩ := okWide_slice Tryd.underlying22 (hval 1 22 v1 rfl rfl)
  obtain ⟨z1, w1⟩ : ∃ zs, IsRow .u8 W a1 l1 k1 zs := by
    obtain ⟨fuel, hf⟩ := h1
    rcases open_ints Tryd.underlying22 Tryd.underlying5 (by kernel_rfl) hf with ⟨hcs, _⟩ | ⟨x, l, c, zs, hcs, _, hl, hm, hz, _, hcell, hwz⟩
    · simp [Value.cells] at hcs
      obtain ⟨rfl, rfl, rfl⟩ := hcs
      exact ⟨[], .inl ⟨rfl, rfl, rfl, rfl⟩⟩
    · simp [Value.cells] at hcs
      obtain ⟨rfl, rfl, rfl⟩ := hcs
      exact ⟨zs, .inr ⟨_, rfl, hl, hm, by simpa using hz, hcell, hwz⟩⟩
  clear hA0 hval0
  refine (walk W a0 l0 k0 z0 w0 a1 l1 k1 z1 w1 (Laid.of_cuts hL hsh)).mono fun e W' ⟨he, bel⟩ => ?_
  subst he
  exact ⟨_, rfl, _, _, _, [], _, [], hW', trodAll_mk1 (shut_bool Tryd.underlying4 _), (trodAll_cons_mk (Below.trod laidOut (by kernel_rfl) (of_decide_eq_true (by kernel_rfl)) g0 bel lt0) (trodAll_cons_mk (Below.trod laidOut (by kernel_rfl) (of_decide_eq_true (by kernel_rfl)) g1 bel lt1) trodAll_mk0)), rfl, bel.frame _, fun h => by cases h⟩

theorem row_holds : Rows.FnRulesTextSaid :=
  OpenClaim.holds_of_wide 4 Tryd.f4 rfl rfl rfl rfl rfl rfl rfl ⟨rfl, rfl, rfl, rfl, rfl⟩ rfl rfl rfl rfl rfl (by kernel_rfl) Tryd.func4 (by kernel_rfl)
    (of_decide_eq_true (by kernel_rfl)) (by unfold Func.isWrapper; first | (rw [if_pos (by decide +kernel)]; kernel_rfl) | (rw [if_neg (by decide +kernel)]; exact ⟨rfl, rfl⟩))
    (fun os started H enc _ => lifted os started H enc)

theorem proved : Rows.FnRulesTextCardSaid :=
  Claim7.holds_tied_plain_at .later [] [.data, .pinned] true Rows.fnRulesTextCard.stood.harness false
    row_holds (fun _ h => by cases h) (by kernel_rfl) (fun _ h => by cases h) fnRulesText_row_tie rfl ⟨rfl, rfl⟩ (by kernel_rfl) rfl
    (fun f fn hf hfn => by
      obtain rfl : f = 4 := Option.some.inj ((show Tryd.prog.funcNamed Rows.fnRulesTextRow.func = some 4 by kernel_rfl).symm.trans hf) |>.symm
      obtain rfl : fn = Tryd.f4 := (Option.some.inj (Tryd.func4.symm.trans hfn)).symm
      exact ⟨by kernel_rfl, fun j t ht => by
        rw [Tryd.params4] at ht
        have hm : t ∈ [22, 22] := by simpa using Array.mem_of_getElem? ht
        have hall : ([22, 22].all fun u => !Tryd.prog.wantsStandIn u) = true := by kernel_rfl
        exact (show Tryd.prog.wantsStandIn t = false by simpa using List.all_eq_true.1 hall t hm)⟩)
    (by kernel_rfl)
#print axioms proved
end Go.Proofs.YtodnolefdapbdaaDoor.fnRulesText
