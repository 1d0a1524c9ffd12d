/-
  For every input, laws.FnCheckValid returns true: complete digits of which one is changed are not complete, and exchanging two of them changes nothing. Condition: the listed table of check digits holds what the program's text lays, to which the card ties it.
-/
import Derived.Test.YtagbnfccagdlkaaDoorCards
import Derived.Test.YtagbnfccagdlkaaDoorDrawCheck
import Derived.Test.YtagbnfccagdlkaaDoorSums
import Derived.Test.YtagbnfccagdlkaaDoorLaidK
import Derived.Test.YtagbnfccagdlkaaDoorVars
import Derived.Test.YtagbnfccagdlkaaDoorTie
import Derived.LaidMore
import Derived.Stop.Joined
import Derived.SevenTiedAt
import Derived.Deep.RegionHeld3
import Derived.WalkKit
import Derived.ProofKit
import Derived.OpenShut
import Derived.ShutString
import Derived.ChangeOld
import Derived.Below
import Derived.Handy
import Derived.Lib.Hide
namespace Go.Proofs.YtagbnfccagdlkaaDoor.fnCheckValid
open Go.ChangeShapes Go.WideShapes Go.ChangeAt Go.RowKit
open Go.ChangeMaps (open_string shut_string)
open Go.PlainAid (bt get_bt bt_nonneg bt_le)
set_option linter.unusedVariables false

theorem own : ownKnob Tryd.prog.godebug = none := by kernel_rfl
theorem laidOut : laidOutB Tryd.prog = true := by kernel_rfl

set_option maxHeartbeats 2000000 in
set_option maxRecDepth 100000 in
theorem walk (w : World) (a0 : Option Addr) (l0 k0 : Nat) (z0 : List Int) (w0 : IsRow .u8 w a0 l0 k0 z0) (a1 : Option Addr) (l1 k1 : Nat) (z1 : List Int) (w1 : IsRow .u8 w a1 l1 k1 z1) (hL : Laid.checks w) :
    Calls Tryd.prog 3 #[.slice a0 l0 k0, .slice a1 l1 k1] w fun e w' => e = .returned (.bool true) ∧ Below w.heap.size w w' := by
  by_cases hl : 1048576 < l0
  · go_enter Tryd.func3, Tryd.ntmps3
    go_wp2
    go_ret
    exact ⟨rfl, Below.refl _ _⟩
  by_cases hl' : 1048576 < l1
  · have q : decide (1048576 < (l0 : Int)) = false := by simp; omega
    go_enter Tryd.func3, Tryd.ntmps3
    go_wp2
    go_ret
    exact ⟨rfl, Below.refl _ _⟩
  go_enter Tryd.func3, Tryd.ntmps3
  go_wp2_with fail
  refine (DrawCheckValid_any a0 l0 k0 z0 w w0).mono ?_
  rintro e v1 ⟨s, rfl, _, hs40, hb1⟩
  clear w1
  have hL1 := Lib.hid (hL.below hb1)
  have hz1 := hb1.size
  have hsm : s.size ≤ maxLen := by unfold maxLen; omega
  clear w0 hL
  go_wp2_with fail
  refine (impl_CheckValid _ _ hsm hL1.out).mono ?_
  rintro e v2 ⟨rfl, hb2⟩
  have hB2 := Lib.hid (hb1.trans (hb2.mono hz1))
  have hL2 := Lib.hid (hL1.out.below hb2)
  clear hb1 hb2 hL1 hz1
  go_wp2_with fail
  refine (spec_CheckValid _ _ hsm).mono ?_
  rintro e v3 ⟨rfl, rfl⟩
  go_wp2_with fail
  refine (impl_DigitsValid _ _ hsm).mono ?_
  rintro e v4 ⟨rfl, hb4⟩
  have hB4 := Lib.hid (hB2.out.trans (hb4.below.mono hB2.out.size))
  have hL4 := Lib.hid (hL2.out.below hb4.below)
  clear hb4
  cases hd : M.digs s
  · go_wp2_with fail
    refine (spec_CheckValid _ _ hsm).mono ?_
    rintro e v5 ⟨rfl, rfl⟩
    go_wp2
    go_ret
    exact ⟨rfl, hB4.out⟩
  by_cases h0 : 0 < s.size
  · have hne := List.isEmpty_eq_false_iff.2 (ne_empty s h0)
    have HD := Lib.hid (M.digs_bt hd)
    have hbt := get_bt s
    have HN := Lib.hid (fun (m : Int) (i : Nat) (hv : M.checkValid s = true) (hi : i < s.size) (m0 : 0 ≤ m) (m1 : m ≤ 8) => put_noticed m hd hv hi m0 m1)
    have HW := Lib.hid (fun (i : Nat) (hi : i + 1 < s.size) => swap_same hd hi)
    have HV := Lib.hid (show M.checkValid s = (M.checkDigit s == 0) from by
      obtain ⟨n0, n1⟩ := M.sum_bd hd
      rw [M.checkValid_yes hd h0, M.checkDigit_yes hd]
      by_cases e : M.sum s % 10 = 0
      · rw [decide_eq_true e, e]; rfl
      · rw [decide_eq_false e]
        simp
        omega)
    generalize hcv : M.checkValid s = ok at *
    clear hd hcv
    go_wp2
    go_loopw [7, 8] (fun i _ wr => ∃ k : Nat, k ≤ s.size ∧ i = .int .i64 k ∧ Below w.heap.size w wr ∧ Hid (Laid.checks wr)) (fun i _ _ => s.size - (intOf i).toNat)
    case atStart => exact ⟨0, by omega, rfl, hB4.out, hL4⟩
    case round =>
      obtain ⟨k, hk, rfl, hb, hLr⟩ := hrel
      have hrz := hb.size
      by_cases hlt : k < s.size
      · obtain ⟨y0, y1⟩ := HD.out k hlt
        cases ok
        · go_wp2_with fail
          by_cases hk0 : k = 0
          · subst hk0
            go_wp2_with fail
            go_quiet (fail)
            go_wp2
            go_roundw
            case rel => exact ⟨1, by omega, by go_num, drawn_below hb _, hLr.out.below (drawn_below (Below.refl _ _) _)⟩
            case measure => simp [intOf]; omega
          · obtain ⟨j, hj⟩ : ∃ j, j + 1 = k := ⟨k - 1, by omega⟩
            have hsw := HW.out j (by omega)
            rw [hj] at hsw
            have HSW := Lib.hid hsw
            obtain ⟨x0, x1⟩ := HD.out j (by omega)
            have kp : decide (0 < (k : Int)) = true := by simp; omega
            have kq : decide (0 < k) = true := by simp; omega
            have sj : IntKind.i64.wrap ((k : Int) - 1) = (j : Int) := by rw [IntWalk.i64_in _ (by omega)]; omega
            have jl : j < s.size := by omega
            have jli : (j : Int) < (s.size : Int) := by omega
            have kli : (k : Int) < (s.size : Int) := by omega
            clear hj hsw hk0
            go_wp2_with fail
            have hk1 : j < (M.put s k (bt s j)).size := by rw [M.put_size]; exact jl
            have hk2 : (M.put (M.put s k (bt s j)) j (bt s k)).size ≤ maxLen := by rw [M.put_size, M.put_size]; exact hsm
            have hy1 : (0 : Int) ≤ bt s k := by omega
            have hy2 : bt s k ≤ 255 := by omega
            have hx1 : (0 : Int) ≤ bt s j := by omega
            have hx2 : bt s j ≤ 255 := by omega
            have KL := Below.refl wr.heap.size wr
            go_region_held3 (fun _ => True) (exact trivial) (first
              | (go_at_call_of 8 (bt s k); refine (soPut_any (M.put s k (bt s j)) j (bt s k) _ hk1 hy1 hy2).mono ?_; rintro e v7 ⟨rfl, hb7⟩; have KL : Below wr.heap.size wr v7 := (by first | exact KL.trans (hb7.mono KL.size) | exact KL.drew.trans (hb7.mono KL.size)))
              | (go_at_call 8; refine (soPut_any s k (bt s j) _ hlt hx1 hx2).mono ?_; rintro e v8 ⟨rfl, hb8⟩; have KL : Below wr.heap.size wr v8 := (by first | exact KL.trans (hb8.mono KL.size) | exact KL.drew.trans (hb8.mono KL.size)))
              | (go_at_call 5; refine (impl_CheckValid _ _ hk2 (hLr.out.below (by first | exact KL | exact KL.drew))).mono ?_; rw [HSW.out]; rintro e v9 ⟨rfl, hb9⟩; have KL : Below wr.heap.size wr v9 := (by first | exact KL.trans (hb9.mono KL.size) | exact KL.drew.trans (hb9.mono KL.size))))
            all_goals
              have KW := Lib.hid KL
              have HG := Lib.hid (hb.trans (KL.mono hb.size))
              clear KL
              go_wp2
              go_roundw
              case rel => exact ⟨k + 1, by omega, by go_num, HG.out, hLr.out.below KW.out⟩
              case measure => simp [intOf]; omega
        · have hno := Lib.hid (HN.out ((l1 : Int) % 9) k rfl hlt (by omega) (by omega))
          go_wp2_with fail
          refine (soPut_any s k _ wr hlt (by omega) (by omega)).mono ?_
          rintro e v5 ⟨rfl, hb5⟩
          go_wp2_with fail
          refine (impl_CheckValid _ _ (by rw [M.put_size]; exact hsm) (hLr.out.below hb5)).mono ?_
          rw [hno.out]
          rintro e v6 ⟨rfl, hb6⟩
          have hB6 := hb.trans (hb5.mono hrz)
          have hB7 := hB6.trans (hb6.mono hB6.size)
          have hL7 := Lib.hid ((hLr.out.below hb5).below hb6)
          clear hb5 hb6 hB6 hno
          by_cases hk0 : k = 0
          · subst hk0
            go_wp2_with fail
            go_quiet (fail)
            go_wp2
            go_roundw
            case rel => exact ⟨1, by omega, by go_num, drawn_below hB7 _, hL7.out.below (drawn_below (Below.refl _ _) _)⟩
            case measure => simp [intOf]; omega
          · obtain ⟨j, hj⟩ : ∃ j, j + 1 = k := ⟨k - 1, by omega⟩
            have hsw := HW.out j (by omega)
            rw [hj] at hsw
            have HSW := Lib.hid hsw
            obtain ⟨x0, x1⟩ := HD.out j (by omega)
            have kp : decide (0 < (k : Int)) = true := by simp; omega
            have kq : decide (0 < k) = true := by simp; omega
            have sj : IntKind.i64.wrap ((k : Int) - 1) = (j : Int) := by rw [IntWalk.i64_in _ (by omega)]; omega
            have jl : j < s.size := by omega
            have jli : (j : Int) < (s.size : Int) := by omega
            have kli : (k : Int) < (s.size : Int) := by omega
            clear hj hsw hk0
            go_wp2_with fail
            have hk1 : j < (M.put s k (bt s j)).size := by rw [M.put_size]; exact jl
            have hk2 : (M.put (M.put s k (bt s j)) j (bt s k)).size ≤ maxLen := by rw [M.put_size, M.put_size]; exact hsm
            have hy1 : (0 : Int) ≤ bt s k := by omega
            have hy2 : bt s k ≤ 255 := by omega
            have hx1 : (0 : Int) ≤ bt s j := by omega
            have hx2 : bt s j ≤ 255 := by omega
            have KL := Below.refl v6.heap.size v6
            go_region_held3 (fun _ => True) (exact trivial) (first
              | (go_at_call_of 8 (bt s k); refine (soPut_any (M.put s k (bt s j)) j (bt s k) _ hk1 hy1 hy2).mono ?_; rintro e v7 ⟨rfl, hb7⟩; have KL : Below v6.heap.size v6 v7 := (by first | exact KL.trans (hb7.mono KL.size) | exact KL.drew.trans (hb7.mono KL.size)))
              | (go_at_call 8; refine (soPut_any s k (bt s j) _ hlt hx1 hx2).mono ?_; rintro e v8 ⟨rfl, hb8⟩; have KL : Below v6.heap.size v6 v8 := (by first | exact KL.trans (hb8.mono KL.size) | exact KL.drew.trans (hb8.mono KL.size)))
              | (go_at_call 5; refine (impl_CheckValid _ _ hk2 (hL7.out.below (by first | exact KL | exact KL.drew))).mono ?_; rw [HSW.out]; rintro e v9 ⟨rfl, hb9⟩; have KL : Below v6.heap.size v6 v9 := (by first | exact KL.trans (hb9.mono KL.size) | exact KL.drew.trans (hb9.mono KL.size))))
            all_goals
              have KW := Lib.hid KL
              have HG := Lib.hid (hB7.trans (KL.mono hB7.size))
              clear KL
              go_wp2
              go_roundw
              case rel => exact ⟨k + 1, by omega, by go_num, HG.out, hL7.out.below KW.out⟩
              case measure => simp [intOf]; omega
      · obtain rfl : k = s.size := by omega
        go_wp2_with fail
        refine (impl_CheckDigit _ _ hsm hLr.out).mono ?_
        rintro e v6 ⟨rfl, hb6⟩
        have hB6 := Lib.hid (hb.trans (hb6.mono hrz))
        clear hb6
        go_wp2
        go_ret
        exact ⟨ret_bool (by rw [HV.out]; simp), hB6.out⟩
  · obtain rfl := size_zero (s := s) (by omega)
    go_wp2_with fail
    refine (spec_CheckValid _ _ hsm).mono ?_
    rintro e v5 ⟨rfl, rfl⟩
    go_wp2
    go_ret
    exact ⟨rfl, hB4.out⟩

set_option maxRecDepth 100000 in
theorem lifted (os : Os) (started : os.Started) (H : Type) (enc : TypeId × Value → H) :
    ReturnsInHanded {} Tryd.checked os 3 .any (fun w args => (Rows.fnCheckValidSpec.pre enc Tryd.prog Tryd.f3 [] false w args ∧ laidMetH Tryd.prog Rows.fnCheckValidRow.laid w) ∧ sizedMet enc Tryd.prog Tryd.f3 (OpenSpec.ofChange Rows.fnCheckValidSpec) false w args)
      (Rows.fnCheckValidSpec.post enc Tryd.prog Tryd.f3 false true false false) := by
  refine returnsInHanded_of_change_and (C := Tryd.checked) (X := fun w _ => laidMetH Tryd.prog Rows.fnCheckValidRow.laid w) (fun _ _ _ hh h => h.of_heap hh) own started (by kernel_rfl) Tryd.func3
    (ChangeSpec.witness_shaped (enc := enc) (C := Tryd.checked) (os := os) (X := fun w _ => laidMetH Tryd.prog Rows.fnCheckValidRow.laid w) false (World.doorLaid Tryd.prog 400 os) #[.slice none 0 0, .slice none 0 0] 8 rfl (World.shaped_of_RefB (by kernel_rfl) (by kernel_rfl)) (by kernel_rfl) (by kernel_rfl) (by kernel_rfl) (Laid.door_checks os _)) ?_
  intro W base args ds gs before hval0 hW _ _ hL _
  have hval : ∀ (j : Nat) t v, Tryd.f3.params[j]? = some t → args[j]? = some v → Value.okWide Tryd.prog W .any base t v := hval0
  have hW' := hW
  obtain ⟨p, q, hA0, hV, rfl, hfz, hnd⟩ := hW
  have hA : DataW.TrodAll enc Tryd.prog W 0 (fun _ => true) true Tryd.f3.params.toList args.toList ds p := hA0
  rw [Tryd.params3] at hA hval
  obtain ⟨v0, vs0, d0, ds0, p0, q0, hargs, rfl, rfl, h0, r0⟩ := trodAll_cons hA
  obtain ⟨v1, vs1, d1, ds1, p1, q1, rfl, rfl, rfl, h1, r1⟩ := trodAll_cons r0
  obtain ⟨rfl, rfl, rfl⟩ := trodAll_nil r1
  obtain rfl : args = #[v0, v1] := by cases args; simp_all
  have ltV := DataW.TrodVars.lt hV
  obtain ⟨e0, rfl⟩ : ∃ e0, gs = [e0] := Vars.gs_1 hV
  have g0 := h0
  have lt0 : ∀ x ∈ p0, x.block < W.heap.size := by obtain ⟨m, hm⟩ := g0; exact DataW.trod_lt m _ _ _ hm
  have g1 := h1
  have lt1 : ∀ x ∈ p1, x.block < W.heap.size := by obtain ⟨m, hm⟩ := g1; exact DataW.trod_lt m _ _ _ hm
  obtain ⟨a0, l0, k0, rfl⟩ := okWide_slice Tryd.underlying22 (hval 0 22 v0 rfl rfl)
  obtain ⟨z0, w0⟩ : ∃ zs, IsRow .u8 W a0 l0 k0 zs := by
    obtain ⟨fuel, hf⟩ := h0
    rcases open_ints Tryd.underlying22 Tryd.underlying5 (by kernel_rfl) hf with ⟨hcs, _⟩ | ⟨x, l, c, zs, hcs, _, hl, hm, hz, _, hcell, hwz⟩
    · simp [Value.cells] at hcs
      obtain ⟨rfl, rfl, rfl⟩ := hcs
      exact ⟨[], .inl ⟨rfl, rfl, rfl, rfl⟩⟩
    · simp [Value.cells] at hcs
      obtain ⟨rfl, rfl, rfl⟩ := hcs
      exact ⟨zs, .inr ⟨_, rfl, hl, hm, by simpa using hz, hcell, hwz⟩⟩
  obtain ⟨a1, l1, k1, rfl⟩ := okWide_slice Tryd.underlying22 (hval 1 22 v1 rfl rfl)
  obtain ⟨z1, w1⟩ : ∃ zs, IsRow .u8 W a1 l1 k1 zs := by
    obtain ⟨fuel, hf⟩ := h1
    rcases open_ints Tryd.underlying22 Tryd.underlying5 (by kernel_rfl) hf with ⟨hcs, _⟩ | ⟨x, l, c, zs, hcs, _, hl, hm, hz, _, hcell, hwz⟩
    · simp [Value.cells] at hcs
      obtain ⟨rfl, rfl, rfl⟩ := hcs
      exact ⟨[], .inl ⟨rfl, rfl, rfl, rfl⟩⟩
    · simp [Value.cells] at hcs
      obtain ⟨rfl, rfl, rfl⟩ := hcs
      exact ⟨zs, .inr ⟨_, rfl, hl, hm, by simpa using hz, hcell, hwz⟩⟩
  clear hA0 hval0
  refine (walk W a0 l0 k0 z0 w0 a1 l1 k1 z1 w1 (Laid.of_checks hL)).mono fun e W' ⟨he, bel⟩ => ?_
  subst he
  exact ⟨_, rfl, _, _, _, [], _, _, hW', trodAll_mk1 (shut_bool Tryd.underlying4 _), (trodAll_cons_mk (Below.trod laidOut (by kernel_rfl) (of_decide_eq_true (by kernel_rfl)) g0 bel lt0) (trodAll_cons_mk (Below.trod laidOut (by kernel_rfl) (of_decide_eq_true (by kernel_rfl)) g1 bel lt1) trodAll_mk0)), Vars.trodVars_below laidOut bel Laid.named_checks hV ltV, bel.frame _, fun h => by cases h⟩

theorem row_holds : Rows.FnCheckValidSaid :=
  OpenClaim.holds_of_wide 3 Tryd.f3 rfl rfl rfl rfl rfl rfl rfl ⟨rfl, rfl, rfl, rfl, rfl⟩ rfl rfl rfl rfl rfl (by kernel_rfl) Tryd.func3 (by kernel_rfl)
    (of_decide_eq_true (by kernel_rfl)) (by unfold Func.isWrapper; first | (rw [if_pos (by decide +kernel)]; kernel_rfl) | (rw [if_neg (by decide +kernel)]; exact ⟨rfl, rfl⟩))
    (fun os started H enc _ => lifted os started H enc)

theorem proved : Rows.FnCheckValidCardSaid :=
  Claim7.holds_tied_plain_at .later [] [.data] true Rows.fnCheckValidCard.stood.harness false
    row_holds (fun _ h => by cases h) (by kernel_rfl) (fun _ h => by cases h) fnCheckValid_row_tie rfl ⟨rfl, rfl⟩ (by kernel_rfl) rfl
    (fun f fn hf hfn => by
      obtain rfl : f = 3 := Option.some.inj ((show Tryd.prog.funcNamed Rows.fnCheckValidRow.func = some 3 by kernel_rfl).symm.trans hf) |>.symm
      obtain rfl : fn = Tryd.f3 := (Option.some.inj (Tryd.func3.symm.trans hfn)).symm
      exact ⟨by kernel_rfl, fun j t ht => by
        rw [Tryd.params3] at ht
        have hm : t ∈ [22, 22] := by simpa using Array.mem_of_getElem? ht
        have hall : ([22, 22].all fun u => !Tryd.prog.wantsStandIn u) = true := by kernel_rfl
        exact (show Tryd.prog.wantsStandIn t = false by simpa using List.all_eq_true.1 hall t hm)⟩)
    (by kernel_rfl)
#print axioms proved
end Go.Proofs.YtagbnfccagdlkaaDoor.fnCheckValid
