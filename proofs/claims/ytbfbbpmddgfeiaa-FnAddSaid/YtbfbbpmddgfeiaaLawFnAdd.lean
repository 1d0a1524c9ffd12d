/-
  For every slice of bytes, laws.FnAdd returns true.
-/
import Derived.Test.YtbfbbpmddgfeiaaRows
import Derived.Test.YtbfbbpmddgfeiaaDrawF2
import Derived.Test.YtbfbbpmddgfeiaaAddM
import Derived.Test.YtbfbbpmddgfeiaaSoT
import Derived.WalkKit
import Derived.ProofKit
import Derived.OpenShut
import Derived.ShutString
import Derived.ChangeOld
import Derived.Below
import Derived.Handy
import Derived.Lib.Hide
namespace Go.Proofs.Ytbfbbpmddgfeiaa.fnAdd
open Go.ChangeShapes Go.WideShapes Go.ChangeAt Go.RowKit
open Go.ChangeMaps (open_string shut_string)
open Go.PlainAid (bt get_bt bt_nonneg bt_le)
set_option linter.unusedVariables false

theorem own : ownKnob Try.prog.godebug = none := by kernel_rfl
theorem laidOut : laidOutB Try.prog = true := by kernel_rfl

set_option maxHeartbeats 8000000 in
set_option maxRecDepth 100000 in
theorem walk (w : World) (a0 : Option Addr) (l0 k0 : Nat) (z0 : List Int) (w0 : IsRow .u8 w a0 l0 k0 z0) :
    Calls Try.prog 7 #[.slice a0 l0 k0] w fun e w' => e = .returned (.bool true) ∧ Below w.heap.size w w' := by
  by_cases hl : 1048576 < l0
  · go_enter Try.func7, Try.ntmps7
    go_wp2
    go_ret
    exact ⟨rfl, Below.refl _ _⟩
  go_enter Try.func7, Try.ntmps7
  go_wp2_with fail
  refine (DrawAddForward_any a0 l0 k0 z0 w w0).mono ?_
  rintro e u ⟨v, s, s2, rfl, hs, hs2, a, n, c, F, T, rfl, lt, fi, hn, bl⟩
  have LT := Lib.hid lt
  have FI := Lib.hid fi
  have BL := Lib.hid bl
  clear lt fi bl
  have hn2 : n ≤ 1048576 := by omega
  have hsm : s.size ≤ maxLen := by unfold maxLen; omega
  have hsm2 : s2.size ≤ maxLen := by unfold maxLen; omega
  cases hk : M.addOk F T n s s2
  · have HE1 := Lib.hid hk
    have HE2 : Hid (M.addL F T n s s2 = []) := if_neg (by rw [hk]; decide)
    have HL30 : Hid (([] : List (ByteArray × ByteArray)).length ≤ 1048576) := Nat.zero_le _
    clear hk
    go_wp2_with fail
    refine (impl_AddForward _ _ _ _ _ _ LT.out FI.out hn2 s s2 hsm hsm2).mono ?_
    rw [HE1.out, HE2.out]
    rintro e v1 ⟨v1, rfl, r1, k1⟩
    replace LT := Lib.hid (LT.out.on k1)
    replace BL := Lib.hid (step BL.out k1)
    have R1 := Lib.hid r1
    clear r1
    clear k1
    go_wp2_with fail
    refine (spec_AddForward _ _ _ _ _ _ LT.out FI.out hn2 s s2 hsm hsm2).mono ?_
    rw [HE1.out, HE2.out]
    rintro e v2 ⟨v2, rfl, r2, k2⟩
    replace LT := Lib.hid (LT.out.on k2)
    replace BL := Lib.hid (step BL.out k2)
    replace R1 := Lib.hid (R1.out.on k2)
    have R2 := Lib.hid r2
    clear r2
    clear k2
    go_wp2_with fail
    refine (soForwards_row _ _ _ _ _ _ R1.out R2.out HL30.out).mono ?_
    rintro e v3 ⟨rfl, k3⟩
    replace LT := Lib.hid (LT.out.on k3)
    replace BL := Lib.hid (step BL.out k3)
    replace R1 := Lib.hid (R1.out.on k3)
    replace R2 := Lib.hid (R2.out.on k3)
    clear k3
    go_wp2_with fail
    refine (soForwards_row _ _ _ _ _ _ R1.out R2.out HL30.out).mono ?_
    rintro e v4 ⟨rfl, k4⟩
    replace LT := Lib.hid (LT.out.on k4)
    replace BL := Lib.hid (step BL.out k4)
    replace R1 := Lib.hid (R1.out.on k4)
    replace R2 := Lib.hid (R2.out.on k4)
    clear k4
    go_wp2
    go_ret
    exact ⟨rfl, BL.out⟩
  · have HE1 := Lib.hid hk
    have HE2 : Hid (M.addL F T n s s2 = M.addRow F T n s s2) := if_pos hk
    have hok : M.fwd n F T = true := by
      unfold M.addOk at hk
      rw [Bool.and_eq_true] at hk
      exact hk.1
    have hrs : (M.resCode (nF (M.addRow F T n s s2)) (nT (M.addRow F T n s s2)) (M.addRow F T n s s2).length s).isSome = true := by
      unfold M.addOk at hk
      rw [Bool.and_eq_true] at hk
      exact hk.2
    have hbg : M.fwd (M.addRow F T n s s2).length (nF (M.addRow F T n s s2)) (nT (M.addRow F T n s s2)) = true := by
      cases e : M.fwd (M.addRow F T n s s2).length (nF (M.addRow F T n s s2)) (nT (M.addRow F T n s s2))
      · rw [M.resCode_no e] at hrs; cases hrs
      · rfl
    have hcs := M.add_code hbg
    rw [M.resCode_yes hbg hcs] at hrs
    have hlast := M.addRow_last F T n s s2
    have hfit0 := fits_add FI.out hsm hsm2
    have hwb : M.addRow F T n s s2 = M.wo s (M.flst F T n) ++ [(s, s2)] := rfl
    rw [hwb] at hrs hbg hlast hfit0 HE2
    have hfit := Lib.hid hfit0
    clear hfit0
    have hself := M.add_self F T n s s2
    have hap := M.add_apart hself hrs
    have hsub := fun c hc => M.add_sub (c := c) hok hbg hrs hc
    have hoth := fun c (hc : c ≠ s) => M.add_other F T n s s2 hc
    obtain ⟨B, hB⟩ : ∃ B, M.wo s (M.flst F T n) ++ [(s, s2)] = B := ⟨_, rfl⟩
    rw [hB] at HE2 hrs hbg hself hsub hoth hlast hfit
    clear hwb
    have hb30 := (M.fwd_yes hbg).1
    have hn30 := (M.fwd_yes hok).1
    have HL30 : Hid (B.length ≤ 1048576) := by rw [Hid]; omega
    have HN1 : Hid (nxV (M.nextCode (nF B) (nT B) B.length s) = .tuple #[.string s2, .bool true]) := by rw [Hid, M.nextCode_yes hbg, hself]; rfl
    have HNI : Hid (∀ i, i < n → F i ≠ s → nxV (M.nextCode (nF B) (nT B) B.length (F i)) = .tuple #[.string (T i), .bool true]) := fun i hi hne => by rw [M.nextCode_yes hbg, hoth _ hne, M.next_at hok hi]; rfl
    obtain ⟨E, hE⟩ : ∃ E, M.endless F T n = E := ⟨_, rfl⟩
    obtain ⟨G, hG⟩ : ∃ G, M.endless (nF B) (nT B) B.length = G := ⟨_, rfl⟩
    have hEl : E.length ≤ 1048576 := hE ▸ M.endless_small F T n hn2
    have hGl : G.length ≤ 1048576 := hG ▸ M.endless_small (nF B) (nT B) B.length HL30.out
    have HE := Lib.hid hE
    have HG := Lib.hid hG
    have HSUB : Hid (∀ j (hj : j < G.length), M.has (sC G j) E = true) := fun j hj => M.has_iff.2 (by
      rw [← hE]
      refine hsub _ ?_
      rw [hG, sC_at hj]
      exact List.getElem_mem hj)
    have HBG := Lib.hid hbg
    have HLAST := Lib.hid hlast
    have hd0 : (s.toList == s.toList) = true := by simp
    have hd1 : (s2.toList == s2.toList) = true := by simp
    have hd2 : (s.toList == s2.toList) = false := neq_list0 hap
    clear hk hok hrs hbg hself hsub hoth hlast hB hE hG hap hcs
    go_wp2_with fail
    refine (impl_AddForward _ _ _ _ _ _ LT.out FI.out hn2 s s2 hsm hsm2).mono ?_
    rw [HE1.out, HE2.out]
    rintro e v1 ⟨v1, rfl, r1, k1⟩
    replace LT := Lib.hid (LT.out.on k1)
    replace BL := Lib.hid (step BL.out k1)
    have R1 := Lib.hid r1
    clear r1
    clear k1
    go_wp2_with fail
    refine (spec_AddForward _ _ _ _ _ _ LT.out FI.out hn2 s s2 hsm hsm2).mono ?_
    rw [HE1.out, HE2.out]
    rintro e v2 ⟨v2, rfl, r2, k2⟩
    replace LT := Lib.hid (LT.out.on k2)
    replace BL := Lib.hid (step BL.out k2)
    replace R1 := Lib.hid (R1.out.on k2)
    have R2 := Lib.hid r2
    clear r2
    clear k2
    go_wp2_with fail
    refine (soForwards_row _ _ _ _ _ _ R1.out R2.out HL30.out).mono ?_
    rintro e v3 ⟨rfl, k3⟩
    replace LT := Lib.hid (LT.out.on k3)
    replace BL := Lib.hid (step BL.out k3)
    replace R1 := Lib.hid (R1.out.on k3)
    replace R2 := Lib.hid (R2.out.on k3)
    clear k3
    obtain ⟨a1, c1, hv1, _, hw1⟩ := R1.out.form
    have W1 := Lib.hid hw1
    subst hv1
    clear hw1 R1 R2
    go_wp2_with fail
    refine (impl_NextCode _ a1 B.length c1 _ _ W1.out hfit.out s hsm).mono ?_
    rw [HN1.out]
    rintro e v4 ⟨rfl, k4⟩
    replace LT := Lib.hid (LT.out.on k4)
    replace BL := Lib.hid (step BL.out k4)
    replace W1 := Lib.hid (W1.out.on k4)
    clear k4
    go_wp2_with fail
    refine (impl_EndlessCodes _ _ _ _ _ _ LT.out FI.out).mono ?_
    rw [HE.out]
    rintro e v5 ⟨ve, rfl, re, k5⟩
    replace LT := Lib.hid (LT.out.on k5)
    replace BL := Lib.hid (step BL.out k5)
    replace W1 := Lib.hid (W1.out.on k5)
    have RE := Lib.hid re
    clear re
    clear k5
    go_wp2_with fail
    refine (impl_EndlessCodes _ a1 B.length c1 _ _ W1.out hfit.out).mono ?_
    rw [HG.out]
    rintro e v6 ⟨vg, rfl, rg, k6⟩
    replace LT := Lib.hid (LT.out.on k6)
    replace BL := Lib.hid (step BL.out k6)
    replace W1 := Lib.hid (W1.out.on k6)
    replace RE := Lib.hid (RE.out.on k6)
    have RG := Lib.hid rg
    clear rg
    clear k6
    obtain ⟨ag, cg, hvg, _, hwg⟩ := RG.out.form
    have WG := Lib.hid hwg
    subst hvg
    clear hwg RG
    go_wp2
    go_loop [14] (fun i => ∃ j : Nat, j ≤ G.length ∧ i = .int .i64 j) (fun i => G.length - (intOf i).toNat)
    case atStart => exact ⟨0, Nat.zero_le _, rfl⟩
    case round =>
      obtain ⟨j, hj, rfl⟩ := hrel
      by_cases hlt : j < G.length
      · obtain ⟨b, o, rfl, c0⟩ := WG.out j hlt
        have HQ := Lib.hid (HSUB.out j hlt)
        go_wp2_with (go_at_call 27; refine (soHas_any _ _ _ _ RE.out hEl (sC G j)).mono ?_; rw [HQ.out]; rintro e v8 ⟨rfl, rfl⟩)
        go_round
        case rel => exact ⟨j + 1, by omega, by go_num⟩
        case measure => simp [intOf]; omega
      · obtain rfl : j = G.length := by omega
        go_wp2
        go_loopw [15] (fun i wr => ∃ j : Nat, j ≤ n ∧ i = .int .i64 j ∧ Hid (Fws wr a n F T) ∧ Hid (Fws wr a1 B.length (nF B) (nT B)) ∧ Hid (Below w.heap.size w wr)) (fun i _ => n - (intOf i).toNat)
        case atStart => exact ⟨0, Nat.zero_le _, rfl, LT, W1, BL⟩
        case round =>
          obtain ⟨j, hj, rfl, LT, W1, BL⟩ := hrel
          by_cases hlt : j < n
          · obtain ⟨b, o, rfl, c0, c1'⟩ := LT.out j hlt
            have hlb := World.block_lt_of_cell? _ _ c0
            have hfz := (FI.out j hlt).1
            by_cases he : F j = s
            · have hd : ((F j).toList == s.toList) = true := by rw [he]; simp
              have HNj : Hid (nxV (M.nextCode (nF B) (nT B) B.length (F j)) = .tuple #[.string s2, .bool true]) := by rw [Hid, he]; exact HN1.out
              clear he
              go_wp2_with (go_at_call 16; refine (impl_NextCode _ a1 B.length c1 _ _ W1.out hfit.out (F j) hfz).mono ?_; rw [HNj.out]; rintro e v9 ⟨rfl, k9⟩; have LT9 := Lib.hid (LT.out.on k9); have W9 := Lib.hid (W1.out.on k9); have BL9 := Lib.hid (step BL.out k9); have d0 := (k9.cell (p := ⟨b, o + j * 2, none⟩) hlb).trans c0; have d1 := (k9.cell (p := ⟨b, o + j * 2 + 1, none⟩) hlb).trans c1'; clear k9)
              go_roundw
              case rel => exact ⟨j + 1, by omega, by go_num, LT9, W9, BL9⟩
              case measure => simp [intOf]; omega
            · have hd : ((F j).toList == s.toList) = false := neq_list0 he
              have hdt : ((T j).toList == (T j).toList) = true := by simp
              have HNj := Lib.hid (HNI.out j hlt he)
              clear he
              go_wp2_with (go_at_call 16; refine (impl_NextCode _ a1 B.length c1 _ _ W1.out hfit.out (F j) hfz).mono ?_; rw [HNj.out]; rintro e v9 ⟨rfl, k9⟩; have LT9 := Lib.hid (LT.out.on k9); have W9 := Lib.hid (W1.out.on k9); have BL9 := Lib.hid (step BL.out k9); have d0 := (k9.cell (p := ⟨b, o + j * 2, none⟩) hlb).trans c0; have d1 := (k9.cell (p := ⟨b, o + j * 2 + 1, none⟩) hlb).trans c1'; clear k9)
              go_roundw
              case rel => exact ⟨j + 1, by omega, by go_num, LT9, W9, BL9⟩
              case measure => simp [intOf]; omega
          · obtain rfl : j = n := by omega
            obtain ⟨hl0, hl1⟩ := HLAST.out
            obtain ⟨N, hN⟩ : ∃ N, B.length = N + 1 := ⟨B.length - 1, by omega⟩
            obtain ⟨b, o, rfl, c0, _⟩ := W1.out (B.length - 1) (by omega)
            rw [hl1] at c0
            have hlb := World.block_lt_of_cell? _ _ c0
            have HV := Lib.hid (fun W (h : Fws W (some ⟨b, o, none⟩) B.length (nF B) (nT B)) => impl_ForwardsValid W (some ⟨b, o, none⟩) B.length c1 (nF B) (nT B) h hfit.out)
            rw [HBG.out, hN] at HV
            rw [hN] at c0 W1
            rw [Nat.add_sub_cancel] at c0
            rw [hN]
            have hN31 : N ≤ 30 := by omega
            clear hl1 hl0 HSUB HNI HN1 hEl hGl hN hb30
            go_wp2_with (go_at_call 18; refine (HV.out _ (by first | exact W1.out | exact W1.out.on (by go_grown))).mono ?_; rintro e v9 ⟨rfl, k9⟩; have d0 := (k9.cell (p := ⟨b, o + N * 2, none⟩) hlb).trans c0; have BL9 : Hid (Below w.heap.size w v9) := step BL.out k9; clear k9)
            go_ret
            exact ⟨rfl, BL9.out⟩

set_option maxRecDepth 100000 in
theorem lifted (os : Os) (started : os.Started) (H : Type) (enc : TypeId × Value → H) :
    ReturnsInHanded {} Try.checked os 7 .any (Rows.fnAddSpec.pre6 enc Try.prog Try.f7 Rows.fnAddRow.domain false) (Rows.fnAddSpec.post enc Try.prog Try.f7 false true false false) := by
  refine returnsInHanded_of_change (C := Try.checked) own started (by kernel_rfl) Try.func7
    (ChangeSpec.witness6 (enc := enc) (C := Try.checked) false ⟨#[], #[.slice none 0 0], []⟩ 8 (by kernel_rfl) (by kernel_rfl) (by kernel_rfl) (by kernel_rfl)) ?_
  intro W base args ds gs before hval0 hW hcnd _
  have hval : ∀ (j : Nat) t v, Try.f7.params[j]? = some t → args[j]? = some v → Value.okWide Try.prog W .any base t v := hval0
  have hW' := hW
  obtain ⟨p, q, hA0, hV, rfl, hfz, hnd⟩ := hW
  have hA : DataW.TrodAll enc Try.prog W 0 (fun _ => true) true Try.f7.params.toList args.toList ds p := hA0
  rw [Try.params7] at hA hval
  obtain ⟨v0, vs0, d0, ds0, p0, q0, hargs, rfl, rfl, h0, r0⟩ := trodAll_cons hA
  obtain ⟨rfl, rfl, rfl⟩ := trodAll_nil r0
  obtain rfl : args = #[v0] := by cases args; simp_all
  obtain ⟨rfl, rfl⟩ := trodVars_none hV
  have g0 := h0
  have lt0 : ∀ x ∈ p0, x.block < W.heap.size := by obtain ⟨m, hm⟩ := g0; exact DataW.trod_lt m _ _ _ hm
  obtain ⟨a0, l0, k0, rfl⟩ := okWide_slice Try.underlying22 (hval 0 22 v0 rfl rfl)
  obtain ⟨z0, w0⟩ : ∃ zs, IsRow .u8 W a0 l0 k0 zs := by
    obtain ⟨fuel, hf⟩ := h0
    rcases open_ints Try.underlying22 Try.underlying5 (by kernel_rfl) hf with ⟨hcs, _⟩ | ⟨x, l, c, zs, hcs, _, hl, hm, hz, _, hcell, hwz⟩
    · simp [Value.cells] at hcs
      obtain ⟨rfl, rfl, rfl⟩ := hcs
      exact ⟨[], .inl ⟨rfl, rfl, rfl, rfl⟩⟩
    · simp [Value.cells] at hcs
      obtain ⟨rfl, rfl, rfl⟩ := hcs
      exact ⟨zs, .inr ⟨_, rfl, hl, hm, by simpa using hz, hcell, hwz⟩⟩
  clear hA0 hval0
  refine (walk W a0 l0 k0 z0 w0).mono fun e W' ⟨he, bel⟩ => ?_
  subst he
  exact ⟨_, rfl, _, _, _, [], _, [], hW', trodAll_mk1 (shut_bool Try.underlying4 _), (trodAll_cons_mk (Below.trod laidOut (by kernel_rfl) (of_decide_eq_true (by kernel_rfl)) g0 bel lt0) trodAll_mk0), rfl, bel.frame _, fun h => by cases h⟩

theorem proved : Rows.FnAddSaid :=
  OpenClaim.holds_of_wide 7 Try.f7 rfl rfl rfl rfl rfl rfl rfl ⟨rfl, rfl, rfl, rfl, rfl⟩ rfl rfl rfl rfl rfl (by kernel_rfl) Try.func7 (by kernel_rfl)
    (of_decide_eq_true (by kernel_rfl)) (by unfold Func.isWrapper; first | (rw [if_pos (by decide +kernel)]; kernel_rfl) | (rw [if_neg (by decide +kernel)]; exact ⟨rfl, rfl⟩))
    (fun os started H enc _ => lifted os started H enc)
#print axioms proved
end Go.Proofs.Ytbfbbpmddgfeiaa.fnAdd
