/-
  For every slice of letters, laws.FnExactCodesOf returns true: the program's CodesOf answers as the model of the document does, and its answer owns its memory. No condition.
-/
import Derived.Test.YtedhenffolfkeaaRows
import Derived.Test.YtedhenffolfkeaaCodes
import Derived.Test.YtedhenffolfkeaaMatL
import Derived.Test.YtedhenffolfkeaaSMark
import Derived.Test.YtedhenffolfkeaaLetOpen
import Derived.WalkKit
import Derived.ProofKit
import Derived.OpenShut
import Derived.ShutString
import Derived.ChangeOld
import Derived.Below
import Derived.Handy
import Derived.Lib.Hide
namespace Go.Proofs.Ytedhenffolfkeaa.fnExactCodesOf
open Go.ChangeShapes Go.WideShapes Go.ChangeAt Go.RowKit
open Go.ChangeMaps (open_string shut_string)
open Go.PlainAid (bt get_bt bt_nonneg bt_le)
set_option linter.unusedVariables false

theorem own : ownKnob Try.prog.godebug = none := by kernel_rfl
theorem laidOut : laidOutB Try.prog = true := by kernel_rfl

set_option maxHeartbeats 4000000 in
set_option maxRecDepth 100000 in
theorem walk (w : World) (a0 : Option Addr) (n0 k0 : Nat) (I0 : Nat → Int) (C0 : Nat → ByteArray) (w0 : Lts w a0 n0 I0 C0) (f0 : Fits n0 I0 C0) (z0 : n0 ≤ maxLen) :
    Calls Try.prog 10 #[.slice a0 n0 k0] w fun e w' => e = .returned (.bool true) ∧ Below w.heap.size w w' := by
  have HL := Lib.hid w0
  have HF := Lib.hid f0
  clear w0 f0
  go_enter Try.func10, Try.ntmps10
  go_wp2_with fail
  refine (szLetterS_any _ _ _ _ _ _ HL.out HF.out z0 _ (by omega) (by omega)).mono ?_
  rintro e w1 ⟨r, rfl, hr, hr1, hb1⟩
  by_cases hneg : r < 0
  · go_wp2
    go_ret
    exact ⟨rfl, hb1⟩
  have hn : n0 ≤ 1048576 := by omega
  clear hr hr1 z0
  have BL := Lib.hid hb1
  have z1 := BL.out.size
  obtain ⟨LL, hLL⟩ : ∃ LL, M.codesL n0 I0 C0 = LL := ⟨_, rfl⟩
  have CS : Hid (∀ (W : World) (a : Option Addr) (c : Nat), Lts W a n0 I0 C0 → Calls Try.prog 25 #[.slice a n0 c] W (SOutC W LL)) := fun W a c hl => by
    have := spec_CodesOf W a n0 c I0 C0 hl HF.out hn
    rw [hLL] at this
    exact this
  have CI : Hid (∀ (W : World) (a : Option Addr) (c : Nat), Lts W a n0 I0 C0 → Calls Try.prog 24 #[.slice a n0 c] W (SOutC W LL)) := fun W a c hl => by
    have := impl_CodesOf W a n0 c I0 C0 hl HF.out
    rw [hLL] at this
    exact this
  have hll : LL.length ≤ 1048576 := by rw [← hLL]; exact Nat.le_trans (M.codesL_le _ _ _) (by omega)
  obtain ⟨mt, hmt⟩ : ∃ mt : Nat, 1 + LL.length = mt := ⟨_, rfl⟩
  have MT := Lib.hid hmt
  have mt1 : 1 ≤ mt := by omega
  have mt2 : mt ≤ 10000000 := by omega
  obtain ⟨m0, hm0⟩ : ∃ m0 : Nat, 1 + 2 * n0 = m0 := ⟨_, rfl⟩
  have M0 : Hid (1 + 2 * (M.lst I0 C0 n0).length = m0) := by rw [M.lst_length]; exact hm0
  have hle : (M.lst I0 C0 n0).length ≤ 1048576 := by rw [M.lst_length]; exact hn
  have m01 : 1 ≤ m0 := by omega
  clear hLL hmt hm0
  go_wp2_with fail
  refine (toLetterS_row _ _ _ _ _ _ (HL.out.on BL.out) hn).mono ?_
  rintro e w2 ⟨b_xs, rfl, q_xs, k2⟩
  have z2 := k2.size
  replace BL := Lib.hid (step BL.out k2)
  have xs := Lib.hid q_xs
  have lo_xs : Hid (∀ k, ((Value.slice (some ⟨b_xs, 0, none⟩) n0 n0).ownBlock = some k) → w1.heap.size ≤ k ∧ k < w2.heap.size) := fun k hk => xs.out.lt k hk
  clear k2
  go_wp2_with fail
  refine (CS.out _ _ _ xs.out.lts_lst).mono ?_
  rintro e w3 ⟨v_rw, rfl, q_rw, k3⟩
  have z3 := k3.size
  replace BL := Lib.hid (step BL.out k3)
  replace xs := Lib.hid (xs.out.on k3)
  have rw := Lib.hid q_rw
  have lo_rw : Hid (∀ k, (v_rw.ownBlock = some k) → w2.heap.size ≤ k ∧ k < w3.heap.size) := fun k hk => rw.out.lt k hk
  clear k3
  clear xs lo_xs
  go_wp2_with fail
  refine (toLetterS_row _ _ _ _ _ _ (HL.out.on BL.out) hn).mono ?_
  rintro e w4 ⟨b_x0, rfl, q_x0, k4⟩
  have z4 := k4.size
  replace BL := Lib.hid (step BL.out k4)
  replace rw := Lib.hid (rw.out.on k4)
  have x0 := Lib.hid q_x0
  have lo_x0 : Hid (∀ k, ((Value.slice (some ⟨b_x0, 0, none⟩) n0 n0).ownBlock = some k) → w3.heap.size ≤ k ∧ k < w4.heap.size) := fun k hk => x0.out.lt k hk
  clear k4
  go_wp2_with fail
  refine (CI.out _ _ _ x0.out.lts_lst).mono ?_
  rintro e w5 ⟨v_rg, rfl, q_rg, k5⟩
  have z5 := k5.size
  replace BL := Lib.hid (step BL.out k5)
  replace rw := Lib.hid (rw.out.on k5)
  replace x0 := Lib.hid (x0.out.on k5)
  have rg := Lib.hid q_rg
  have lo_rg : Hid (∀ k, (v_rg.ownBlock = some k) → w4.heap.size ≤ k ∧ k < w5.heap.size) := fun k hk => rg.out.lt k hk
  clear k5
  go_wp2_with fail
  refine (eqStringS_row _ _ _ _ _ _ rg.out rw.out hll).mono ?_
  rintro e w6 ⟨rfl, k6⟩
  have z6 := k6.size
  replace BL := Lib.hid (step BL.out k6)
  replace rw := Lib.hid (rw.out.on k6)
  replace x0 := Lib.hid (x0.out.on k6)
  replace rg := Lib.hid (rg.out.on k6)
  clear k6
  go_wp2_with fail
  refine (toLetterS_row _ _ _ _ _ _ (HL.out.on BL.out) hn).mono ?_
  rintro e w7 ⟨b_xc, rfl, q_xc, k7⟩
  have z7 := k7.size
  replace BL := Lib.hid (step BL.out k7)
  replace rw := Lib.hid (rw.out.on k7)
  replace x0 := Lib.hid (x0.out.on k7)
  replace rg := Lib.hid (rg.out.on k7)
  have xc := Lib.hid q_xc
  have lo_xc : Hid (∀ k, ((Value.slice (some ⟨b_xc, 0, none⟩) n0 n0).ownBlock = some k) → w6.heap.size ≤ k ∧ k < w7.heap.size) := fun k hk => xc.out.lt k hk
  clear k7
  go_wp2_with fail
  refine (eqLetterS_row _ _ _ _ _ _ x0.out xc.out hle).mono ?_
  rintro e w8 ⟨rfl, k8⟩
  have z8 := k8.size
  replace BL := Lib.hid (step BL.out k8)
  replace rw := Lib.hid (rw.out.on k8)
  replace x0 := Lib.hid (x0.out.on k8)
  replace rg := Lib.hid (rg.out.on k8)
  replace xc := Lib.hid (xc.out.on k8)
  clear k8
  clear xc lo_xc
  go_wp2_with fail
  refine (markLetterS_row _ _ _ _ 1 x0.out hle (by omega) (by omega)).mono ?_
  rw [M0.out]
  rintro e w9 ⟨rfl, r9, o9⟩
  replace o9 := (Only.of_grown o9).mono (T := fun k => (Value.slice (some ⟨b_x0, 0, none⟩) n0 n0).ownBlock = some k) (fun k _ e => e.symm)
  have z9 := o9.size
  replace BL := Lib.hid (BL.out.trans (o9.below (B := w.heap.size) (fun k hk _ hs => by have := (lo_x0.out k hs).1; omega) (by omega)))
  replace rw := Lib.hid (rw.out.only o9 (fun k hk hs => by have h1 := lo_rw.out k hk; have h2 := lo_x0.out k hs; omega))
  replace rg := Lib.hid (rg.out.only o9 (fun k hk hs => by have h1 := lo_rg.out k hk; have h2 := lo_x0.out k hs; omega))
  replace x0 := Lib.hid r9
  clear r9 o9
  go_wp2_with fail
  refine (eqStringS_row _ _ _ _ _ _ rg.out rw.out hll).mono ?_
  rintro e w10 ⟨rfl, k10⟩
  have z10 := k10.size
  replace BL := Lib.hid (step BL.out k10)
  replace rw := Lib.hid (rw.out.on k10)
  replace x0 := Lib.hid (x0.out.on k10)
  replace rg := Lib.hid (rg.out.on k10)
  clear k10
  go_wp2_with fail
  refine (markStringS_full _ _ _ _ 1 rg.out hll (by omega) (by omega)).mono ?_
  rw [MT.out]
  rintro e w11 ⟨rfl, r11, o11⟩
  have z11 := o11.size
  replace BL := Lib.hid (BL.out.trans (o11.below (B := w.heap.size) (fun k hk _ hs => by have := (lo_rg.out k hs).1; omega) (by omega)))
  replace rw := Lib.hid (rw.out.only o11 (fun k hk hs => by have h1 := lo_rw.out k hk; have h2 := lo_rg.out k hs; omega))
  replace x0 := Lib.hid (x0.out.only o11 (fun k hk hs => by have h1 := lo_x0.out k hk; have h2 := lo_rg.out k hs; omega))
  replace rg := Lib.hid r11
  clear r11 o11
  go_wp2_with fail
  refine (heldStringS_row _ _ _ 1 LL.length rg.out hll (by omega) (by omega)).mono ?_
  rw [MT.out]
  rintro e w12 ⟨rfl, k12⟩
  have z12 := k12.size
  replace BL := Lib.hid (step BL.out k12)
  replace rw := Lib.hid (rw.out.on k12)
  replace x0 := Lib.hid (x0.out.on k12)
  replace rg := Lib.hid (rg.out.on k12)
  clear k12
  clear x0 lo_x0
  go_wp2_with fail
  refine (toLetterS_row _ _ _ _ _ _ (HL.out.on BL.out) hn).mono ?_
  rintro e w13 ⟨b_xh, rfl, q_xh, k13⟩
  have z13 := k13.size
  replace BL := Lib.hid (step BL.out k13)
  replace rw := Lib.hid (rw.out.on k13)
  replace rg := Lib.hid (rg.out.on k13)
  have xh := Lib.hid q_xh
  have lo_xh : Hid (∀ k, ((Value.slice (some ⟨b_xh, 0, none⟩) n0 n0).ownBlock = some k) → w12.heap.size ≤ k ∧ k < w13.heap.size) := fun k hk => xh.out.lt k hk
  clear k13
  go_wp2_with fail
  refine (CI.out _ _ _ xh.out.lts_lst).mono ?_
  rintro e w14 ⟨v_rh, rfl, q_rh, k14⟩
  have z14 := k14.size
  replace BL := Lib.hid (step BL.out k14)
  replace rw := Lib.hid (rw.out.on k14)
  replace rg := Lib.hid (rg.out.on k14)
  replace xh := Lib.hid (xh.out.on k14)
  have rh := Lib.hid q_rh
  have lo_rh : Hid (∀ k, (v_rh.ownBlock = some k) → w13.heap.size ≤ k ∧ k < w14.heap.size) := fun k hk => rh.out.lt k hk
  clear k14
  clear xh lo_xh
  go_wp2_with fail
  refine (eqStringS_row _ _ _ _ _ _ rh.out rw.out hll).mono ?_
  rintro e w15 ⟨rfl, k15⟩
  have z15 := k15.size
  replace BL := Lib.hid (step BL.out k15)
  replace rw := Lib.hid (rw.out.on k15)
  replace rg := Lib.hid (rg.out.on k15)
  replace rh := Lib.hid (rh.out.on k15)
  clear k15
  clear rh lo_rh
  go_wp2_with fail
  refine (heldStringS_row _ _ _ 1 LL.length rg.out hll (by omega) (by omega)).mono ?_
  rw [MT.out]
  rintro e w16 ⟨rfl, k16⟩
  have z16 := k16.size
  replace BL := Lib.hid (step BL.out k16)
  replace rw := Lib.hid (rw.out.on k16)
  replace rg := Lib.hid (rg.out.on k16)
  clear k16
  go_wp2
  go_ret
  exact ⟨rfl, BL.out⟩

set_option maxRecDepth 100000 in
theorem lifted (os : Os) (started : os.Started) (H : Type) (enc : TypeId × Value → H) :
    ReturnsInHanded {} Try.checked os 10 .any (Rows.fnExactCodesOfSpec.pre6 enc Try.prog Try.f10 Rows.fnExactCodesOfRow.domain false) (Rows.fnExactCodesOfSpec.post enc Try.prog Try.f10 false true false false) := by
  refine returnsInHanded_of_change (C := Try.checked) own started (by kernel_rfl) Try.func10
    (ChangeSpec.witness6 (enc := enc) (C := Try.checked) false ⟨#[], #[.slice none 0 0], []⟩ 8 (by kernel_rfl) (by kernel_rfl) (by kernel_rfl) (by kernel_rfl)) ?_
  intro W base args ds gs before hval0 hW hcnd _
  have hval : ∀ (j : Nat) t v, Try.f10.params[j]? = some t → args[j]? = some v → Value.okWide Try.prog W .any base t v := hval0
  have hW' := hW
  obtain ⟨p, q, hA0, hV, rfl, hfz, hnd⟩ := hW
  have hA : DataW.TrodAll enc Try.prog W 0 (fun _ => true) true Try.f10.params.toList args.toList ds p := hA0
  rw [Try.params10] at hA hval
  obtain ⟨v0, vs0, d0, ds0, p0, q0, hargs, rfl, rfl, h0, r0⟩ := trodAll_cons hA
  obtain ⟨rfl, rfl, rfl⟩ := trodAll_nil r0
  obtain rfl : args = #[v0] := by cases args; simp_all
  obtain ⟨rfl, rfl⟩ := trodVars_none hV
  have g0 := h0
  have lt0 : ∀ x ∈ p0, x.block < W.heap.size := by obtain ⟨m, hm⟩ := g0; exact DataW.trod_lt m _ _ _ hm
  obtain ⟨a0, n0, k0, rfl⟩ := okWide_slice Try.underlying42 (hval 0 42 v0 rfl rfl)
  obtain ⟨I0, C0, w0, f0, z0⟩ : ∃ I C, Lts W a0 n0 I C ∧ Fits n0 I C ∧ n0 ≤ maxLen := by
    obtain ⟨fuel, hf⟩ := h0
    exact open_letters hf
  clear hA0 hval0
  refine (walk W a0 n0 k0 I0 C0 w0 f0 z0).mono fun e W' ⟨he, bel⟩ => ?_
  subst he
  exact ⟨_, rfl, _, _, _, [], _, [], hW', trodAll_mk1 (shut_bool Try.underlying4 _), (trodAll_cons_mk (Below.trod laidOut (by kernel_rfl) (of_decide_eq_true (by kernel_rfl)) g0 bel lt0) trodAll_mk0), rfl, bel.frame _, fun h => by cases h⟩

theorem proved : Rows.FnExactCodesOfSaid :=
  OpenClaim.holds_of_wide 10 Try.f10 rfl rfl rfl rfl rfl rfl rfl ⟨rfl, rfl, rfl, rfl, rfl⟩ rfl rfl rfl rfl rfl (by kernel_rfl) Try.func10 (by kernel_rfl)
    (of_decide_eq_true (by kernel_rfl)) (by unfold Func.isWrapper; first | (rw [if_pos (by decide +kernel)]; kernel_rfl) | (rw [if_neg (by decide +kernel)]; exact ⟨rfl, rfl⟩))
    (fun os started H enc _ => lifted os started H enc)
#print axioms proved
end Go.Proofs.Ytedhenffolfkeaa.fnExactCodesOf
