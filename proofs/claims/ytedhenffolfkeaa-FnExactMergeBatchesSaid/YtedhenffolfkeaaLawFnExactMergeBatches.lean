/-
  For every two slices of letters, laws.FnExactMergeBatches returns true: the program's MergeBatches answers as the model of the document does, and its answer owns its memory. No condition.
-/
import Derived.Test.YtedhenffolfkeaaRows
import Derived.Test.YtedhenffolfkeaaMrgB
import Derived.Test.YtedhenffolfkeaaMatL
import Derived.Test.YtedhenffolfkeaaLetOpen
import Derived.WalkKit
import Derived.ProofKit
import Derived.OpenShut
import Derived.ShutString
import Derived.ChangeOld
import Derived.Below
import Derived.Handy
import Derived.Lib.Hide
namespace Go.Proofs.Ytedhenffolfkeaa.fnExactMergeBatches
open Go.ChangeShapes Go.WideShapes Go.ChangeAt Go.RowKit
open Go.ChangeMaps (open_string shut_string)
open Go.PlainAid (bt get_bt bt_nonneg bt_le)
set_option linter.unusedVariables false

theorem own : ownKnob Try.prog.godebug = none := by kernel_rfl
theorem laidOut : laidOutB Try.prog = true := by kernel_rfl

set_option maxHeartbeats 4000000 in
set_option maxRecDepth 100000 in
theorem walk (w : World) (a0 : Option Addr) (n0 k0 : Nat) (I0 : Nat → Int) (C0 : Nat → ByteArray) (w0 : Lts w a0 n0 I0 C0) (f0 : Fits n0 I0 C0) (z0 : n0 ≤ maxLen) (a1 : Option Addr) (n1 k1 : Nat) (I1 : Nat → Int) (C1 : Nat → ByteArray) (w1 : Lts w a1 n1 I1 C1) (f1 : Fits n1 I1 C1) (z1 : n1 ≤ maxLen) :
    Calls Try.prog 9 #[.slice a0 n0 k0, .slice a1 n1 k1] w fun e w' => e = .returned (.bool true) ∧ Below w.heap.size w w' := by
  have HS := Lib.hid w0
  have HF := Lib.hid f0
  have HS1 := Lib.hid w1
  have HF1 := Lib.hid f1
  have ZL : n1 ≤ maxLen := z1
  clear w0 w1 z1
  go_enter Try.func9, Try.ntmps9
  go_wp2_with fail
  refine (szLetterS_any _ a0 n0 k0 I0 C0 HS.out HF.out z0 _ (by omega) (by omega)).mono ?_
  rintro e w1 ⟨r, rfl, hr, hr1, hb1⟩
  by_cases hneg : r < 0
  · go_wp2
    go_ret
    exact ⟨rfl, hb1⟩
  have hn : n0 ≤ 1048576 := by omega
  clear hr z0
  have BL := Lib.hid hb1
  have z1 := BL.out.size
  go_wp2_with fail
  refine (szLetterS_any _ a1 n1 k1 I1 C1 (HS1.out.on BL.out) HF1.out ZL _ (by omega) (by omega)).mono ?_
  rintro e w2 ⟨r2, rfl, hr2, hr3, k2⟩
  have z2 := k2.size
  replace BL := Lib.hid (step BL.out k2)
  clear k2
  by_cases hneg2 : r2 < 0
  · go_wp2
    go_ret
    exact ⟨rfl, BL.out⟩
  have hn1 : n1 ≤ 1048576 := by omega
  clear hr2 hr3 hr1 ZL
  have hll0 := mrgL_le n0 I0 C0 n1 I1 C1
  obtain ⟨ok, hok⟩ : ∃ ok, M.mrgOk n0 I0 C0 n1 I1 C1 = ok := ⟨_, rfl⟩
  obtain ⟨LL, hLL⟩ : ∃ LL, M.mrgL n0 I0 C0 n1 I1 C1 = LL := ⟨_, rfl⟩
  have CS : Hid (∀ (W : World) (a : Option Addr) (c : Nat) (a' : Option Addr) (c' : Nat), Lts W a n0 I0 C0 → Lts W a' n1 I1 C1 → n0 ≤ c → n1 ≤ c' → Calls Try.prog 22 #[.slice a n0 c, .slice a' n1 c'] W (RowRes W ok LL)) := fun W a c a' c' h h' e1 e2 => by
    have := spec_MergeBatches W a n0 c I0 C0 h HF.out hn e1 a' n1 c' I1 C1 h' HF1.out hn1 e2
    rw [hok, hLL] at this
    exact this
  have CI : Hid (∀ (W : World) (a : Option Addr) (c : Nat) (a' : Option Addr) (c' : Nat), Lts W a n0 I0 C0 → Lts W a' n1 I1 C1 → Calls Try.prog 21 #[.slice a n0 c, .slice a' n1 c'] W (RowRes W ok LL)) := fun W a c a' c' h h' => by
    have := impl_MergeBatches W a n0 c I0 C0 h HF.out a' n1 c' I1 C1 h' HF1.out
    rw [hok, hLL] at this
    exact this
  rw [hLL] at hll0
  have hll : LL.length ≤ 1048576 := by omega
  obtain ⟨mt, hmt⟩ : ∃ mt : Nat, 1 + 2 * LL.length = mt := ⟨_, rfl⟩
  have MT := Lib.hid hmt
  have mt1 : 1 ≤ mt := by omega
  have mt2 : mt ≤ 3000000 := by omega
  obtain ⟨ma, hma⟩ : ∃ ma : Nat, 1 + 2 * n0 = ma := ⟨_, rfl⟩
  have MA : Hid (1 + 2 * (M.lst I0 C0 n0).length = ma) := by rw [M.lst_length]; exact hma
  have ma1 : 1 ≤ ma := by omega
  have ma2 : ma ≤ 3000000 := by omega
  obtain ⟨mb, hmb⟩ : ∃ mb : Nat, ma + 2 * n1 = mb := ⟨_, rfl⟩
  have MB : Hid (ma + 2 * (M.lst I1 C1 n1).length = mb) := by rw [M.lst_length]; exact hmb
  have mb1 : 1 ≤ mb := by omega
  have mb2 : mb ≤ 6000000 := by omega
  have hle0 : (M.lst I0 C0 n0).length ≤ 1048576 := by rw [M.lst_length]; exact hn
  have hle1 : (M.lst I1 C1 n1).length ≤ 1048576 := by rw [M.lst_length]; exact hn1
  clear hok hLL hmt hma hmb hll0
  go_wp2_with fail
  refine (toLetterS_row _ _ _ _ _ _ (HS.out.on BL.out) hn).mono ?_
  rintro e w3 ⟨b_xa, rfl, q_xa, k3⟩
  have z3 := k3.size
  replace BL := Lib.hid (step BL.out k3)
  have xa := Lib.hid q_xa
  have lo_xa : Hid (∀ k, ((Value.slice (some ⟨b_xa, 0, none⟩) n0 n0).ownBlock = some k) → w2.heap.size ≤ k ∧ k < w3.heap.size) := fun k hk => xa.out.lt k hk
  clear k3
  go_wp2_with fail
  refine (toLetterS_row _ _ _ _ _ _ (HS1.out.on BL.out) hn1).mono ?_
  rintro e w4 ⟨b_xb, rfl, q_xb, k4⟩
  have z4 := k4.size
  replace BL := Lib.hid (step BL.out k4)
  replace xa := Lib.hid (xa.out.on k4)
  have xb := Lib.hid q_xb
  have lo_xb : Hid (∀ k, ((Value.slice (some ⟨b_xb, 0, none⟩) n1 n1).ownBlock = some k) → w3.heap.size ≤ k ∧ k < w4.heap.size) := fun k hk => xb.out.lt k hk
  clear k4
  go_wp2_with fail
  refine (CS.out _ _ _ _ _ xa.out.lts_lst xb.out.lts_lst (Nat.le_refl _) (Nat.le_refl _)).mono ?_
  rintro e w5 ⟨v_rw1, rfl, q_rw1, k5⟩
  have z5 := k5.size
  replace BL := Lib.hid (step BL.out k5)
  replace xa := Lib.hid (xa.out.on k5)
  replace xb := Lib.hid (xb.out.on k5)
  have rw1 := Lib.hid q_rw1
  have lo_rw1 : Hid (∀ k, (v_rw1.ownBlock = some k) → w4.heap.size ≤ k ∧ k < w5.heap.size) := fun k hk => rw1.out.lt k hk
  clear k5
  clear xa lo_xa
  clear xb lo_xb
  go_wp2_with fail
  refine (toLetterS_row _ _ _ _ _ _ (HS.out.on BL.out) hn).mono ?_
  rintro e w6 ⟨b_x0, rfl, q_x0, k6⟩
  have z6 := k6.size
  replace BL := Lib.hid (step BL.out k6)
  replace rw1 := Lib.hid (rw1.out.on k6)
  have x0 := Lib.hid q_x0
  have lo_x0 : Hid (∀ k, ((Value.slice (some ⟨b_x0, 0, none⟩) n0 n0).ownBlock = some k) → w5.heap.size ≤ k ∧ k < w6.heap.size) := fun k hk => x0.out.lt k hk
  clear k6
  go_wp2_with fail
  refine (toLetterS_row _ _ _ _ _ _ (HS1.out.on BL.out) hn1).mono ?_
  rintro e w7 ⟨b_x1, rfl, q_x1, k7⟩
  have z7 := k7.size
  replace BL := Lib.hid (step BL.out k7)
  replace rw1 := Lib.hid (rw1.out.on k7)
  replace x0 := Lib.hid (x0.out.on k7)
  have x1 := Lib.hid q_x1
  have lo_x1 : Hid (∀ k, ((Value.slice (some ⟨b_x1, 0, none⟩) n1 n1).ownBlock = some k) → w6.heap.size ≤ k ∧ k < w7.heap.size) := fun k hk => x1.out.lt k hk
  clear k7
  go_wp2_with fail
  refine (CI.out _ _ _ _ _ x0.out.lts_lst x1.out.lts_lst).mono ?_
  rintro e w8 ⟨v_rg, rfl, q_rg, k8⟩
  have z8 := k8.size
  replace BL := Lib.hid (step BL.out k8)
  replace rw1 := Lib.hid (rw1.out.on k8)
  replace x0 := Lib.hid (x0.out.on k8)
  replace x1 := Lib.hid (x1.out.on k8)
  have rg := Lib.hid q_rg
  have lo_rg : Hid (∀ k, (v_rg.ownBlock = some k) → w7.heap.size ≤ k ∧ k < w8.heap.size) := fun k hk => rg.out.lt k hk
  clear k8
  go_wp2_with fail
  refine (eqLetterS_row _ _ _ _ _ _ rg.out rw1.out hll).mono ?_
  rintro e w9 ⟨rfl, k9⟩
  have z9 := k9.size
  replace BL := Lib.hid (step BL.out k9)
  replace rw1 := Lib.hid (rw1.out.on k9)
  replace x0 := Lib.hid (x0.out.on k9)
  replace x1 := Lib.hid (x1.out.on k9)
  replace rg := Lib.hid (rg.out.on k9)
  clear k9
  go_wp2_with fail
  refine (toLetterS_row _ _ _ _ _ _ (HS.out.on BL.out) hn).mono ?_
  rintro e w10 ⟨b_xc, rfl, q_xc, k10⟩
  have z10 := k10.size
  replace BL := Lib.hid (step BL.out k10)
  replace rw1 := Lib.hid (rw1.out.on k10)
  replace x0 := Lib.hid (x0.out.on k10)
  replace x1 := Lib.hid (x1.out.on k10)
  replace rg := Lib.hid (rg.out.on k10)
  have xc := Lib.hid q_xc
  have lo_xc : Hid (∀ k, ((Value.slice (some ⟨b_xc, 0, none⟩) n0 n0).ownBlock = some k) → w9.heap.size ≤ k ∧ k < w10.heap.size) := fun k hk => xc.out.lt k hk
  clear k10
  go_wp2_with fail
  refine (eqLetterS_row _ _ _ _ _ _ x0.out xc.out hle0).mono ?_
  rintro e w11 ⟨rfl, k11⟩
  have z11 := k11.size
  replace BL := Lib.hid (step BL.out k11)
  replace rw1 := Lib.hid (rw1.out.on k11)
  replace x0 := Lib.hid (x0.out.on k11)
  replace x1 := Lib.hid (x1.out.on k11)
  replace rg := Lib.hid (rg.out.on k11)
  replace xc := Lib.hid (xc.out.on k11)
  clear k11
  clear xc lo_xc
  go_wp2_with fail
  refine (toLetterS_row _ _ _ _ _ _ (HS1.out.on BL.out) hn1).mono ?_
  rintro e w12 ⟨b_xd, rfl, q_xd, k12⟩
  have z12 := k12.size
  replace BL := Lib.hid (step BL.out k12)
  replace rw1 := Lib.hid (rw1.out.on k12)
  replace x0 := Lib.hid (x0.out.on k12)
  replace x1 := Lib.hid (x1.out.on k12)
  replace rg := Lib.hid (rg.out.on k12)
  have xd := Lib.hid q_xd
  have lo_xd : Hid (∀ k, ((Value.slice (some ⟨b_xd, 0, none⟩) n1 n1).ownBlock = some k) → w11.heap.size ≤ k ∧ k < w12.heap.size) := fun k hk => xd.out.lt k hk
  clear k12
  go_wp2_with fail
  refine (eqLetterS_row _ _ _ _ _ _ x1.out xd.out hle1).mono ?_
  rintro e w13 ⟨rfl, k13⟩
  have z13 := k13.size
  replace BL := Lib.hid (step BL.out k13)
  replace rw1 := Lib.hid (rw1.out.on k13)
  replace x0 := Lib.hid (x0.out.on k13)
  replace x1 := Lib.hid (x1.out.on k13)
  replace rg := Lib.hid (rg.out.on k13)
  replace xd := Lib.hid (xd.out.on k13)
  clear k13
  clear xd lo_xd
  go_wp2_with fail
  refine (markLetterS_row _ _ _ _ 1 x0.out hle0 (by omega) (by omega)).mono ?_
  rw [MA.out]
  rintro e w14 ⟨rfl, r14, o14⟩
  replace o14 := (Only.of_grown o14).mono (T := fun k => (Value.slice (some ⟨b_x0, 0, none⟩) n0 n0).ownBlock = some k) (fun k _ e => e.symm)
  have z14 := o14.size
  replace BL := Lib.hid (BL.out.trans (o14.below (B := w.heap.size) (fun k hk _ hs => by have := (lo_x0.out k hs).1; omega) (by omega)))
  replace rw1 := Lib.hid (rw1.out.only o14 (fun k hk hs => by have h1 := lo_rw1.out k hk; have h2 := lo_x0.out k hs; omega))
  replace x1 := Lib.hid (x1.out.only o14 (fun k hk hs => by have h1 := lo_x1.out k hk; have h2 := lo_x0.out k hs; omega))
  replace rg := Lib.hid (rg.out.only o14 (fun k hk hs => by have h1 := lo_rg.out k hk; have h2 := lo_x0.out k hs; omega))
  replace x0 := Lib.hid r14
  clear r14 o14
  go_wp2_with fail
  refine (markLetterS_row _ _ _ _ ma x1.out hle1 (by omega) (by omega)).mono ?_
  rw [MB.out]
  rintro e w15 ⟨rfl, r15, o15⟩
  replace o15 := (Only.of_grown o15).mono (T := fun k => (Value.slice (some ⟨b_x1, 0, none⟩) n1 n1).ownBlock = some k) (fun k _ e => e.symm)
  have z15 := o15.size
  replace BL := Lib.hid (BL.out.trans (o15.below (B := w.heap.size) (fun k hk _ hs => by have := (lo_x1.out k hs).1; omega) (by omega)))
  replace rw1 := Lib.hid (rw1.out.only o15 (fun k hk hs => by have h1 := lo_rw1.out k hk; have h2 := lo_x1.out k hs; omega))
  replace x0 := Lib.hid (x0.out.only o15 (fun k hk hs => by have h1 := lo_x0.out k hk; have h2 := lo_x1.out k hs; omega))
  replace rg := Lib.hid (rg.out.only o15 (fun k hk hs => by have h1 := lo_rg.out k hk; have h2 := lo_x1.out k hs; omega))
  replace x1 := Lib.hid r15
  clear r15 o15
  go_wp2_with fail
  refine (eqLetterS_row _ _ _ _ _ _ rg.out rw1.out hll).mono ?_
  rintro e w16 ⟨rfl, k16⟩
  have z16 := k16.size
  replace BL := Lib.hid (step BL.out k16)
  replace rw1 := Lib.hid (rw1.out.on k16)
  replace x0 := Lib.hid (x0.out.on k16)
  replace x1 := Lib.hid (x1.out.on k16)
  replace rg := Lib.hid (rg.out.on k16)
  clear k16
  go_wp2_with fail
  refine (markLetterS_row _ _ _ _ 1 rg.out hll (by omega) (by omega)).mono ?_
  rw [MT.out]
  rintro e w17 ⟨rfl, r17, o17⟩
  replace o17 := (Only.of_grown o17).mono (T := fun k => v_rg.ownBlock = some k) (fun k _ e => e.symm)
  have z17 := o17.size
  replace BL := Lib.hid (BL.out.trans (o17.below (B := w.heap.size) (fun k hk _ hs => by have := (lo_rg.out k hs).1; omega) (by omega)))
  replace rw1 := Lib.hid (rw1.out.only o17 (fun k hk hs => by have h1 := lo_rw1.out k hk; have h2 := lo_rg.out k hs; omega))
  replace x0 := Lib.hid (x0.out.only o17 (fun k hk hs => by have h1 := lo_x0.out k hk; have h2 := lo_rg.out k hs; omega))
  replace x1 := Lib.hid (x1.out.only o17 (fun k hk hs => by have h1 := lo_x1.out k hk; have h2 := lo_rg.out k hs; omega))
  replace rg := Lib.hid r17
  clear r17 o17
  go_wp2_with fail
  refine (heldLetterS_row _ _ _ 1 LL.length rg.out hll (by omega) (by omega)).mono ?_
  rw [MT.out]
  rintro e w18 ⟨rfl, k18⟩
  have z18 := k18.size
  replace BL := Lib.hid (step BL.out k18)
  replace rw1 := Lib.hid (rw1.out.on k18)
  replace x0 := Lib.hid (x0.out.on k18)
  replace x1 := Lib.hid (x1.out.on k18)
  replace rg := Lib.hid (rg.out.on k18)
  clear k18
  clear x0 lo_x0
  clear x1 lo_x1
  go_wp2_with fail
  refine (toLetterS_row _ _ _ _ _ _ (HS.out.on BL.out) hn).mono ?_
  rintro e w19 ⟨b_xh, rfl, q_xh, k19⟩
  have z19 := k19.size
  replace BL := Lib.hid (step BL.out k19)
  replace rw1 := Lib.hid (rw1.out.on k19)
  replace rg := Lib.hid (rg.out.on k19)
  have xh := Lib.hid q_xh
  have lo_xh : Hid (∀ k, ((Value.slice (some ⟨b_xh, 0, none⟩) n0 n0).ownBlock = some k) → w18.heap.size ≤ k ∧ k < w19.heap.size) := fun k hk => xh.out.lt k hk
  clear k19
  go_wp2_with fail
  refine (toLetterS_row _ _ _ _ _ _ (HS1.out.on BL.out) hn1).mono ?_
  rintro e w20 ⟨b_xi, rfl, q_xi, k20⟩
  have z20 := k20.size
  replace BL := Lib.hid (step BL.out k20)
  replace rw1 := Lib.hid (rw1.out.on k20)
  replace rg := Lib.hid (rg.out.on k20)
  replace xh := Lib.hid (xh.out.on k20)
  have xi := Lib.hid q_xi
  have lo_xi : Hid (∀ k, ((Value.slice (some ⟨b_xi, 0, none⟩) n1 n1).ownBlock = some k) → w19.heap.size ≤ k ∧ k < w20.heap.size) := fun k hk => xi.out.lt k hk
  clear k20
  go_wp2_with fail
  refine (CI.out _ _ _ _ _ xh.out.lts_lst xi.out.lts_lst).mono ?_
  rintro e w21 ⟨v_rh, rfl, q_rh, k21⟩
  have z21 := k21.size
  replace BL := Lib.hid (step BL.out k21)
  replace rw1 := Lib.hid (rw1.out.on k21)
  replace rg := Lib.hid (rg.out.on k21)
  replace xh := Lib.hid (xh.out.on k21)
  replace xi := Lib.hid (xi.out.on k21)
  have rh := Lib.hid q_rh
  have lo_rh : Hid (∀ k, (v_rh.ownBlock = some k) → w20.heap.size ≤ k ∧ k < w21.heap.size) := fun k hk => rh.out.lt k hk
  clear k21
  clear xh lo_xh
  clear xi lo_xi
  go_wp2_with fail
  refine (eqLetterS_row _ _ _ _ _ _ rh.out rw1.out hll).mono ?_
  rintro e w22 ⟨rfl, k22⟩
  have z22 := k22.size
  replace BL := Lib.hid (step BL.out k22)
  replace rw1 := Lib.hid (rw1.out.on k22)
  replace rg := Lib.hid (rg.out.on k22)
  replace rh := Lib.hid (rh.out.on k22)
  clear k22
  clear rh lo_rh
  go_wp2_with fail
  refine (heldLetterS_row _ _ _ 1 LL.length rg.out hll (by omega) (by omega)).mono ?_
  rw [MT.out]
  rintro e w23 ⟨rfl, k23⟩
  have z23 := k23.size
  replace BL := Lib.hid (step BL.out k23)
  replace rw1 := Lib.hid (rw1.out.on k23)
  replace rg := Lib.hid (rg.out.on k23)
  clear k23
  go_wp2
  go_ret
  exact ⟨rfl, BL.out⟩

set_option maxRecDepth 100000 in
theorem lifted (os : Os) (started : os.Started) (H : Type) (enc : TypeId × Value → H) :
    ReturnsInHanded {} Try.checked os 9 .any (Rows.fnExactMergeBatchesSpec.pre6 enc Try.prog Try.f9 Rows.fnExactMergeBatchesRow.domain false) (Rows.fnExactMergeBatchesSpec.post enc Try.prog Try.f9 false true false false) := by
  refine returnsInHanded_of_change (C := Try.checked) own started (by kernel_rfl) Try.func9
    (ChangeSpec.witness6 (enc := enc) (C := Try.checked) false ⟨#[], #[.slice none 0 0, .slice none 0 0], []⟩ 8 (by kernel_rfl) (by kernel_rfl) (by kernel_rfl) (by kernel_rfl)) ?_
  intro W base args ds gs before hval0 hW hcnd _
  have hval : ∀ (j : Nat) t v, Try.f9.params[j]? = some t → args[j]? = some v → Value.okWide Try.prog W .any base t v := hval0
  have hW' := hW
  obtain ⟨p, q, hA0, hV, rfl, hfz, hnd⟩ := hW
  have hA : DataW.TrodAll enc Try.prog W 0 (fun _ => true) true Try.f9.params.toList args.toList ds p := hA0
  rw [Try.params9] at hA hval
  obtain ⟨v0, vs0, d0, ds0, p0, q0, hargs, rfl, rfl, h0, r0⟩ := trodAll_cons hA
  obtain ⟨v1, vs1, d1, ds1, p1, q1, rfl, rfl, rfl, h1, r1⟩ := trodAll_cons r0
  obtain ⟨rfl, rfl, rfl⟩ := trodAll_nil r1
  obtain rfl : args = #[v0, v1] := by cases args; simp_all
  obtain ⟨rfl, rfl⟩ := trodVars_none hV
  have g0 := h0
  have lt0 : ∀ x ∈ p0, x.block < W.heap.size := by obtain ⟨m, hm⟩ := g0; exact DataW.trod_lt m _ _ _ hm
  have g1 := h1
  have lt1 : ∀ x ∈ p1, x.block < W.heap.size := by obtain ⟨m, hm⟩ := g1; exact DataW.trod_lt m _ _ _ hm
  obtain ⟨a0, n0, k0, rfl⟩ := okWide_slice Try.underlying42 (hval 0 42 v0 rfl rfl)
  obtain ⟨I0, C0, w0, f0, z0⟩ : ∃ I C, Lts W a0 n0 I C ∧ Fits n0 I C ∧ n0 ≤ maxLen := by
    obtain ⟨fuel, hf⟩ := h0
    exact open_letters hf
  obtain ⟨a1, n1, k1, rfl⟩ := okWide_slice Try.underlying42 (hval 1 42 v1 rfl rfl)
  obtain ⟨I1, C1, w1, f1, z1⟩ : ∃ I C, Lts W a1 n1 I C ∧ Fits n1 I C ∧ n1 ≤ maxLen := by
    obtain ⟨fuel, hf⟩ := h1
    exact open_letters hf
  clear hA0 hval0
  refine (walk W a0 n0 k0 I0 C0 w0 f0 z0 a1 n1 k1 I1 C1 w1 f1 z1).mono fun e W' ⟨he, bel⟩ => ?_
  subst he
  exact ⟨_, rfl, _, _, _, [], _, [], hW', trodAll_mk1 (shut_bool Try.underlying4 _), (trodAll_cons_mk (Below.trod laidOut (by kernel_rfl) (of_decide_eq_true (by kernel_rfl)) g0 bel lt0) (trodAll_cons_mk (Below.trod laidOut (by kernel_rfl) (of_decide_eq_true (by kernel_rfl)) g1 bel lt1) trodAll_mk0)), rfl, bel.frame _, fun h => by cases h⟩

theorem proved : Rows.FnExactMergeBatchesSaid :=
  OpenClaim.holds_of_wide 9 Try.f9 rfl rfl rfl rfl rfl rfl rfl ⟨rfl, rfl, rfl, rfl, rfl⟩ rfl rfl rfl rfl rfl (by kernel_rfl) Try.func9 (by kernel_rfl)
    (of_decide_eq_true (by kernel_rfl)) (by unfold Func.isWrapper; first | (rw [if_pos (by decide +kernel)]; kernel_rfl) | (rw [if_neg (by decide +kernel)]; exact ⟨rfl, rfl⟩))
    (fun os started H enc _ => lifted os started H enc)
#print axioms proved
end Go.Proofs.Ytedhenffolfkeaa.fnExactMergeBatches
