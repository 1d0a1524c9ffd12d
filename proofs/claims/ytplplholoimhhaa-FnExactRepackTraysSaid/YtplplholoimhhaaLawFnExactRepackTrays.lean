/-
  For every slice of slices of letters and number, laws.FnExactRepackTrays returns true: the program's RepackTrays answers as the model of the document does, and its answer owns its memory. No condition.
-/
import Derived.Test.YtplplholoimhhaaRows
import Derived.Test.YtplplholoimhhaaFillI
import Derived.Test.YtplplholoimhhaaTotM
import Derived.Test.YtplplholoimhhaaSSOpen
import Derived.Test.YtplplholoimhhaaLetOpen
import Derived.WalkKit
import Derived.ProofKit
import Derived.OpenShut
import Derived.ShutString
import Derived.ChangeOld
import Derived.Below
import Derived.Handy
import Derived.Lib.Hide
namespace Go.Proofs.Ytplplholoimhhaa.fnExactRepackTrays
open Go.ChangeShapes Go.WideShapes Go.ChangeAt Go.RowKit
open Go.ChangeMaps (open_string shut_string)
open Go.PlainAid (bt get_bt bt_nonneg bt_le)
set_option linter.unusedVariables false

theorem own : ownKnob Try.prog.godebug = none := by kernel_rfl
theorem laidOut : laidOutB Try.prog = true := by kernel_rfl

set_option maxHeartbeats 4000000 in
set_option maxRecDepth 100000 in
theorem walk (w : World) (a0 : Option Addr) (n0 k0 : Nat) (MM0 : Nat → List (Int × ByteArray)) (w0 : Lss w a0 n0 MM0) (z0 : n0 ≤ maxLen) (a1 : Int) (w1 : (Lit.int .i64 a1).wf = true) :
    Calls Try.prog 9 #[.slice a0 n0 k0, .int .i64 a1] w fun e w' => e = .returned (.bool true) ∧ Below w.heap.size w w' := by
  have HL := Lib.hid w0
  clear w0
  go_enter Try.func9, Try.ntmps9
  go_wp2_with fail
  refine (szLetterSS_any _ a0 n0 k0 MM0 HL.out z0 _ (by omega) (by omega)).mono ?_
  rintro e w1 ⟨r, rfl, hr, hr1, hb1⟩
  by_cases hneg : r < 0
  · go_wp2
    go_ret
    exact ⟨rfl, hb1⟩
  have HZ := Lib.hid (HL.out.sz (by have := (hr (by omega)).1; omega) (by have := (hr (by omega)).2; omega))
  have hn : n0 ≤ 1048576 := HZ.out.1
  have HO := Lib.hid (fun i (hi : i < n0) => (HZ.out.one hi).1)
  have ht : tot MM0 n0 ≤ 1048576 := by rw [← tot_flat]; exact HZ.out.2.1
  clear hr hr1 z0
  have BL := Lib.hid hb1
  have z1 := BL.out.size
  have q1 : repN n0 MM0 a1 ≤ 60 := (rep_le (n := n0) (MM := MM0) (s := a1)).1
  have q2 : ∀ i, i < repN n0 MM0 a1 → (repM n0 MM0 a1 i).length ≤ 60 := fun i hi => (rep_le (n := n0) (MM := MM0) (s := a1)).2 i hi
  have q3 : tot (repM n0 MM0 a1) (repN n0 MM0 a1) ≤ 1048576 := tot_le q1 q2
  obtain ⟨ok, hok⟩ : ∃ ok, repOk n0 MM0 a1 = ok := ⟨_, rfl⟩
  obtain ⟨N, hN⟩ : ∃ N, repN n0 MM0 a1 = N := ⟨_, rfl⟩
  obtain ⟨MM, hM⟩ : ∃ MM, repM n0 MM0 a1 = MM := ⟨_, rfl⟩
  have HOK := Lib.hid hok
  have HNN := Lib.hid hN
  have HMM := Lib.hid hM
  rw [hN, hM] at q2 q3
  rw [hN] at q1
  have HQ2 := Lib.hid (fun i (hi : i < N) => show (MM i).length ≤ 1048576 by have := q2 i hi; omega)
  have hNN : N ≤ 1048576 := by omega
  obtain ⟨mt, hmt⟩ : ∃ mt : Nat, 1 + 2 * tot MM N = mt := ⟨_, rfl⟩
  have MT := Lib.hid hmt
  obtain ⟨mq, hmq⟩ : ∃ mq : Nat, 1 + 2 * tot MM0 n0 = mq := ⟨_, rfl⟩
  have MQ := Lib.hid hmq
  have mt1 : 1 ≤ mt := by omega
  have mt2 : mt ≤ 10000000 := by omega
  have mq1 : 1 ≤ mq := by omega
  have mq2 : mq ≤ 5000000 := by omega
  clear hok hN hM hmt hmq q2
  go_wp2_with fail
  refine (toLetterSS_any _ a0 n0 k0 MM0 (HL.out.on BL.out) hn HO.out).mono ?_
  rintro e w2 ⟨b_ms, V_ms, rfl, q_ms, k2⟩
  have z2 := k2.size
  replace BL := Lib.hid (step BL.out k2)
  have ms := Lib.hid q_ms
  have lo_ms : Hid (∀ k, (inM (.slice (some ⟨b_ms, 0, none⟩) n0 n0) n0 V_ms k) → w1.heap.size ≤ k ∧ k < w2.heap.size) := fun k hk => ms.out.lt hk
  clear k2
  go_wp2_with fail
  refine (spec_RepackTrays _ _ _ n0 _ MM0 ms.out HZ.out a1).mono ?_
  rw [HOK.out, HNN.out, HMM.out]
  rintro e w3 ⟨v_rw1, V_rw1, rfl, q_rw1, k3⟩
  have z3 := k3.size
  replace BL := Lib.hid (step BL.out k3)
  replace ms := Lib.hid (ms.out.on k3)
  have rw1 := Lib.hid q_rw1
  have lo_rw1 : Hid (∀ k, (inM v_rw1 N V_rw1 k) → w2.heap.size ≤ k ∧ k < w3.heap.size) := fun k hk => rw1.out.lt hk
  clear k3
  clear ms lo_ms
  go_wp2_with fail
  refine (toLetterSS_any _ a0 n0 k0 MM0 (HL.out.on BL.out) hn HO.out).mono ?_
  rintro e w4 ⟨b_m0, V_m0, rfl, q_m0, k4⟩
  have z4 := k4.size
  replace BL := Lib.hid (step BL.out k4)
  replace rw1 := Lib.hid (rw1.out.on k4)
  have m0 := Lib.hid q_m0
  have lo_m0 : Hid (∀ k, (inM (.slice (some ⟨b_m0, 0, none⟩) n0 n0) n0 V_m0 k) → w3.heap.size ≤ k ∧ k < w4.heap.size) := fun k hk => m0.out.lt hk
  clear k4
  go_wp2_with fail
  refine (impl_RepackTrays _ _ _ n0 _ MM0 m0.out HZ.out a1).mono ?_
  rw [HOK.out, HNN.out, HMM.out]
  rintro e w5 ⟨v_rg, V_rg, rfl, q_rg, k5⟩
  have z5 := k5.size
  replace BL := Lib.hid (step BL.out k5)
  replace rw1 := Lib.hid (rw1.out.on k5)
  replace m0 := Lib.hid (m0.out.on k5)
  have rg := Lib.hid q_rg
  have lo_rg : Hid (∀ k, (inM v_rg N V_rg k) → w4.heap.size ≤ k ∧ k < w5.heap.size) := fun k hk => rg.out.lt hk
  clear k5
  go_wp2_with fail
  refine (eqLetterSS_mat _ _ _ N _ _ _ _ MM rg.out rw1.out hNN HQ2.out).mono ?_
  rintro e w6 ⟨rfl, k6⟩
  have z6 := k6.size
  replace BL := Lib.hid (step BL.out k6)
  replace rw1 := Lib.hid (rw1.out.on k6)
  replace m0 := Lib.hid (m0.out.on k6)
  replace rg := Lib.hid (rg.out.on k6)
  clear k6
  go_wp2_with fail
  refine (toLetterSS_any _ a0 n0 k0 MM0 (HL.out.on BL.out) hn HO.out).mono ?_
  rintro e w7 ⟨b_cm0, V_cm0, rfl, q_cm0, k7⟩
  have z7 := k7.size
  replace BL := Lib.hid (step BL.out k7)
  replace rw1 := Lib.hid (rw1.out.on k7)
  replace m0 := Lib.hid (m0.out.on k7)
  replace rg := Lib.hid (rg.out.on k7)
  have cm0 := Lib.hid q_cm0
  have lo_cm0 : Hid (∀ k, (inM (.slice (some ⟨b_cm0, 0, none⟩) n0 n0) n0 V_cm0 k) → w6.heap.size ≤ k ∧ k < w7.heap.size) := fun k hk => cm0.out.lt hk
  clear k7
  go_wp2_with fail
  refine (eqLetterSS_mat _ _ _ n0 _ _ _ _ MM0 m0.out cm0.out hn HO.out).mono ?_
  rintro e w8 ⟨rfl, k8⟩
  have z8 := k8.size
  replace BL := Lib.hid (step BL.out k8)
  replace rw1 := Lib.hid (rw1.out.on k8)
  replace m0 := Lib.hid (m0.out.on k8)
  replace rg := Lib.hid (rg.out.on k8)
  replace cm0 := Lib.hid (cm0.out.on k8)
  clear k8
  clear cm0 lo_cm0
  go_wp2_with fail
  refine (markLetterSS_mat _ _ _ _ _ _ 1 m0.out hn ht (by omega) (by omega)).mono ?_
  rw [MQ.out]
  rintro e w9 ⟨rfl, r9, o9⟩
  have z9 := o9.size
  replace BL := Lib.hid (BL.out.trans (o9.below (B := w.heap.size) (fun k hk _ hs => by have := (lo_m0.out k hs).1; omega) (by omega)))
  replace rw1 := Lib.hid (rw1.out.only o9 (fun k hk hs => by have h1 := lo_rw1.out k hk; have h2 := lo_m0.out k hs; omega))
  replace rg := Lib.hid (rg.out.only o9 (fun k hk hs => by have h1 := lo_rg.out k hk; have h2 := lo_m0.out k hs; omega))
  replace m0 := Lib.hid r9
  clear r9 o9
  go_wp2_with fail
  refine (eqLetterSS_mat _ _ _ N _ _ _ _ MM rg.out rw1.out hNN HQ2.out).mono ?_
  rintro e w10 ⟨rfl, k10⟩
  have z10 := k10.size
  replace BL := Lib.hid (step BL.out k10)
  replace rw1 := Lib.hid (rw1.out.on k10)
  replace m0 := Lib.hid (m0.out.on k10)
  replace rg := Lib.hid (rg.out.on k10)
  clear k10
  go_wp2_with fail
  refine (markLetterSS_mat _ _ _ _ _ _ 1 rg.out hNN q3 (by omega) (by omega)).mono ?_
  rw [MT.out]
  rintro e w11 ⟨rfl, r11, o11⟩
  have z11 := o11.size
  replace BL := Lib.hid (BL.out.trans (o11.below (B := w.heap.size) (fun k hk _ hs => by have := (lo_rg.out k hs).1; omega) (by omega)))
  replace rw1 := Lib.hid (rw1.out.only o11 (fun k hk hs => by have h1 := lo_rw1.out k hk; have h2 := lo_rg.out k hs; omega))
  replace m0 := Lib.hid (m0.out.only o11 (fun k hk hs => by have h1 := lo_m0.out k hk; have h2 := lo_rg.out k hs; omega))
  replace rg := Lib.hid r11
  clear r11 o11
  go_wp2_with fail
  refine (heldLetterSS_mat _ _ _ _ _ MM 1 rg.out hNN q3 (by omega) (by omega)).mono ?_
  rw [MT.out]
  rintro e w12 ⟨rfl, k12⟩
  have z12 := k12.size
  replace BL := Lib.hid (step BL.out k12)
  replace rw1 := Lib.hid (rw1.out.on k12)
  replace m0 := Lib.hid (m0.out.on k12)
  replace rg := Lib.hid (rg.out.on k12)
  clear k12
  clear m0 lo_m0
  go_wp2_with fail
  refine (toLetterSS_any _ a0 n0 k0 MM0 (HL.out.on BL.out) hn HO.out).mono ?_
  rintro e w13 ⟨b_mh, V_mh, rfl, q_mh, k13⟩
  have z13 := k13.size
  replace BL := Lib.hid (step BL.out k13)
  replace rw1 := Lib.hid (rw1.out.on k13)
  replace rg := Lib.hid (rg.out.on k13)
  have mh := Lib.hid q_mh
  have lo_mh : Hid (∀ k, (inM (.slice (some ⟨b_mh, 0, none⟩) n0 n0) n0 V_mh k) → w12.heap.size ≤ k ∧ k < w13.heap.size) := fun k hk => mh.out.lt hk
  clear k13
  go_wp2_with fail
  refine (impl_RepackTrays _ _ _ n0 _ MM0 mh.out HZ.out a1).mono ?_
  rw [HOK.out, HNN.out, HMM.out]
  rintro e w14 ⟨v_rh, V_rh, rfl, q_rh, k14⟩
  have z14 := k14.size
  replace BL := Lib.hid (step BL.out k14)
  replace rw1 := Lib.hid (rw1.out.on k14)
  replace rg := Lib.hid (rg.out.on k14)
  replace mh := Lib.hid (mh.out.on k14)
  have rh := Lib.hid q_rh
  have lo_rh : Hid (∀ k, (inM v_rh N V_rh k) → w13.heap.size ≤ k ∧ k < w14.heap.size) := fun k hk => rh.out.lt hk
  clear k14
  clear mh lo_mh
  go_wp2_with fail
  refine (eqLetterSS_mat _ _ _ N _ _ _ _ MM rh.out rw1.out hNN HQ2.out).mono ?_
  rintro e w15 ⟨rfl, k15⟩
  have z15 := k15.size
  replace BL := Lib.hid (step BL.out k15)
  replace rw1 := Lib.hid (rw1.out.on k15)
  replace rg := Lib.hid (rg.out.on k15)
  replace rh := Lib.hid (rh.out.on k15)
  clear k15
  clear rh lo_rh
  go_wp2_with fail
  refine (heldLetterSS_mat _ _ _ _ _ MM 1 rg.out hNN q3 (by omega) (by omega)).mono ?_
  rw [MT.out]
  rintro e w16 ⟨rfl, k16⟩
  have z16 := k16.size
  replace BL := Lib.hid (step BL.out k16)
  replace rw1 := Lib.hid (rw1.out.on k16)
  replace rg := Lib.hid (rg.out.on k16)
  clear k16
  go_wp2
  go_ret
  exact ⟨rfl, BL.out⟩

set_option maxRecDepth 100000 in
theorem lifted (os : Os) (started : os.Started) (H : Type) (enc : TypeId × Value → H) :
    ReturnsInHanded {} Try.checked os 9 .any (Rows.fnExactRepackTraysSpec.pre6 enc Try.prog Try.f9 Rows.fnExactRepackTraysRow.domain false) (Rows.fnExactRepackTraysSpec.post enc Try.prog Try.f9 false true false false) := by
  refine returnsInHanded_of_change (C := Try.checked) own started (by kernel_rfl) Try.func9
    (ChangeSpec.witness6 (enc := enc) (C := Try.checked) false ⟨#[], #[.slice none 0 0, .int .i64 0], []⟩ 8 (by kernel_rfl) (by kernel_rfl) (by kernel_rfl) (by kernel_rfl)) ?_
  intro W base args ds gs before hval0 hW hcnd _
  have hval : ∀ (j : Nat) t v, Try.f9.params[j]? = some t → args[j]? = some v → Value.okWide Try.prog W .any base t v := hval0
  have hW' := hW
  obtain ⟨p, q, hA0, hV, rfl, hfz, hnd⟩ := hW
  have hA : DataW.TrodAll enc Try.prog W 0 (fun _ => true) true Try.f9.params.toList args.toList ds p := hA0
  rw [Try.params9] at hA hval
  obtain ⟨v0, vs0, d0, ds0, p0, q0, hargs, rfl, rfl, h0, r0⟩ := trodAll_cons hA
  obtain ⟨v1, vs1, d1, ds1, p1, q1, rfl, rfl, rfl, h1, r1⟩ := trodAll_cons r0
  obtain ⟨rfl, rfl, rfl⟩ := trodAll_nil r1
  obtain rfl : args = #[v0, v1] := by cases args; simp_all
  obtain ⟨rfl, rfl⟩ := trodVars_none hV
  have g0 := h0
  have lt0 : ∀ x ∈ p0, x.block < W.heap.size := by obtain ⟨m, hm⟩ := g0; exact DataW.trod_lt m _ _ _ hm
  have g1 := h1
  have lt1 : ∀ x ∈ p1, x.block < W.heap.size := by obtain ⟨m, hm⟩ := g1; exact DataW.trod_lt m _ _ _ hm
  obtain ⟨a0, n0, k0, rfl⟩ := okWide_slice Try.underlying36 (hval 0 36 v0 rfl rfl)
  obtain ⟨MM0, w0, z0⟩ : ∃ MM, Lss W a0 n0 MM ∧ n0 ≤ maxLen := by
    obtain ⟨fuel, hf⟩ := h0
    exact open_trays hf
  obtain ⟨a1, rfl, _, _, w1⟩ := open_int Try.underlying3 (hval 1 3 v1 rfl rfl) h1
  clear hA0 hval0
  refine (walk W a0 n0 k0 MM0 w0 z0 a1 w1).mono fun e W' ⟨he, bel⟩ => ?_
  subst he
  exact ⟨_, rfl, _, _, _, [], _, [], hW', trodAll_mk1 (shut_bool Try.underlying4 _), (trodAll_cons_mk (Below.trod laidOut (by kernel_rfl) (of_decide_eq_true (by kernel_rfl)) g0 bel lt0) (trodAll_cons_mk (Below.trod laidOut (by kernel_rfl) (of_decide_eq_true (by kernel_rfl)) g1 bel lt1) trodAll_mk0)), rfl, bel.frame _, fun h => by cases h⟩

theorem proved : Rows.FnExactRepackTraysSaid :=
  OpenClaim.holds_of_wide 9 Try.f9 rfl rfl rfl rfl rfl rfl rfl ⟨rfl, rfl, rfl, rfl, rfl⟩ rfl rfl rfl rfl rfl (by kernel_rfl) Try.func9 (by kernel_rfl)
    (of_decide_eq_true (by kernel_rfl)) (by unfold Func.isWrapper; first | (rw [if_pos (by decide +kernel)]; kernel_rfl) | (rw [if_neg (by decide +kernel)]; exact ⟨rfl, rfl⟩))
    (fun os started H enc _ => lifted os started H enc)
#print axioms proved
end Go.Proofs.Ytplplholoimhhaa.fnExactRepackTrays
