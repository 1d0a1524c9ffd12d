/-
  For every slice of letters and every string, laws.FnExactSplitBatch returns true: the program's SplitBatch answers as the model of the document does, and its answer owns its memory. No condition.
-/
import Derived.Test.YtcgaohofpjbhkaaRows
import Derived.Test.YtcgaohofpjbhkaaSplit
import Derived.Test.YtcgaohofpjbhkaaMark
import Derived.Test.YtcgaohofpjbhkaaLetOpen
import Derived.WalkKit
import Derived.ProofKit
import Derived.OpenShut
import Derived.ShutString
import Derived.ChangeOld
import Derived.Below
import Derived.Handy
import Derived.Lib.Hide
namespace Go.Proofs.Ytcgaohofpjbhkaa.fnExactSplitBatch
open Go.ChangeShapes Go.WideShapes Go.ChangeAt Go.RowKit
open Go.ChangeMaps (open_string shut_string)
open Go.PlainAid (bt get_bt bt_nonneg bt_le)
set_option linter.unusedVariables false

theorem own : ownKnob Try.prog.godebug = none := by kernel_rfl
theorem laidOut : laidOutB Try.prog = true := by kernel_rfl

set_option maxHeartbeats 4000000 in
set_option maxRecDepth 100000 in
theorem walk (w : World) (a0 : Option Addr) (n0 k0 : Nat) (I0 : Nat → Int) (C0 : Nat → ByteArray) (w0 : Lts w a0 n0 I0 C0) (f0 : Fits n0 I0 C0) (z0 : n0 ≤ maxLen) (a1 : ByteArray) (w1 : a1.size ≤ maxLen) :
    Calls Try.prog 3 #[.slice a0 n0 k0, .string a1] w fun e w' => e = .returned (.bool true) ∧ Below w.heap.size w w' := by
  have HL := Lib.hid w0
  have HF := Lib.hid f0
  have ws := w1
  clear w0 f0 w1
  by_cases hl : 1048576 < a1.size
  · go_enter Try.func3, Try.ntmps3
    go_wp2
    go_ret
    exact ⟨rfl, Below.refl _ _⟩
  go_enter Try.func3, Try.ntmps3
  go_wp2_with fail
  refine (szLetterS_any _ _ _ _ _ _ HL.out HF.out z0 _ (by omega) (by omega)).mono ?_
  rintro e w1 ⟨r, rfl, hr, hr1, hb1⟩
  by_cases hneg : r < 0
  · go_wp2
    go_ret
    exact ⟨rfl, hb1⟩
  have hn : n0 ≤ 1048576 := by omega
  clear hr hr1 z0
  have hI := inS_le n0 I0 C0 a1
  have hO := outS_le n0 I0 C0 a1
  generalize hq1 : inS n0 I0 C0 a1 = L1 at hI
  generalize hq2 : outS n0 I0 C0 a1 = L2 at hO
  have Q1 := Lib.hid hq1
  have Q2 := Lib.hid hq2
  clear hq1 hq2
  obtain ⟨m1, hm1⟩ : ∃ m1 : Nat, 1 + 2 * L1.length = m1 := ⟨_, rfl⟩
  obtain ⟨m2, hm2⟩ : ∃ m2 : Nat, m1 + 2 * L2.length = m2 := ⟨_, rfl⟩
  obtain ⟨m0, hm0⟩ : ∃ m0 : Nat, 1 + 2 * n0 = m0 := ⟨_, rfl⟩
  have M0 : Hid (1 + 2 * (M.lst I0 C0 n0).length = m0) := by rw [M.lst_length]; exact hm0
  have M1 := Lib.hid hm1
  have M2 := Lib.hid hm2
  have b1 : 1 ≤ m1 := by omega
  have b2 : m1 ≤ 10000000 := by omega
  have hL1 : L1.length ≤ 1048576 := by omega
  have hL2 : L2.length ≤ 1048576 := by omega
  clear hm0 hm1 hm2
  have hle : (M.lst I0 C0 n0).length ≤ 1048576 := by rw [M.lst_length]; exact hn
  go_wp2_with fail
  refine (toLetterS_any _ _ _ _ _ _ (HL.out.on hb1) hn).mono ?_
  rintro e w2 ⟨b2, rfl, g2, o2, k2⟩
  have h2 := step hb1 k2
  go_wp2_with fail
  refine (spec_Split _ _ _ _ _ _ a1 o2.lts HF.out hn ws).mono ?_
  rw [Q1.out, Q2.out]
  rintro e w3 ⟨v1, v2, rfl, ra, rb, _, k3⟩
  have h3 := step h2 k3
  go_wp2_with fail
  refine (toLetterS_row _ _ _ _ _ _ (HL.out.on h3) hn).mono ?_
  rintro e w4 ⟨b4, rfl, rx, k4⟩
  have h4 := step h3 k4
  have ap_ra_rx : Apart _ _ := ra.older rx (Nat.le_refl _)
  have ap_rb_rx : Apart _ _ := rb.older rx (Nat.le_refl _)
  replace ra := ra.on k4
  replace rb := rb.on k4
  go_wp2_with fail
  refine (impl_Split _ _ _ _ _ _ a1 rx.lts_lst HF.out ws).mono ?_
  rw [Q1.out, Q2.out]
  rintro e w5 ⟨u1, u2, rfl, rc, rd, ap_rc_rd, k5⟩
  have h5 := step h4 k5
  have ap_ra_rc : Apart _ _ := ra.older rc (Nat.le_refl _)
  have ap_rb_rc : Apart _ _ := rb.older rc (Nat.le_refl _)
  have ap_rx_rc : Apart _ _ := rx.older rc (Nat.le_refl _)
  have ap_ra_rd : Apart _ _ := ra.older rd (Nat.le_refl _)
  have ap_rb_rd : Apart _ _ := rb.older rd (Nat.le_refl _)
  have ap_rx_rd : Apart _ _ := rx.older rd (Nat.le_refl _)
  replace ra := ra.on k5
  replace rb := rb.on k5
  replace rx := rx.on k5
  go_wp2_with fail
  refine (eqLetterS_row _ _ _ _ _ _ rc ra hL1).mono ?_
  rintro e w6 ⟨rfl, k6⟩
  have h6 := step h5 k6
  replace ra := ra.on k6
  replace rb := rb.on k6
  replace rx := rx.on k6
  replace rc := rc.on k6
  replace rd := rd.on k6
  go_wp2_with fail
  refine (eqLetterS_row _ _ _ _ _ _ rd rb hL2).mono ?_
  rintro e w7 ⟨rfl, k7⟩
  have h7 := step h6 k7
  replace ra := ra.on k7
  replace rb := rb.on k7
  replace rx := rx.on k7
  replace rc := rc.on k7
  replace rd := rd.on k7
  go_wp2_with fail
  refine (toLetterS_row _ _ _ _ _ _ (HL.out.on h7) hn).mono ?_
  rintro e w8 ⟨b8, rfl, ry, k8⟩
  have h8 := step h7 k8
  replace ra := ra.on k8
  replace rb := rb.on k8
  replace rx := rx.on k8
  replace rc := rc.on k8
  replace rd := rd.on k8
  go_wp2_with fail
  refine (eqLetterS_row _ _ _ _ _ _ rx ry hle).mono ?_
  rintro e w9 ⟨rfl, k9⟩
  have h9 := step h8 k9
  replace ra := ra.on k9
  replace rb := rb.on k9
  replace rx := rx.on k9
  replace rc := rc.on k9
  replace rd := rd.on k9
  go_wp2_with fail
  refine (markLetterS_row _ _ _ _ 1 rx hle (by omega) (by omega)).mono ?_
  rw [M0.out]
  rintro e w10 ⟨rfl, r10, g10⟩
  have h10 := below_grown h9 rx h3.size g10
  replace ra := ra.past ap_ra_rx g10
  replace rb := rb.past ap_rb_rx g10
  replace rc := rc.past ap_rx_rc.symm g10
  replace rd := rd.past ap_rx_rd.symm g10
  replace rx := r10
  go_wp2_with fail
  refine (eqLetterS_row _ _ _ _ _ _ rc ra hL1).mono ?_
  rintro e w11 ⟨rfl, k11⟩
  have h11 := step h10 k11
  replace ra := ra.on k11
  replace rb := rb.on k11
  replace rx := rx.on k11
  replace rc := rc.on k11
  replace rd := rd.on k11
  go_wp2_with fail
  refine (eqLetterS_row _ _ _ _ _ _ rd rb hL2).mono ?_
  rintro e w12 ⟨rfl, k12⟩
  have h12 := step h11 k12
  replace ra := ra.on k12
  replace rb := rb.on k12
  replace rx := rx.on k12
  replace rc := rc.on k12
  replace rd := rd.on k12
  go_wp2_with fail
  refine (markLetterS_row _ _ _ _ 1 rc hL1 (by omega) (by omega)).mono ?_
  rw [M1.out]
  rintro e w13 ⟨rfl, r13, g13⟩
  have h13 := below_grown h12 rc h4.size g13
  replace ra := ra.past ap_ra_rc g13
  replace rb := rb.past ap_rb_rc g13
  replace rx := rx.past ap_rx_rc g13
  replace rd := rd.past ap_rc_rd.symm g13
  replace rc := r13
  go_wp2_with fail
  refine (markLetterS_row _ _ _ _ m1 rd hL2 (by omega) (by omega)).mono ?_
  rw [M2.out]
  rintro e w14 ⟨rfl, r14, g14⟩
  have h14 := below_grown h13 rd h4.size g14
  replace ra := ra.past ap_ra_rd g14
  replace rb := rb.past ap_rb_rd g14
  replace rx := rx.past ap_rx_rd g14
  replace rc := rc.past ap_rc_rd g14
  replace rd := r14
  go_wp2_with fail
  refine (heldLetterS_row _ _ _ 1 L1.length rc hL1 (by omega) (by omega)).mono ?_
  rw [M1.out]
  rintro e w15 ⟨rfl, k15⟩
  have h15 := step h14 k15
  replace ra := ra.on k15
  replace rb := rb.on k15
  replace rx := rx.on k15
  replace rc := rc.on k15
  replace rd := rd.on k15
  go_wp2_with fail
  refine (heldLetterS_row _ _ _ m1 L2.length rd hL2 (by omega) (by omega)).mono ?_
  rw [M2.out]
  rintro e w16 ⟨rfl, k16⟩
  have h16 := step h15 k16
  replace ra := ra.on k16
  replace rb := rb.on k16
  replace rx := rx.on k16
  replace rc := rc.on k16
  replace rd := rd.on k16
  go_wp2_with fail
  refine (toLetterS_row _ _ _ _ _ _ (HL.out.on h16) hn).mono ?_
  rintro e w17 ⟨b17, rfl, rz, k17⟩
  have h17 := step h16 k17
  replace ra := ra.on k17
  replace rb := rb.on k17
  replace rx := rx.on k17
  replace rc := rc.on k17
  replace rd := rd.on k17
  go_wp2_with fail
  refine (impl_Split _ _ _ _ _ _ a1 rz.lts_lst HF.out ws).mono ?_
  rw [Q1.out, Q2.out]
  rintro e w18 ⟨z1, z2, rfl, re, rf, _, k18⟩
  have h18 := step h17 k18
  replace ra := ra.on k18
  replace rb := rb.on k18
  replace rx := rx.on k18
  replace rc := rc.on k18
  replace rd := rd.on k18
  go_wp2_with fail
  refine (eqLetterS_row _ _ _ _ _ _ re ra hL1).mono ?_
  rintro e w19 ⟨rfl, k19⟩
  have h19 := step h18 k19
  replace ra := ra.on k19
  replace rb := rb.on k19
  replace rx := rx.on k19
  replace rc := rc.on k19
  replace rd := rd.on k19
  replace rf := rf.on k19
  go_wp2_with fail
  refine (eqLetterS_row _ _ _ _ _ _ rf rb hL2).mono ?_
  rintro e w20 ⟨rfl, k20⟩
  have h20 := step h19 k20
  replace ra := ra.on k20
  replace rb := rb.on k20
  replace rx := rx.on k20
  replace rc := rc.on k20
  replace rd := rd.on k20
  go_wp2_with fail
  refine (heldLetterS_row _ _ _ 1 L1.length rc hL1 (by omega) (by omega)).mono ?_
  rw [M1.out]
  rintro e w21 ⟨rfl, k21⟩
  have h21 := step h20 k21
  replace ra := ra.on k21
  replace rb := rb.on k21
  replace rx := rx.on k21
  replace rc := rc.on k21
  replace rd := rd.on k21
  go_wp2_with fail
  refine (heldLetterS_row _ _ _ m1 L2.length rd hL2 (by omega) (by omega)).mono ?_
  rw [M2.out]
  rintro e w22 ⟨rfl, k22⟩
  have h22 := step h21 k22
  replace ra := ra.on k22
  replace rb := rb.on k22
  replace rx := rx.on k22
  replace rc := rc.on k22
  replace rd := rd.on k22
  go_wp2
  go_ret
  exact ⟨rfl, h22⟩

set_option maxRecDepth 100000 in
theorem lifted (os : Os) (started : os.Started) (H : Type) (enc : TypeId × Value → H) :
    ReturnsInHanded {} Try.checked os 3 .any (Rows.fnExactSplitBatchSpec.pre6 enc Try.prog Try.f3 Rows.fnExactSplitBatchRow.domain false) (Rows.fnExactSplitBatchSpec.post enc Try.prog Try.f3 false true false false) := by
  refine returnsInHanded_of_change (C := Try.checked) own started (by kernel_rfl) Try.func3
    (ChangeSpec.witness6 (enc := enc) (C := Try.checked) false ⟨#[], #[.slice none 0 0, .string ByteArray.empty], []⟩ 8 (by kernel_rfl) (by kernel_rfl) (by kernel_rfl) (by kernel_rfl)) ?_
  intro W base args ds gs before hval0 hW hcnd _
  have hval : ∀ (j : Nat) t v, Try.f3.params[j]? = some t → args[j]? = some v → Value.okWide Try.prog W .any base t v := hval0
  have hW' := hW
  obtain ⟨p, q, hA0, hV, rfl, hfz, hnd⟩ := hW
  have hA : DataW.TrodAll enc Try.prog W 0 (fun _ => true) true Try.f3.params.toList args.toList ds p := hA0
  rw [Try.params3] at hA hval
  obtain ⟨v0, vs0, d0, ds0, p0, q0, hargs, rfl, rfl, h0, r0⟩ := trodAll_cons hA
  obtain ⟨v1, vs1, d1, ds1, p1, q1, rfl, rfl, rfl, h1, r1⟩ := trodAll_cons r0
  obtain ⟨rfl, rfl, rfl⟩ := trodAll_nil r1
  obtain rfl : args = #[v0, v1] := by cases args; simp_all
  obtain ⟨rfl, rfl⟩ := trodVars_none hV
  have g0 := h0
  have lt0 : ∀ x ∈ p0, x.block < W.heap.size := by obtain ⟨m, hm⟩ := g0; exact DataW.trod_lt m _ _ _ hm
  have g1 := h1
  have lt1 : ∀ x ∈ p1, x.block < W.heap.size := by obtain ⟨m, hm⟩ := g1; exact DataW.trod_lt m _ _ _ hm
  obtain ⟨a0, n0, k0, rfl⟩ := okWide_slice Try.underlying22 (hval 0 22 v0 rfl rfl)
  obtain ⟨I0, C0, w0, f0, z0⟩ : ∃ I C, Lts W a0 n0 I C ∧ Fits n0 I C ∧ n0 ≤ maxLen := by
    obtain ⟨fuel, hf⟩ := h0
    exact open_letters hf
  obtain ⟨a1, rfl, _, _, w1⟩ := open_string Try.underlying9 (hval 1 9 v1 rfl rfl) h1
  clear hA0 hval0
  refine (walk W a0 n0 k0 I0 C0 w0 f0 z0 a1 w1).mono fun e W' ⟨he, bel⟩ => ?_
  subst he
  exact ⟨_, rfl, _, _, _, [], _, [], hW', trodAll_mk1 (shut_bool Try.underlying4 _), (trodAll_cons_mk (Below.trod laidOut (by kernel_rfl) (of_decide_eq_true (by kernel_rfl)) g0 bel lt0) (trodAll_cons_mk (Below.trod laidOut (by kernel_rfl) (of_decide_eq_true (by kernel_rfl)) g1 bel lt1) trodAll_mk0)), rfl, bel.frame _, fun h => by cases h⟩

theorem proved : Rows.FnExactSplitBatchSaid :=
  OpenClaim.holds_of_wide 3 Try.f3 rfl rfl rfl rfl rfl rfl rfl ⟨rfl, rfl, rfl, rfl, rfl⟩ rfl rfl rfl rfl rfl (by kernel_rfl) Try.func3 (by kernel_rfl)
    (of_decide_eq_true (by kernel_rfl)) (by unfold Func.isWrapper; first | (rw [if_pos (by decide +kernel)]; kernel_rfl) | (rw [if_neg (by decide +kernel)]; exact ⟨rfl, rfl⟩))
    (fun os started H enc _ => lifted os started H enc)
#print axioms proved
end Go.Proofs.Ytcgaohofpjbhkaa.fnExactSplitBatch
