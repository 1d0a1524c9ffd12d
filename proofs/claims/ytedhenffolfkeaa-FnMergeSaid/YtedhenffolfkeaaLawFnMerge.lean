/-
  For every slice of bytes, laws.FnMerge returns true.
-/
import Derived.Test.YtedhenffolfkeaaRows
import Derived.Test.YtedhenffolfkeaaMgD
import Derived.Test.YtedhenffolfkeaaSo
import Derived.BigQuiet
import Derived.IntWalk
import Derived.WalkKit
import Derived.ProofKit
import Derived.OpenShut
import Derived.ShutString
import Derived.ChangeOld
import Derived.Below
import Derived.Handy
import Derived.Lib.Hide
namespace Go.Proofs.Ytedhenffolfkeaa.fnMerge
open Go.ChangeShapes Go.WideShapes Go.ChangeAt Go.RowKit
open Go.ChangeMaps (open_string shut_string)
open Go.PlainAid (bt get_bt bt_nonneg bt_le)
set_option linter.unusedVariables false

theorem own : ownKnob Try.prog.godebug = none := by kernel_rfl
theorem laidOut : laidOutB Try.prog = true := by kernel_rfl

set_option maxHeartbeats 40000000 in
set_option maxRecDepth 100000 in
theorem walk (w : World) (a0 : Option Addr) (l0 k0 : Nat) (z0 : List Int) (w0 : IsRow .u8 w a0 l0 k0 z0) :
    Calls Try.prog 5 #[.slice a0 l0 k0] w fun e w' => e = .returned (.bool true) ∧ Below w.heap.size w w' := by
  by_cases hl : 1048576 < l0
  · go_enter Try.func5, Try.ntmps5
    go_wp2
    go_ret
    exact ⟨rfl, Below.refl _ _⟩
  go_enter Try.func5, Try.ntmps5
  go_wp2_with fail
  refine (DrawMergeBatches_any a0 l0 k0 z0 w w0).mono ?_
  rintro e u ⟨va, A, bA, vb, B, bB, rfl, ra, la, sa, rb, lb, sb, bl⟩
  obtain ⟨a, c, rfl, hca, lta⟩ := ra.form
  obtain ⟨a2, c2, rfl, hcb, ltb⟩ := rb.form
  have LA := Lib.hid lta
  have LB := Lib.hid ltb
  have FA := Lib.hid (small_fits sa)
  have FB := Lib.hid (small_fits sb)
  have BL := Lib.hid bl
  have hA2 : A.length ≤ 1048576 := by omega
  have hB2 : B.length ≤ 1048576 := by omega
  clear bl ra rb lta ltb sa sb
  have HI := Lib.hid (fun X h1 h2 => impl_MergeBatches X a A.length c (nI A) (nC A) h1 FA.out a2 B.length c2 (nI B) (nC B) h2 FB.out)
  have HS := Lib.hid (fun X h1 h2 => spec_MergeBatches X a A.length c (nI A) (nC A) h1 FA.out hA2 hca a2 B.length c2 (nI B) (nC B) h2 FB.out hB2 hcb)
  have hml := fun h => merge_law (A := A) (B := B) h
  have hr60 := mrgL_le A.length (nI A) (nC A) B.length (nI B) (nC B)
  obtain ⟨ok, hok⟩ : ∃ ok, M.mrgOk A.length (nI A) (nC A) B.length (nI B) (nC B) = ok := ⟨_, rfl⟩
  obtain ⟨R, hR⟩ : ∃ R, M.mrgL A.length (nI A) (nC A) B.length (nI B) (nC B) = R := ⟨_, rfl⟩
  rw [hok, hR] at HI HS
  rw [hok] at hml
  rw [hR] at hr60 hml
  have hR2 : R.length ≤ 1048576 := by omega
  clear hok hR
  cases ok
  · clear hml
    go_wp2_with fail
    refine (HI.out _ LA.out LB.out).mono ?_
    rintro e v1 ⟨p1, rfl, r1, k1⟩
    replace BL := Lib.hid (step BL.out k1)
    replace LA := Lib.hid (LA.out.on k1)
    replace LB := Lib.hid (LB.out.on k1)
    have R1 := Lib.hid r1
    clear k1
    go_wp2_with fail
    refine (HS.out _ LA.out LB.out).mono ?_
    rintro e v2 ⟨p2, rfl, r2, k2⟩
    replace BL := Lib.hid (step BL.out k2)
    replace LA := Lib.hid (LA.out.on k2)
    replace LB := Lib.hid (LB.out.on k2)
    replace R1 := Lib.hid (R1.out.on k2)
    have R2 := Lib.hid r2
    clear k2
    clear r1 r2
    go_wp2_with fail
    refine (soBatch_row _ _ _ _ _ _ R1.out R2.out hR2).mono ?_
    rintro e v3 ⟨rfl, k3⟩
    replace BL := Lib.hid (step BL.out k3)
    replace LA := Lib.hid (LA.out.on k3)
    replace LB := Lib.hid (LB.out.on k3)
    replace R1 := Lib.hid (R1.out.on k3)
    replace R2 := Lib.hid (R2.out.on k3)
    clear k3
    go_wp2_with fail
    refine (soBatch_row _ _ _ _ _ _ R1.out R2.out hR2).mono ?_
    rintro e v4 ⟨rfl, k4⟩
    replace BL := Lib.hid (step BL.out k4)
    replace LA := Lib.hid (LA.out.on k4)
    replace LB := Lib.hid (LB.out.on k4)
    replace R1 := Lib.hid (R1.out.on k4)
    replace R2 := Lib.hid (R2.out.on k4)
    clear k4
    go_wp2
    go_ret
    exact ⟨rfl, BL.out⟩
  · obtain ⟨R', hR', m1, m2, m3, m4, m5, m6, m7⟩ := hml rfl
    subst hR'
    have M3 := Lib.hid m3
    have M4 := Lib.hid m4
    have M5 := Lib.hid m5
    have M6 := Lib.hid m6
    have M7 := Lib.hid m7
    have M1 := Lib.hid m1
    clear hml m3 m4 m5 m6 m7 m1
    go_wp2_with fail
    refine (HI.out _ LA.out LB.out).mono ?_
    rintro e v1 ⟨p1, rfl, r1, k1⟩
    replace BL := Lib.hid (step BL.out k1)
    replace LA := Lib.hid (LA.out.on k1)
    replace LB := Lib.hid (LB.out.on k1)
    have R1 := Lib.hid r1
    clear k1
    go_wp2_with fail
    refine (HS.out _ LA.out LB.out).mono ?_
    rintro e v2 ⟨p2, rfl, r2, k2⟩
    replace BL := Lib.hid (step BL.out k2)
    replace LA := Lib.hid (LA.out.on k2)
    replace LB := Lib.hid (LB.out.on k2)
    replace R1 := Lib.hid (R1.out.on k2)
    have R2 := Lib.hid r2
    clear k2
    clear r1 r2
    go_wp2_with fail
    refine (soBatch_row _ _ _ _ _ _ R1.out R2.out hR2).mono ?_
    rintro e v3 ⟨rfl, k3⟩
    replace BL := Lib.hid (step BL.out k3)
    replace LA := Lib.hid (LA.out.on k3)
    replace LB := Lib.hid (LB.out.on k3)
    replace R1 := Lib.hid (R1.out.on k3)
    replace R2 := Lib.hid (R2.out.on k3)
    clear k3
    clear R2 HS
    obtain ⟨a5, c5, hp5, hc5, l5⟩ := R1.out.form
    subst hp5
    have L5 := Lib.hid l5
    clear l5
    obtain ⟨Z, hZ⟩ : ∃ Z, v3 = Z := ⟨_, rfl⟩
    rw [hZ] at LA LB R1 L5 BL ⊢
    have BZ := Lib.hid (below_alloc0 Z (.cells #[] 29))
    have LAZ := Lib.hid (LA.out.on BZ.out)
    have E0 := Lib.hid (one_empty Z)
    clear hZ
    have hA61 : A.length ≤ 61 := la
    have hB61 : B.length ≤ 61 := lb
    have hnl : ([] : List (Int × ByteArray)).length = 0 := rfl
    go_wp2_with (first
      | (at_builtin; refine wpList_append_lts _ rfl _ _ rfl Z.heap.size _ A rfl R7.out a2 B.length c2 (nI B) (nC B) rfl LB7.out (by omega) (by omega) ?_; intro v8 w8 hr8 hg8 ho8)
      | (at_builtin; refine wpList_append_lts _ rfl _ _ rfl Z.heap.size _ [] rfl E0.out a A.length c (nI A) (nC A) rfl LAZ.out (by simp; omega) (by simp) ?_; intro v7 w7 hr7 hg7 ho7; (have R7 : Hid (Row w7 Z.heap.size v7 A) := by (have h5 := hr7; first | exact h5 | (rw [lst_nI] at h5; exact h5) | (simp [lst_nI] at h5; exact h5))); (have B7 := Lib.hid (BZ.out.trans (grown_r hg7 (fun j e => by have e' : some Z.heap.size = some j := e; injection e' with e'; omega) (by simp)))); (have LB7 := Lib.hid (LB.out.on B7.out)); (have HV7 : Hid (∀ b, v7.ownBlock = some b → Z.heap.size ≤ b) := fun b e => (R7.out.lt b e).1); have hz7 := B7.out.size; clear hr7 hg7 ho7))
    have B8 := Lib.hid (B7.out.trans (grown_r hg8 (fun j e => by have := HV7.out j e; omega) (by omega)))
    have R8 : Hid (Row w8 Z.heap.size v8 (A ++ B)) := by
      have h5 := hr8
      first
        | exact h5
        | (rw [lst_nI] at h5; exact h5)
    obtain ⟨a8, c8, hv8, _, l8⟩ := R8.out.form
    subst hv8
    rw [List.length_append] at l8
    have L8 := Lib.hid l8
    have R1b := Lib.hid (R1.out.on B8.out)
    have L5b := Lib.hid (L5.out.on B8.out)
    have BL8 := Lib.hid (step BL.out B8.out)
    clear hr8 hg8 ho8 l8 R7 R8 LB7 E0 LAZ BZ B7 HV7 R1 L5 BL LA LB
    go_wp2_with fail
    refine (impl_MergeBatches w8 a5 R.length c5 (nI R) (nC R) L5b.out M3.out none 0 0 (nI []) (nC []) (fun i hi => absurd hi (by omega)) (fun i hi => absurd hi (by omega))).mono ?_
    rw [M5.out, M6.out]
    rintro e w9 ⟨p9, rfl, r9, k9⟩
    have R9 := Lib.hid r9
    have R1c := Lib.hid (R1b.out.on k9)
    have L8c := Lib.hid (L8.out.on k9)
    have BL9 := Lib.hid (step BL8.out k9)
    clear r9 k9 R1b L5b L8 BL8
    go_wp2_with fail
    refine (soSorted_any w9 a8 (A.length + B.length) c8 _ _ L8c.out M7.out).mono ?_
    rw [M4.out]
    rintro e wA ⟨pA, rfl, rA, kA⟩
    have RA := Lib.hid rA
    have R1d := Lib.hid (R1c.out.on kA)
    have R9d := Lib.hid (R9.out.on kA)
    have BLA := Lib.hid (step BL9.out kA)
    clear rA kA R1c R9 L8c BL9
    go_wp2_with fail
    refine (soBatch_row _ _ _ _ _ _ R1d.out RA.out hR2).mono ?_
    rintro e wB ⟨rfl, kB⟩
    have R1e := Lib.hid (R1d.out.on kB)
    have R9e := Lib.hid (R9d.out.on kB)
    have BLB := Lib.hid (step BLA.out kB)
    clear kB R1d R9d RA BLA
    go_wp2_with fail
    refine (soBatch_row _ _ _ _ _ _ R9e.out R1e.out hR2).mono ?_
    rintro e wC ⟨rfl, kC⟩
    have BLC := Lib.hid (step BLB.out kC)
    clear kC R1e R9e BLB
    have hm := M1.out
    have hw : IntKind.i64.wrap ((A.length : Int) + (B.length : Int)) = (R.length : Int) := by rw [IntWalk.i64_in _ (by omega)]; omega
    have hw2 : (A.length : Int) + (B.length : Int) = (R.length : Int) := by omega
    have hw3 : ((R.length : Int) == (R.length : Int)) = true := by simp
    clear hm
    go_wp2
    go_ret
    exact ⟨rfl, BLC.out⟩

set_option maxRecDepth 100000 in
theorem lifted (os : Os) (started : os.Started) (H : Type) (enc : TypeId × Value → H) :
    ReturnsInHanded {} Try.checked os 5 .any (Rows.fnMergeSpec.pre6 enc Try.prog Try.f5 Rows.fnMergeRow.domain false) (Rows.fnMergeSpec.post enc Try.prog Try.f5 false true false false) := by
  refine returnsInHanded_of_change (C := Try.checked) own started (by kernel_rfl) Try.func5
    (ChangeSpec.witness6 (enc := enc) (C := Try.checked) false ⟨#[], #[.slice none 0 0], []⟩ 8 (by kernel_rfl) (by kernel_rfl) (by kernel_rfl) (by kernel_rfl)) ?_
  intro W base args ds gs before hval0 hW hcnd _
  have hval : ∀ (j : Nat) t v, Try.f5.params[j]? = some t → args[j]? = some v → Value.okWide Try.prog W .any base t v := hval0
  have hW' := hW
  obtain ⟨p, q, hA0, hV, rfl, hfz, hnd⟩ := hW
  have hA : DataW.TrodAll enc Try.prog W 0 (fun _ => true) true Try.f5.params.toList args.toList ds p := hA0
  rw [Try.params5] at hA hval
  obtain ⟨v0, vs0, d0, ds0, p0, q0, hargs, rfl, rfl, h0, r0⟩ := trodAll_cons hA
  obtain ⟨rfl, rfl, rfl⟩ := trodAll_nil r0
  obtain rfl : args = #[v0] := by cases args; simp_all
  obtain ⟨rfl, rfl⟩ := trodVars_none hV
  have g0 := h0
  have lt0 : ∀ x ∈ p0, x.block < W.heap.size := by obtain ⟨m, hm⟩ := g0; exact DataW.trod_lt m _ _ _ hm
  obtain ⟨a0, l0, k0, rfl⟩ := okWide_slice Try.underlying22 (hval 0 22 v0 rfl rfl)
  obtain ⟨z0, w0⟩ : ∃ zs, IsRow .u8 W a0 l0 k0 zs := by
    obtain ⟨fuel, hf⟩ := h0
    rcases open_ints Try.underlying22 Try.underlying5 (by kernel_rfl) hf with ⟨hcs, _⟩ | ⟨x, l, c, zs, hcs, _, hl, hm, hz, _, hcell, hwz⟩
    · simp [Value.cells] at hcs
      obtain ⟨rfl, rfl, rfl⟩ := hcs
      exact ⟨[], .inl ⟨rfl, rfl, rfl, rfl⟩⟩
    · simp [Value.cells] at hcs
      obtain ⟨rfl, rfl, rfl⟩ := hcs
      exact ⟨zs, .inr ⟨_, rfl, hl, hm, by simpa using hz, hcell, hwz⟩⟩
  clear hA0 hval0
  refine (walk W a0 l0 k0 z0 w0).mono fun e W' ⟨he, bel⟩ => ?_
  subst he
  exact ⟨_, rfl, _, _, _, [], _, [], hW', trodAll_mk1 (shut_bool Try.underlying4 _), (trodAll_cons_mk (Below.trod laidOut (by kernel_rfl) (of_decide_eq_true (by kernel_rfl)) g0 bel lt0) trodAll_mk0), rfl, bel.frame _, fun h => by cases h⟩

theorem proved : Rows.FnMergeSaid :=
  OpenClaim.holds_of_wide 5 Try.f5 rfl rfl rfl rfl rfl rfl rfl ⟨rfl, rfl, rfl, rfl, rfl⟩ rfl rfl rfl rfl rfl (by kernel_rfl) Try.func5 (by kernel_rfl)
    (of_decide_eq_true (by kernel_rfl)) (by unfold Func.isWrapper; first | (rw [if_pos (by decide +kernel)]; kernel_rfl) | (rw [if_neg (by decide +kernel)]; exact ⟨rfl, rfl⟩))
    (fun os started H enc _ => lifted os started H enc)
#print axioms proved
end Go.Proofs.Ytedhenffolfkeaa.fnMerge
