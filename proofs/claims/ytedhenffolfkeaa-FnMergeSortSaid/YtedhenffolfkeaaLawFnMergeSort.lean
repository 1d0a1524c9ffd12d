/-
  For every two slices of bytes, laws.FnMergeSort returns true.
-/
import Derived.Test.YtedhenffolfkeaaRows
import Derived.Test.YtedhenffolfkeaaStbJ
import Derived.Test.YtedhenffolfkeaaSo
import Derived.Test.YtedhenffolfkeaaSmpM
import Derived.Deep.RegionHeld3
import Derived.BigQuiet
import Derived.WalkKit
import Derived.ProofKit
import Derived.OpenShut
import Derived.ShutString
import Derived.ChangeOld
import Derived.Below
import Derived.Handy
import Derived.Lib.Hide
namespace Go.Proofs.Ytedhenffolfkeaa.fnMergeSort
open Go.ChangeShapes Go.WideShapes Go.ChangeAt Go.RowKit
open Go.ChangeMaps (open_string shut_string)
open Go.PlainAid (bt get_bt bt_nonneg bt_le)
set_option linter.unusedVariables false

theorem own : ownKnob Try.prog.godebug = none := by kernel_rfl
theorem laidOut : laidOutB Try.prog = true := by kernel_rfl

set_option maxHeartbeats 40000000 in
set_option maxRecDepth 100000 in
theorem walk (w : World) (a0 : Option Addr) (l0 k0 : Nat) (z0 : List Int) (w0 : IsRow .u8 w a0 l0 k0 z0) (a1 : Option Addr) (l1 k1 : Nat) (z1 : List Int) (w1 : IsRow .u8 w a1 l1 k1 z1) :
    Calls Try.prog 6 #[.slice a0 l0 k0, .slice a1 l1 k1] w fun e w' => e = .returned (.bool true) ∧ Below w.heap.size w w' := by
  by_cases hl : 1048576 < l0
  · go_enter Try.func6, Try.ntmps6
    go_wp2
    go_ret
    exact ⟨rfl, Below.refl _ _⟩
  by_cases hm : 1048576 < l1
  · go_enter Try.func6, Try.ntmps6
    go_wp2
    go_ret
    exact ⟨rfl, Below.refl _ _⟩
  clear w1
  go_enter Try.func6, Try.ntmps6
  go_wp2_with fail
  refine (DrawSortBatch_row a0 l0 k0 z0 w w0).mono ?_
  rintro e u ⟨v, base, L, rfl, hrow, hn, hfi, bl⟩
  obtain ⟨a, c, hv, hcap, hlt⟩ := hrow.form
  have hnil : a = none → L.length = 0 ∧ c = 0 := fun e => by
    rcases hrow.2 with ⟨e2, h0⟩ | ⟨g, cap, cur, e2, _⟩
    · rw [hv] at e2
      injection e2 with e3 e4 e5
      exact ⟨e4, e5⟩
    · rw [hv, e] at e2
      injection e2 with e3
      cases e3
  subst hv
  have LT := Lib.hid hlt
  have FI : Hid (Fits L.length (nI L) (nC L)) := hfi
  have BL := Lib.hid bl
  have hn2 : L.length ≤ 1048576 := by omega
  clear hrow hfi bl hlt
  cases hok : M.batch L.length (nI L) (nC L)
  · have HR : Hid (∀ W, RowRes W (M.batch L.length (nI L) (nC L)) (M.sortL L.length (nI L) (nC L)) = RowRes W false []) := fun W => by rw [sortL_no hok, hok]
    have hq1 : ([] : List (Int × ByteArray)).length ≤ 1048576 := by simp
    clear hok
    go_wp2_with fail
    refine (impl_SortBatch _ a L.length c (nI L) (nC L) LT.out FI.out).mono ?_
    rw [HR.out]
    rintro e v1 ⟨p1, rfl, r1, k1⟩
    replace BL := Lib.hid (step BL.out k1)
    replace LT := Lib.hid (LT.out.on k1)
    have R1 := Lib.hid r1
    clear k1
    obtain ⟨a4, c4, rfl, _, _⟩ := r1.form
    clear r1
    go_wp2_with fail
    refine (spec_SortBatch_all _ a L.length c (nI L) (nC L) LT.out FI.out hn2).mono ?_
    rw [HR.out]
    rintro e v2 ⟨p2, rfl, r2, k2⟩
    replace BL := Lib.hid (step BL.out k2)
    replace LT := Lib.hid (LT.out.on k2)
    replace R1 := Lib.hid (R1.out.on k2)
    have R2 := Lib.hid r2
    clear k2
    clear r2
    go_wp2_with fail
    refine (soBatch_row _ _ _ _ _ _ R1.out R2.out hq1).mono ?_
    rintro e v3 ⟨rfl, k3⟩
    replace BL := Lib.hid (step BL.out k3)
    replace LT := Lib.hid (LT.out.on k3)
    replace R1 := Lib.hid (R1.out.on k3)
    replace R2 := Lib.hid (R2.out.on k3)
    clear k3
    go_wp2_with fail
    refine (soBatch_row _ _ _ _ _ _ R1.out R2.out hq1).mono ?_
    rintro e v4 ⟨rfl, k4⟩
    replace BL := Lib.hid (step BL.out k4)
    replace LT := Lib.hid (LT.out.on k4)
    replace R1 := Lib.hid (R1.out.on k4)
    replace R2 := Lib.hid (R2.out.on k4)
    clear k4
    go_wp2
    go_ret
    exact ⟨rfl, BL.out⟩
  · have hbl := (batchL_list L).1 hok
    have h60 := hbl.2.2
    have hsl : M.sortL L.length (nI L) (nC L) = sortS L := by rw [sortL_yes hok, lst_nI]
    obtain ⟨R, hRR⟩ : ∃ R, sortS L = R := ⟨_, rfl⟩
    have hpm : R.Perm L := by rw [← hRR]; exact sortS_perm hbl
    have hRb : BatchL R := by rw [← hRR]; exact sorted_batch hbl
    have HR : Hid (∀ W, RowRes W (M.batch L.length (nI L) (nC L)) (M.sortL L.length (nI L) (nC L)) = RowRes W true R) := fun W => by rw [hsl, hRR, hok]
    have hsl2 : M.sortL R.length (nI R) (nC R) = R := by rw [sortL_yes ((batchL_list R).2 hRb), lst_nI, ← hRR, sortS_twice hbl]
    have hsd : M.sorted R.length (nI R) (nC R) = true := by rw [← hRR]; exact sorted_true hbl
    have HNX := Lib.hid (fun i (hi : i + 1 < R.length) => sorted_next hbl hRR hi)
    have HRS := Lib.hid hRR
    have HS2 := Lib.hid hsl2
    have HSD := Lib.hid hsd
    have HBL := Lib.hid hbl
    have HPM := Lib.hid hpm
    have HRB := Lib.hid hRb
    have hR60 := hRb.2.2
    have hq1 : R.length ≤ 1048576 := by omega
    obtain ⟨q, hq⟩ : ∃ q, l1 % (L.length + 1) = q := ⟨_, rfl⟩
    have hql : q ≤ L.length := by have := Nat.mod_lt l1 (show 0 < L.length + 1 by omega); omega
    have hqt : (l1 : Int).tmod ((L.length : Int) + 1) = (q : Int) := by rw [← hq]; exact (Int.ofNat_tmod l1 (L.length + 1)).symm
    have hq61 : q ≤ 61 := by omega
    have hw0 : IntKind.i64.wrap ((L.length : Int) + 1) = (L.length : Int) + 1 := IntWalk.i64_in _ (by omega)
    have hw1 : IntKind.i64.wrap (q : Int) = (q : Int) := IntWalk.i64_in _ (by omega)
    have hz1 : ¬ ((L.length : Int) + 1 = 0) := by omega
    obtain ⟨a', hs1, hs2, _, _⟩ := lets_cut u a L.length c q L rfl hcap hql hnil LT.out
    have HCT := Lib.hid (fun W (hW : Lts W a L.length (nI L) (nC L)) => lets_cut W a L.length c q L rfl hcap hql hnil hW)
    have hsp : BatchL (L.take q ++ L.drop q) := by rw [List.take_append_drop]; exact hbl
    have hmp := merge_parts hsp
    rw [List.take_append_drop, hRR] at hmp
    have hbA := hsp.left
    have hbB := hsp.right
    have hlA : (L.take q).length = q := by rw [List.length_take]; omega
    have hlB : (L.drop q).length = L.length - q := List.length_drop ..
    have hsA : M.sortL q (nI (L.take q)) (nC (L.take q)) = sortS (L.take q) := by
      have e := lst_nI (L.take q)
      rw [hlA] at e
      rw [sortL_yes ((batch_list hlA).2 hbA), e]
    have hsB : M.sortL (L.length - q) (nI (L.drop q)) (nC (L.drop q)) = sortS (L.drop q) := by
      have e := lst_nI (L.drop q)
      rw [hlB] at e
      rw [sortL_yes ((batch_list hlB).2 hbB), e]
    have hfA : Fits q (nI (L.take q)) (nC (L.take q)) := by have := hbA.fits; rw [hlA] at this; exact this
    have hfB : Fits (L.length - q) (nI (L.drop q)) (nC (L.drop q)) := by have := hbB.fits; rw [hlB] at this; exact this
    have hsbA := sorted_batch hbA
    have hsbB := sorted_batch hbB
    obtain ⟨SA, hSA⟩ : ∃ X, sortS (L.take q) = X := ⟨_, rfl⟩
    obtain ⟨SB, hSB⟩ : ∃ X, sortS (L.drop q) = X := ⟨_, rfl⟩
    rw [hSA] at hmp hsA hsbA
    rw [hSB] at hmp hsB hsbB
    obtain ⟨nA, hnA⟩ : ∃ n, SA.length = n := ⟨_, rfl⟩
    obtain ⟨nB, hnB⟩ : ∃ n, SB.length = n := ⟨_, rfl⟩
    have HCA : Hid (∀ W, Lts W a q (nI (L.take q)) (nC (L.take q)) → Calls Try.prog 18 #[.slice a q c] W fun e w' => ∃ a5 c5, e = .returned (.slice a5 nA c5) ∧ Lts w' a5 nA (nI SA) (nC SA) ∧ Below W.heap.size W w') := fun W h => by
      have := soSorted_any W a q c _ _ h hfA
      rw [hsA] at this
      refine this.mono fun e w' ⟨v, he, hr, hb⟩ => ?_
      obtain ⟨a5, c5, rfl, _, hl⟩ := hr.form
      rw [hnA] at hl he
      exact ⟨a5, c5, he, hl, hb⟩
    have HCB : Hid (∀ W, Lts W a' (L.length - q) (nI (L.drop q)) (nC (L.drop q)) → Calls Try.prog 18 #[.slice a' (L.length - q) (c - q)] W fun e w' => ∃ a5 c5, e = .returned (.slice a5 nB c5) ∧ Lts w' a5 nB (nI SB) (nC SB) ∧ Below W.heap.size W w') := fun W h => by
      have := soSorted_any W a' (L.length - q) (c - q) _ _ h hfB
      rw [hsB] at this
      refine this.mono fun e w' ⟨v, he, hr, hb⟩ => ?_
      obtain ⟨a5, c5, rfl, _, hl⟩ := hr.form
      rw [hnB] at hl he
      exact ⟨a5, c5, he, hl, hb⟩
    have HCM : Hid (∀ W a5 c5 a6 c6, Lts W a5 SA.length (nI SA) (nC SA) → Lts W a6 SB.length (nI SB) (nC SB) → Calls Try.prog 21 #[.slice a5 SA.length c5, .slice a6 SB.length c6] W (RowRes W true R)) := fun W a5 c5 a6 c6 h1 h2 => by
      have := impl_MergeBatches W a5 SA.length c5 _ _ h1 hsbA.fits a6 SB.length c6 _ _ h2 hsbB.fits
      rw [hmp.1, hmp.2] at this
      exact this
    have HS1 := Lib.hid hs1
    have HS2' := Lib.hid hs2
    rw [hnA, hnB] at HCM
    have HNA := Lib.hid hnA
    have HNB := Lib.hid hnB
    obtain ⟨nq, hnq⟩ : ∃ n, L.length - q = n := ⟨_, rfl⟩
    rw [hnq] at HCB HS2' HCT
    clear hnq hnA hnB hSA hSB hs1 hs2 hsA hsB hlA hlB hfA hfB hsbA hsbB hbA hbB hsp hmp hq
    clear hbl hpm hRb hRR hsl hsl2 hsd hok HNX HRS HS2 HSD HBL HPM HRB
    go_wp2_with fail
    refine (impl_SortBatch _ a L.length c (nI L) (nC L) LT.out FI.out).mono ?_
    rw [HR.out]
    rintro e v1 ⟨p1, rfl, r1, k1⟩
    replace BL := Lib.hid (step BL.out k1)
    replace LT := Lib.hid (LT.out.on k1)
    have R1 := Lib.hid r1
    clear k1
    obtain ⟨a4, c4, rfl, _, _⟩ := r1.form
    clear r1
    go_wp2_with fail
    refine (spec_SortBatch_all _ a L.length c (nI L) (nC L) LT.out FI.out hn2).mono ?_
    rw [HR.out]
    rintro e v2 ⟨p2, rfl, r2, k2⟩
    replace BL := Lib.hid (step BL.out k2)
    replace LT := Lib.hid (LT.out.on k2)
    replace R1 := Lib.hid (R1.out.on k2)
    have R2 := Lib.hid r2
    clear k2
    clear r2
    go_wp2_with fail
    refine (soBatch_row _ _ _ _ _ _ R1.out R2.out hq1).mono ?_
    rintro e v3 ⟨rfl, k3⟩
    replace BL := Lib.hid (step BL.out k3)
    replace LT := Lib.hid (LT.out.on k3)
    replace R1 := Lib.hid (R1.out.on k3)
    replace R2 := Lib.hid (R2.out.on k3)
    clear k3
    clear R2
    have HV6 := Lib.hid BL.out
    clear BL
    obtain ⟨Z, hZ⟩ : ∃ Z, v3 = Z := ⟨_, rfl⟩
    rw [hZ] at LT R1 HV6 ⊢
    obtain ⟨a'', _, h2', LA, LB⟩ := HCT.out Z LT.out
    have eqa : a'' = a' ∨ nq = 0 := by
      have e := h2' Z
      rw [HS2'.out Z] at e
      injection e with e1 e2
      injection e1 with e3
      exact Or.inl e3.symm
    have LA := Lib.hid LA
    have LB : Hid (Lts Z a' nq (nI (L.drop q)) (nC (L.drop q))) := by
      rcases eqa with rfl | h0
      · exact LB
      · subst h0; exact fun i hi => absurd hi (by omega)
    clear hZ h2' eqa HCT hnil
    have hs1 := HS1.out
    have hs2 := HS2'.out
    have KL : Below Z.heap.size Z Z := Below.refl _ _
    go_wp2_with fail
    go_region_held3 (fun _ => True) (exact trivial) (first
      | (have hh := T7; have hh2 := T8; clear hh hh2; go_at_call 21; refine (HCM.out _ _ _ _ _ (T7.out.on (by go_grown)) (T8.out.on (by go_grown))).mono ?_; rintro e w9 ⟨v9, rfl, r9, k9⟩; have R9 := Lib.hid r9; have K9 : Below Z.heap.size Z w9 := (by exact sstep (sstep KL (by go_grown)) k9))
      | (go_at_call_of 18 (Value.slice a q c); refine (HCA.out _ ((LA.out.on KL).on (by go_grown))).mono ?_; rintro e w7 ⟨a7, c7, rfl, l7, k7⟩; have T7 := Lib.hid l7; (try (have T8 := Lib.hid (T8.out.on (by exact sstep (by go_grown) k7)))); have KL : Below Z.heap.size Z w7 := (by exact sstep (sstep KL (by go_grown)) k7))
      | (go_at_call_of 18 (Value.slice a' nq (c - q)); refine (HCB.out _ ((LB.out.on KL).on (by go_grown))).mono ?_; rintro e w8 ⟨a8, c8, rfl, l8, k8⟩; have T8 := Lib.hid l8; (try (have T7 := Lib.hid (T7.out.on (by exact sstep (by go_grown) k8)))); have KL : Below Z.heap.size Z w8 := (by exact sstep (sstep KL (by go_grown)) k8)))
    all_goals
      have R1b := Lib.hid (R1.out.on K9)
      have KZ := Lib.hid (step HV6.out K9)
      clear k9 K9 r9 KL
      go_wp2_with fail
      refine (soBatch_row _ _ _ _ _ R (R9.out.on (by go_grown)) (R1b.out.on (by go_grown)) hq1).mono ?_
      rintro e wA ⟨rfl, kA⟩
      have kB : Below w9.heap.size w9 wA := (by first | exact kA | exact sstep (by go_grown) kA)
      go_wp2
      go_ret
      exact ⟨rfl, step KZ.out kB⟩

set_option maxRecDepth 100000 in
theorem lifted (os : Os) (started : os.Started) (H : Type) (enc : TypeId × Value → H) :
    ReturnsInHanded {} Try.checked os 6 .any (Rows.fnMergeSortSpec.pre6 enc Try.prog Try.f6 Rows.fnMergeSortRow.domain false) (Rows.fnMergeSortSpec.post enc Try.prog Try.f6 false true false false) := by
  refine returnsInHanded_of_change (C := Try.checked) own started (by kernel_rfl) Try.func6
    (ChangeSpec.witness6 (enc := enc) (C := Try.checked) false ⟨#[], #[.slice none 0 0, .slice none 0 0], []⟩ 8 (by kernel_rfl) (by kernel_rfl) (by kernel_rfl) (by kernel_rfl)) ?_
  intro W base args ds gs before hval0 hW hcnd _
  have hval : ∀ (j : Nat) t v, Try.f6.params[j]? = some t → args[j]? = some v → Value.okWide Try.prog W .any base t v := hval0
  have hW' := hW
  obtain ⟨p, q, hA0, hV, rfl, hfz, hnd⟩ := hW
  have hA : DataW.TrodAll enc Try.prog W 0 (fun _ => true) true Try.f6.params.toList args.toList ds p := hA0
  rw [Try.params6] at hA hval
  obtain ⟨v0, vs0, d0, ds0, p0, q0, hargs, rfl, rfl, h0, r0⟩ := trodAll_cons hA
  obtain ⟨v1, vs1, d1, ds1, p1, q1, rfl, rfl, rfl, h1, r1⟩ := trodAll_cons r0
  obtain ⟨rfl, rfl, rfl⟩ := trodAll_nil r1
  obtain rfl : args = #[v0, v1] := by cases args; simp_all
  obtain ⟨rfl, rfl⟩ := trodVars_none hV
  have g0 := h0
  have lt0 : ∀ x ∈ p0, x.block < W.heap.size := by obtain ⟨m, hm⟩ := g0; exact DataW.trod_lt m _ _ _ hm
  have g1 := h1
  have lt1 : ∀ x ∈ p1, x.block < W.heap.size := by obtain ⟨m, hm⟩ := g1; exact DataW.trod_lt m _ _ _ hm
  obtain ⟨a0, l0, k0, rfl⟩ := okWide_slice Try.underlying22 (hval 0 22 v0 rfl rfl)
  obtain ⟨z0, w0⟩ : ∃ zs, IsRow .u8 W a0 l0 k0 zs := by
    obtain ⟨fuel, hf⟩ := h0
    rcases open_ints Try.underlying22 Try.underlying5 (by kernel_rfl) hf with ⟨hcs, _⟩ | ⟨x, l, c, zs, hcs, _, hl, hm, hz, _, hcell, hwz⟩
    · simp [Value.cells] at hcs
      obtain ⟨rfl, rfl, rfl⟩ := hcs
      exact ⟨[], .inl ⟨rfl, rfl, rfl, rfl⟩⟩
    · simp [Value.cells] at hcs
      obtain ⟨rfl, rfl, rfl⟩ := hcs
      exact ⟨zs, .inr ⟨_, rfl, hl, hm, by simpa using hz, hcell, hwz⟩⟩
  obtain ⟨a1, l1, k1, rfl⟩ := okWide_slice Try.underlying22 (hval 1 22 v1 rfl rfl)
  obtain ⟨z1, w1⟩ : ∃ zs, IsRow .u8 W a1 l1 k1 zs := by
    obtain ⟨fuel, hf⟩ := h1
    rcases open_ints Try.underlying22 Try.underlying5 (by kernel_rfl) hf with ⟨hcs, _⟩ | ⟨x, l, c, zs, hcs, _, hl, hm, hz, _, hcell, hwz⟩
    · simp [Value.cells] at hcs
      obtain ⟨rfl, rfl, rfl⟩ := hcs
      exact ⟨[], .inl ⟨rfl, rfl, rfl, rfl⟩⟩
    · simp [Value.cells] at hcs
      obtain ⟨rfl, rfl, rfl⟩ := hcs
      exact ⟨zs, .inr ⟨_, rfl, hl, hm, by simpa using hz, hcell, hwz⟩⟩
  clear hA0 hval0
  refine (walk W a0 l0 k0 z0 w0 a1 l1 k1 z1 w1).mono fun e W' ⟨he, bel⟩ => ?_
  subst he
  exact ⟨_, rfl, _, _, _, [], _, [], hW', trodAll_mk1 (shut_bool Try.underlying4 _), (trodAll_cons_mk (Below.trod laidOut (by kernel_rfl) (of_decide_eq_true (by kernel_rfl)) g0 bel lt0) (trodAll_cons_mk (Below.trod laidOut (by kernel_rfl) (of_decide_eq_true (by kernel_rfl)) g1 bel lt1) trodAll_mk0)), rfl, bel.frame _, fun h => by cases h⟩

theorem proved : Rows.FnMergeSortSaid :=
  OpenClaim.holds_of_wide 6 Try.f6 rfl rfl rfl rfl rfl rfl rfl ⟨rfl, rfl, rfl, rfl, rfl⟩ rfl rfl rfl rfl rfl (by kernel_rfl) Try.func6 (by kernel_rfl)
    (of_decide_eq_true (by kernel_rfl)) (by unfold Func.isWrapper; first | (rw [if_pos (by decide +kernel)]; kernel_rfl) | (rw [if_neg (by decide +kernel)]; exact ⟨rfl, rfl⟩))
    (fun os started H enc _ => lifted os started H enc)
#print axioms proved
end Go.Proofs.Ytedhenffolfkeaa.fnMergeSort
