/-
  For every two slices of bytes, laws.FnRouteSuffix returns true.
-/
import Derived.Test.YtabmbbnfpfkcaaaRows
import Derived.Test.YtabmbbnfpfkcaaaDrawNet
import Derived.Test.YtabmbbnfpfkcaaaHomeA
import Derived.BigQuiet
import Derived.IntWalk
import Derived.WalkKit
import Derived.ProofKit
import Derived.OpenShut
import Derived.ShutString
import Derived.ChangeOld
import Derived.Below
import Derived.Handy
import Derived.Lib.Hide
namespace Go.Proofs.Ytabmbbnfpfkcaaa.fnRouteSuffix
open Go.ChangeShapes Go.WideShapes Go.ChangeAt Go.RowKit
open Go.ChangeMaps (open_string shut_string)
open Go.PlainAid (bt get_bt bt_nonneg bt_le)
set_option linter.unusedVariables false

theorem own : ownKnob Try.prog.godebug = none := by kernel_rfl
theorem laidOut : laidOutB Try.prog = true := by kernel_rfl

set_option maxHeartbeats 40000000 in
set_option maxRecDepth 100000 in
theorem walk (w : World) (a0 : Option Addr) (l0 k0 : Nat) (z0 : List Int) (w0 : IsRow .u8 w a0 l0 k0 z0) (a1 : Option Addr) (l1 k1 : Nat) (z1 : List Int) (w1 : IsRow .u8 w a1 l1 k1 z1) :
    Calls Try.prog 6 #[.slice a0 l0 k0, .slice a1 l1 k1] w fun e w' => e = .returned (.bool true) ∧ Below w.heap.size w w' := by
  by_cases hl : 1048576 < l0
  · go_enter Try.func6, Try.ntmps6
    go_wp2
    go_ret
    exact ⟨rfl, Below.refl _ _⟩
  by_cases hl' : 1048576 < l1
  · go_enter Try.func6, Try.ntmps6
    go_wp2
    go_ret
    exact ⟨rfl, Below.refl _ _⟩
  go_enter Try.func6, Try.ntmps6
  go_wp2_with fail
  refine (DrawRoutePath_any a0 l0 k0 z0 w w0).mono ?_
  rintro e u ⟨v, s, t, rfl, hs, ht, a, n, c, NM, RL, rfl, nt, fi, hn8, hl40, bl⟩
  have HLM := Lib.hid hl'
  have NT := Lib.hid nt
  have FI := Lib.hid fi
  have BL := Lib.hid bl
  have hsm : s.size ≤ maxLen := by unfold maxLen; omega
  have htm : t.size ≤ maxLen := by unfold maxLen; omega
  have hn2 : n ≤ 1048576 := by omega
  have HLL : Hid (∀ i, i < n → (RL i).length ≤ 1048576) := fun i hi => by have := hl40 i hi; omega
  clear nt fi bl hl40
  obtain ⟨P, q, hR⟩ : ∃ P q, M.routeP n NM RL s t = (P, q) := ⟨_, _, rfl⟩
  have HR : Hid (∀ X, Nts X a n NM RL → Calls Try.prog 22 #[.slice a n c, .string s, .string t] X (PathIs X P q)) := fun X hw => by
    have := impl_RoutePath X a n c NM RL hw FI.out hn2 s t hsm htm
    rw [hR] at this
    exact this
  have HRS : Hid (∀ X, Nts X a n NM RL → Calls Try.prog 23 #[.slice a n c, .string s, .string t] X (PathIs X P q)) := fun X hw => by
    have := spec_RoutePath X a n c NM RL hw FI.out hn2 HLL.out s t htm
    rw [hR] at this
    exact this
  have HI : Hid (∀ X x, Nts X a n NM RL → x.size ≤ maxLen → Calls Try.prog 22 #[.slice a n c, .string x, .string t] X (PathIs X (M.routeP n NM RL x t).1 (M.routeP n NM RL x t).2)) := fun X x hw hx => impl_RoutePath X a n c NM RL hw FI.out hn2 x t hx htm
  have hP20 : P.length ≤ 20 := by have := M.routeP_len20 n NM RL s t; rw [hR] at this; exact this
  have hP2 : P.length ≤ 1048576 := by omega
  by_cases hq : q = 3
  · subst hq
    clear hR
    go_wp2_with fail
    refine (HR.out _ NT.out).mono ?_
    rintro e v1 ⟨p1, rfl, r1, k1⟩
    replace BL := Lib.hid (step BL.out k1)
    replace NT := Lib.hid (NT.out.on k1)
    have R1 := Lib.hid (SR.mk r1)
    clear k1
    go_wp2_with fail
    refine (HRS.out _ NT.out).mono ?_
    rintro e v2 ⟨p2, rfl, r2, k2⟩
    replace BL := Lib.hid (step BL.out k2)
    replace NT := Lib.hid (NT.out.on k2)
    replace R1 := Lib.hid (R1.out.on k2)
    have R2 := Lib.hid (SR.mk r2)
    clear k2
    clear r1 r2
    go_wp2_with fail
    refine (soTexts_row _ _ _ _ _ _ R1.out.row R2.out.row hP2).mono ?_
    rintro e v3 ⟨rfl, k3⟩
    replace BL := Lib.hid (step BL.out k3)
    replace NT := Lib.hid (NT.out.on k3)
    replace R1 := Lib.hid (R1.out.on k3)
    replace R2 := Lib.hid (R2.out.on k3)
    clear k3
    go_wp2_with fail
    refine (soTexts_row _ _ _ _ _ _ R1.out.row R2.out.row hP2).mono ?_
    rintro e v4 ⟨rfl, k4⟩
    replace BL := Lib.hid (step BL.out k4)
    replace NT := Lib.hid (NT.out.on k4)
    replace R1 := Lib.hid (R1.out.on k4)
    replace R2 := Lib.hid (R2.out.on k4)
    clear k4
    go_wp2
    go_ret
    exact ⟨rfl, BL.out⟩
  · obtain ⟨_, _, hP1, _, _, hrest⟩ := M.routeP_end hR FI.out hq
    have HQ := Lib.hid hrest
    have hq1 : (q != 3) = true := by rw [bne_iff_ne]; exact hq
    have hq2 : (q == 3) = false := by rw [beq_eq_false_iff_ne]; exact hq
    clear hR hq hrest
    go_wp2_with fail
    refine (HR.out _ NT.out).mono ?_
    rintro e v1 ⟨p1, rfl, r1, k1⟩
    replace BL := Lib.hid (step BL.out k1)
    replace NT := Lib.hid (NT.out.on k1)
    have R1 := Lib.hid (SR.mk r1)
    clear k1
    go_wp2_with fail
    refine (HRS.out _ NT.out).mono ?_
    rintro e v2 ⟨p2, rfl, r2, k2⟩
    replace BL := Lib.hid (step BL.out k2)
    replace NT := Lib.hid (NT.out.on k2)
    replace R1 := Lib.hid (R1.out.on k2)
    have R2 := Lib.hid (SR.mk r2)
    clear k2
    clear r1 r2
    go_wp2_with fail
    refine (soTexts_row _ _ _ _ _ _ R1.out.row R2.out.row hP2).mono ?_
    rintro e v3 ⟨rfl, k3⟩
    replace BL := Lib.hid (step BL.out k3)
    replace NT := Lib.hid (NT.out.on k3)
    replace R1 := Lib.hid (R1.out.on k3)
    replace R2 := Lib.hid (R2.out.on k3)
    clear k3
    obtain ⟨k, hk⟩ : ∃ k, l1 % P.length = k := ⟨_, rfl⟩
    have hkl : k < P.length := by rw [← hk]; exact Nat.mod_lt _ (by omega)
    have hkt : (l1 : Int).tmod (P.length : Int) = (k : Int) := by rw [← hk]; exact (Int.ofNat_tmod l1 P.length).symm
    have hkw : (l1 : Int) % (P.length : Int) = (k : Int) := by rw [← hk]; exact (Int.natCast_emod l1 P.length).symm
    have hp0 : ¬ P.length = 0 := by omega
    have hp1 : ((P.length : Int) == 0) = false := by rw [beq_eq_false_iff_ne]; omega
    obtain ⟨hy1, hy2, hy3⟩ := HQ.out k hkl
    obtain ⟨b, cp, rfl, hc⟩ := R1.out.row.nth hkl
    generalize P.getD k ⟨#[]⟩ = y at hy1 hy2 hy3 hc
    have hk0 : (0 : Int) ≤ (k : Int) := by omega
    have hk1 : (k : Int) < (P.length : Int) := by omega
    have HY := Lib.hid hy3
    have HI2 := HI.out _ y NT.out hy1
    rw [hy2] at HI2
    have HI3 := Lib.hid HI2
    clear hk hy2 hy3 HI2 HQ
    have hcap := R1.out.row.cap
    have hkc : k < cp := by omega
    have hkc1 : ¬ cp = k := by omega
    have hkc2 : ¬ k = cp := by omega
    have hkp : k ≤ P.length := by omega
    have hkp1 : (k : Int) ≤ (P.length : Int) := by omega
    have hpc : P.length ≤ cp := hcap
    have HB1 := R1
    clear hcap
    go_wp2_with fail
    refine HI3.out.mono ?_
    rintro e w9 ⟨p3, rfl, r3, k9⟩
    replace BL := Lib.hid (step BL.out k9)
    replace R1 := Lib.hid (R1.out.on k9)
    have R3 := Lib.hid (SR.mk r3)
    clear k9 r3
    by_cases h2 : q = 2
    · have q1 : (q == 2) = true := by rw [beq_iff_eq]; exact h2
      have qq : (q == q) = true := by simp
      clear h2
      go_wp2
      go_ret
      exact ⟨rfl, BL.out⟩
    · have q1 : (q == 2) = false := by rw [beq_eq_false_iff_ne]; exact h2
      have qq : (q == q) = true := by simp
      have hpd := HY.out h2
      rw [hpd] at R3
      obtain ⟨a3, c3, hp3, _, hst3⟩ := R3.out.row.form
      rw [List.length_drop] at hp3 hst3
      subst hp3
      have HT := Lib.hid (soTexts_same w9 a3 (some ⟨b, k, none⟩) (P.length - k) c3 (cp - k) (sC (P.drop k)) hst3 (R1.out.row.tail k) (by omega))
      clear h2 hpd hst3
      go_wp2_with fail
      refine HT.out.mono ?_
      rintro e w10 ⟨rfl, k10⟩
      replace BL := Lib.hid (step BL.out k10)
      clear k10
      go_wp2
      go_ret
      exact ⟨rfl, BL.out⟩

set_option maxRecDepth 100000 in
theorem lifted (os : Os) (started : os.Started) (H : Type) (enc : TypeId × Value → H) :
    ReturnsInHanded {} Try.checked os 6 .any (Rows.fnRouteSuffixSpec.pre6 enc Try.prog Try.f6 Rows.fnRouteSuffixRow.domain false) (Rows.fnRouteSuffixSpec.post enc Try.prog Try.f6 false true false false) := by
  refine returnsInHanded_of_change (C := Try.checked) own started (by kernel_rfl) Try.func6
    (ChangeSpec.witness6 (enc := enc) (C := Try.checked) false ⟨#[], #[.slice none 0 0, .slice none 0 0], []⟩ 8 (by kernel_rfl) (by kernel_rfl) (by kernel_rfl) (by kernel_rfl)) ?_
  intro W base args ds gs before hval0 hW hcnd _
  have hval : ∀ (j : Nat) t v, Try.f6.params[j]? = some t → args[j]? = some v → Value.okWide Try.prog W .any base t v := hval0
  have hW' := hW
  obtain ⟨p, q, hA0, hV, rfl, hfz, hnd⟩ := hW
  have hA : DataW.TrodAll enc Try.prog W 0 (fun _ => true) true Try.f6.params.toList args.toList ds p := hA0
  rw [Try.params6] at hA hval
  obtain ⟨v0, vs0, d0, ds0, p0, q0, hargs, rfl, rfl, h0, r0⟩ := trodAll_cons hA
  obtain ⟨v1, vs1, d1, ds1, p1, q1, rfl, rfl, rfl, h1, r1⟩ := trodAll_cons r0
  obtain ⟨rfl, rfl, rfl⟩ := trodAll_nil r1
  obtain rfl : args = #[v0, v1] := by cases args; simp_all
  obtain ⟨rfl, rfl⟩ := trodVars_none hV
  have g0 := h0
  have lt0 : ∀ x ∈ p0, x.block < W.heap.size := by obtain ⟨m, hm⟩ := g0; exact DataW.trod_lt m _ _ _ hm
  have g1 := h1
  have lt1 : ∀ x ∈ p1, x.block < W.heap.size := by obtain ⟨m, hm⟩ := g1; exact DataW.trod_lt m _ _ _ hm
  obtain ⟨a0, l0, k0, rfl⟩ := okWide_slice Try.underlying22 (hval 0 22 v0 rfl rfl)
  obtain ⟨z0, w0⟩ : ∃ zs, IsRow .u8 W a0 l0 k0 zs := by
    obtain ⟨fuel, hf⟩ := h0
    rcases open_ints Try.underlying22 Try.underlying5 (by kernel_rfl) hf with ⟨hcs, _⟩ | ⟨x, l, c, zs, hcs, _, hl, hm, hz, _, hcell, hwz⟩
    · simp [Value.cells] at hcs
      obtain ⟨rfl, rfl, rfl⟩ := hcs
      exact ⟨[], .inl ⟨rfl, rfl, rfl, rfl⟩⟩
    · simp [Value.cells] at hcs
      obtain ⟨rfl, rfl, rfl⟩ := hcs
      exact ⟨zs, .inr ⟨_, rfl, hl, hm, by simpa using hz, hcell, hwz⟩⟩
  obtain ⟨a1, l1, k1, rfl⟩ := okWide_slice Try.underlying22 (hval 1 22 v1 rfl rfl)
  obtain ⟨z1, w1⟩ : ∃ zs, IsRow .u8 W a1 l1 k1 zs := by
    obtain ⟨fuel, hf⟩ := h1
    rcases open_ints Try.underlying22 Try.underlying5 (by kernel_rfl) hf with ⟨hcs, _⟩ | ⟨x, l, c, zs, hcs, _, hl, hm, hz, _, hcell, hwz⟩
    · simp [Value.cells] at hcs
      obtain ⟨rfl, rfl, rfl⟩ := hcs
      exact ⟨[], .inl ⟨rfl, rfl, rfl, rfl⟩⟩
    · simp [Value.cells] at hcs
      obtain ⟨rfl, rfl, rfl⟩ := hcs
      exact ⟨zs, .inr ⟨_, rfl, hl, hm, by simpa using hz, hcell, hwz⟩⟩
  clear hA0 hval0
  refine (walk W a0 l0 k0 z0 w0 a1 l1 k1 z1 w1).mono fun e W' ⟨he, bel⟩ => ?_
  subst he
  exact ⟨_, rfl, _, _, _, [], _, [], hW', trodAll_mk1 (shut_bool Try.underlying4 _), (trodAll_cons_mk (Below.trod laidOut (by kernel_rfl) (of_decide_eq_true (by kernel_rfl)) g0 bel lt0) (trodAll_cons_mk (Below.trod laidOut (by kernel_rfl) (of_decide_eq_true (by kernel_rfl)) g1 bel lt1) trodAll_mk0)), rfl, bel.frame _, fun h => by cases h⟩

theorem proved : Rows.FnRouteSuffixSaid :=
  OpenClaim.holds_of_wide 6 Try.f6 rfl rfl rfl rfl rfl rfl rfl ⟨rfl, rfl, rfl, rfl, rfl⟩ rfl rfl rfl rfl rfl (by kernel_rfl) Try.func6 (by kernel_rfl)
    (of_decide_eq_true (by kernel_rfl)) (by unfold Func.isWrapper; first | (rw [if_pos (by decide +kernel)]; kernel_rfl) | (rw [if_neg (by decide +kernel)]; exact ⟨rfl, rfl⟩))
    (fun os started H enc _ => lifted os started H enc)
#print axioms proved
end Go.Proofs.Ytabmbbnfpfkcaaa.fnRouteSuffix
