/-
  For every plan and slice of letters, laws.FnExactMovedLetters returns true: the program's MovedLetters answers as the model of the document does. No condition.
-/
import Derived.Test.YtolliagobjgjfaaRows
import Derived.Test.YtolliagobjgjfaaKept
import Derived.Test.YtolliagobjgjfaaLetOpen
import Derived.WalkKit
import Derived.ProofKit
import Derived.OpenShut
import Derived.ShutString
import Derived.ChangeOld
import Derived.Below
import Derived.Handy
import Derived.Lib.Hide
import Derived.Lib.SmallJoins
import Derived.Test.YtolliagobjgjfaaStrOpen
namespace Go.Proofs.Ytolliagobjgjfaa.fnExactMovedLetters
open Go.ChangeShapes Go.WideShapes Go.ChangeAt Go.RowKit
open Go.ChangeMaps (open_string shut_string)
open Go.PlainAid (bt get_bt bt_nonneg bt_le)
open Go.Joins
set_option linter.unusedVariables false

theorem own : ownKnob Try.prog.godebug = none := by kernel_rfl
theorem laidOut : laidOutB Try.prog = true := by kernel_rfl

set_option maxHeartbeats 2000000 in
set_option maxRecDepth 100000 in
theorem walk (w : World) (a0 b0 : Int) (A0 : Option Addr) (n0 k0 : Nat) (S0 : Nat → ByteArray) (w0 : Strs w A0 n0 S0) (f0 : SFits n0 S0) (z0 : n0 ≤ maxLen) (x0 : (Lit.int .i64 a0).wf = true) (y0 : (Lit.int .i64 b0).wf = true) (a1 : Option Addr) (n1 k1 : Nat) (I1 : Nat → Int) (C1 : Nat → ByteArray) (w1 : Lts w a1 n1 I1 C1) (f1 : Fits n1 I1 C1) (z1 : n1 ≤ maxLen) :
    Calls Try.prog 9 #[.agg #[.int .i64 a0, .int .i64 b0, .slice A0 n0 k0], .slice a1 n1 k1] w fun e w' => e = .returned (.bool true) ∧ Below w.heap.size w w' := by
  have HS := Lib.hid w0
  have HF := Lib.hid f0
  clear w0
  have HS1 := Lib.hid w1
  have HF1 := Lib.hid f1
  clear w1
  go_enter Try.func9, Try.ntmps9
  have BL := Lib.hid (below_alloc0 w (.cells #[.int .i64 a0, .int .i64 b0, .slice A0 n0 k0] 24))
  replace HS := Lib.hid (HS.out.on (below_alloc0 w (.cells #[.int .i64 a0, .int .i64 b0, .slice A0 n0 k0] 24)))
  replace HS1 := Lib.hid (HS1.out.on (below_alloc0 w (.cells #[.int .i64 a0, .int .i64 b0, .slice A0 n0 k0] 24)))
  have BA := Lib.hid (tri_made w (.int .i64 a0) (.int .i64 b0) (.slice A0 n0 k0) 24)
  obtain ⟨⟨d0BA, d1BA, d2BA⟩, g0BA, g1BA, g2BA⟩ := BA.out
  have ltBA := BA.out.lt
  go_wp2_with fail
  refine (szPlan_any _ a0 b0 A0 n0 k0 S0 HS.out HF.out z0 _ (by omega) (by omega)).mono ?_
  rintro e w1 ⟨r, rfl, hr, hr1, k1⟩
  clear d0BA d1BA d2BA g0BA g1BA g2BA ltBA
  replace BL := Lib.hid (sstep BL.out k1)
  replace HS := Lib.hid (HS.out.on k1)
  replace HS1 := Lib.hid (HS1.out.on k1)
  replace BA := Lib.hid (BA.out.on k1)
  clear k1
  obtain ⟨⟨d0BA, d1BA, d2BA⟩, g0BA, g1BA, g2BA⟩ := BA.out
  have ltBA := BA.out.lt
  by_cases hneg : r < 0
  · go_wp2
    go_ret
    exact ⟨rfl, BL.out⟩
  have hn : n0 ≤ 1048576 := by omega
  clear hr z0
  go_wp2_with fail
  refine (szLetterS_any _ a1 n1 k1 I1 C1 HS1.out HF1.out z1 _ (by omega) (by omega)).mono ?_
  rintro e w2 ⟨r2, rfl, hr2, hr3, k2⟩
  clear d0BA d1BA d2BA g0BA g1BA g2BA ltBA
  replace BL := Lib.hid (sstep BL.out k2)
  replace HS := Lib.hid (HS.out.on k2)
  replace HS1 := Lib.hid (HS1.out.on k2)
  replace BA := Lib.hid (BA.out.on k2)
  clear k2
  obtain ⟨⟨d0BA, d1BA, d2BA⟩, g0BA, g1BA, g2BA⟩ := BA.out
  have ltBA := BA.out.lt
  by_cases hneg2 : r2 < 0
  · go_wp2
    go_ret
    exact ⟨rfl, BL.out⟩
  have hn1 : n1 ≤ 1048576 := by omega
  clear hr2 hr3 z1
  clear hr1
  go_wp2_with fail
  refine (toPlan_any _ a0 b0 A0 n0 k0 S0 HS.out hn).mono ?_
  rintro e w3 ⟨g3, rfl, _, o3, k3⟩
  clear d0BA d1BA d2BA g0BA g1BA g2BA ltBA
  replace BL := Lib.hid (sstep BL.out k3)
  replace HS := Lib.hid (HS.out.on k3)
  replace HS1 := Lib.hid (HS1.out.on k3)
  replace BA := Lib.hid (BA.out.on k3)
  clear k3
  obtain ⟨⟨d0BA, d1BA, d2BA⟩, g0BA, g1BA, g2BA⟩ := BA.out
  have ltBA := BA.out.lt
  have HO := Lib.hid o3.strs
  clear o3
  go_wp2_with fail
  refine (toLetterS_any _ a1 n1 k1 I1 C1 HS1.out hn1).mono ?_
  rintro e w4 ⟨g4, rfl, _, o4, k4⟩
  clear d0BA d1BA d2BA g0BA g1BA g2BA ltBA
  replace BL := Lib.hid (sstep BL.out k4)
  replace HS := Lib.hid (HS.out.on k4)
  replace HS1 := Lib.hid (HS1.out.on k4)
  replace BA := Lib.hid (BA.out.on k4)
  replace HO := Lib.hid (HO.out.on k4)
  clear k4
  obtain ⟨⟨d0BA, d1BA, d2BA⟩, g0BA, g1BA, g2BA⟩ := BA.out
  have ltBA := BA.out.lt
  have HO2 := Lib.hid o4.lts
  clear o4
  go_wp2_with fail
  refine (spec_MovedLetters _ a0 b0 _ n0 n0 S0 HO.out HF.out hn _ n1 n1 I1 C1 HO2.out HF1.out hn1).mono ?_
  rintro e w5 ⟨rfl, k5⟩
  clear d0BA d1BA d2BA g0BA g1BA g2BA ltBA
  replace BL := Lib.hid (sstep BL.out k5)
  replace HS := Lib.hid (HS.out.on k5)
  replace HS1 := Lib.hid (HS1.out.on k5)
  replace BA := Lib.hid (BA.out.on k5)
  replace HO := Lib.hid (HO.out.on k5)
  clear k5
  obtain ⟨⟨d0BA, d1BA, d2BA⟩, g0BA, g1BA, g2BA⟩ := BA.out
  have ltBA := BA.out.lt
  clear HO
  go_wp2_with fail
  refine (toPlan_any _ a0 b0 A0 n0 k0 S0 HS.out hn).mono ?_
  rintro e w6 ⟨gx, rfl, _, o6, k6⟩
  clear d0BA d1BA d2BA g0BA g1BA g2BA ltBA
  replace BL := Lib.hid (sstep BL.out k6)
  replace HS := Lib.hid (HS.out.on k6)
  replace HS1 := Lib.hid (HS1.out.on k6)
  replace BA := Lib.hid (BA.out.on k6)
  clear k6
  obtain ⟨⟨d0BA, d1BA, d2BA⟩, g0BA, g1BA, g2BA⟩ := BA.out
  have ltBA := BA.out.lt
  have HX := Lib.hid o6.strs
  clear o6
  clear d0BA d1BA d2BA g0BA g1BA g2BA ltBA
  replace BL := Lib.hid (sstep BL.out (below_alloc0 w6 (.cells #[.int .i64 a0, .int .i64 b0, .slice (some ⟨gx, 0, none⟩) n0 n0] 29)))
  replace HS := Lib.hid (HS.out.on (below_alloc0 w6 (.cells #[.int .i64 a0, .int .i64 b0, .slice (some ⟨gx, 0, none⟩) n0 n0] 29)))
  replace HS1 := Lib.hid (HS1.out.on (below_alloc0 w6 (.cells #[.int .i64 a0, .int .i64 b0, .slice (some ⟨gx, 0, none⟩) n0 n0] 29)))
  replace BA := Lib.hid (BA.out.on (below_alloc0 w6 (.cells #[.int .i64 a0, .int .i64 b0, .slice (some ⟨gx, 0, none⟩) n0 n0] 29)))
  replace HX := Lib.hid (HX.out.on (below_alloc0 w6 (.cells #[.int .i64 a0, .int .i64 b0, .slice (some ⟨gx, 0, none⟩) n0 n0] 29)))
  have BX := Lib.hid (tri_made w6 (.int .i64 a0) (.int .i64 b0) (.slice (some ⟨gx, 0, none⟩) n0 n0) 29)
  obtain ⟨⟨d0BA, d1BA, d2BA⟩, g0BA, g1BA, g2BA⟩ := BA.out
  have ltBA := BA.out.lt
  obtain ⟨⟨d0BX, d1BX, d2BX⟩, g0BX, g1BX, g2BX⟩ := BX.out
  have ltBX := BX.out.lt
  go_wp2_with fail
  refine (toLetterS_any _ a1 n1 k1 I1 C1 HS1.out hn1).mono ?_
  rintro e w7 ⟨gy, rfl, _, o7, k7⟩
  clear d0BA d1BA d2BA g0BA g1BA g2BA ltBA
  clear d0BX d1BX d2BX g0BX g1BX g2BX ltBX
  replace BL := Lib.hid (sstep BL.out k7)
  replace HS := Lib.hid (HS.out.on k7)
  replace HS1 := Lib.hid (HS1.out.on k7)
  replace BA := Lib.hid (BA.out.on k7)
  replace HX := Lib.hid (HX.out.on k7)
  replace BX := Lib.hid (BX.out.on k7)
  clear k7
  obtain ⟨⟨d0BA, d1BA, d2BA⟩, g0BA, g1BA, g2BA⟩ := BA.out
  have ltBA := BA.out.lt
  obtain ⟨⟨d0BX, d1BX, d2BX⟩, g0BX, g1BX, g2BX⟩ := BX.out
  have ltBX := BX.out.lt
  have HY := Lib.hid o7.lts
  clear o7
  go_wp2_with fail
  refine (impl_MovedLetters _ a0 b0 _ n0 n0 S0 HX.out HF.out hn _ n1 n1 I1 C1 HY.out HF1.out hn1).mono ?_
  rintro e w8 ⟨rfl, k8⟩
  clear d0BA d1BA d2BA g0BA g1BA g2BA ltBA
  clear d0BX d1BX d2BX g0BX g1BX g2BX ltBX
  replace BL := Lib.hid (sstep BL.out k8)
  replace HS := Lib.hid (HS.out.on k8)
  replace HS1 := Lib.hid (HS1.out.on k8)
  replace BA := Lib.hid (BA.out.on k8)
  replace HX := Lib.hid (HX.out.on k8)
  replace BX := Lib.hid (BX.out.on k8)
  replace HY := Lib.hid (HY.out.on k8)
  clear k8
  obtain ⟨⟨d0BA, d1BA, d2BA⟩, g0BA, g1BA, g2BA⟩ := BA.out
  have ltBA := BA.out.lt
  obtain ⟨⟨d0BX, d1BX, d2BX⟩, g0BX, g1BX, g2BX⟩ := BX.out
  have ltBX := BX.out.lt
  go_wp2
  go_region_with (first
    | (go_at_call 13; refine (toPlan_any _ a0 b0 A0 n0 k0 S0 (HS.out.on (by go_grown)) hn).mono ?_; rintro e wt ⟨gt, rfl, _, ot, kt⟩; have kT : Below w8.heap.size w8 wt := (by first | exact kt | exact sstep (by go_grown) kt); obtain ⟨⟨e0, e1, e2⟩, _⟩ := BX.out.on kT; have ht := Lib.hid ot.strs; replace ot := Lib.hid ot)
    | (go_at_call 16; refine (eqPlan_same _ a0 b0 _ _ n0 _ _ S0 (HX.out.on (by go_grown)) (ht.out.on (by go_grown)) hn).mono ?_; rintro e wq ⟨rfl, kq⟩; have kQ : Below w8.heap.size w8 wq := (by first | exact sstep kT kq | exact sstep kT.drew kq)))
  all_goals
    have BQ : Hid (Below w.heap.size w wq) := sstep BL.out kQ
    replace HY := Lib.hid (HY.out.on kQ)
    replace HS1 := Lib.hid (HS1.out.on kQ)
    clear kQ kT kq kt
    go_wp2_with fail
    refine (toLetterS_any _ a1 n1 k1 I1 C1 (HS1.out.on (by go_grown)) hn1).mono ?_
    rintro e wu ⟨gu, rfl, _, ou, ku⟩
    have kU : Below wq.heap.size wq wu := (by first | exact ku | exact sstep (by go_grown) ku)
    go_wp2_with fail
    refine (eqLetterS_same _ _ _ n1 _ _ I1 C1 (HY.out.on kU) ou.lts hn1).mono ?_
    rintro e wv ⟨rfl, kv⟩
    go_wp2
    go_ret
    exact ⟨rfl, sstep (sstep BQ.out kU) kv⟩

set_option maxRecDepth 100000 in
theorem lifted (os : Os) (started : os.Started) (H : Type) (enc : TypeId × Value → H) :
    ReturnsInHanded {} Try.checked os 9 .any (Rows.fnExactMovedLettersSpec.pre6 enc Try.prog Try.f9 Rows.fnExactMovedLettersRow.domain false) (Rows.fnExactMovedLettersSpec.post enc Try.prog Try.f9 false true false false) := by
  refine returnsInHanded_of_change (C := Try.checked) own started (by kernel_rfl) Try.func9
    (ChangeSpec.witness6 (enc := enc) (C := Try.checked) false ⟨#[], #[.agg #[.int .i64 0, .int .i64 0, .slice none 0 0], .slice none 0 0], []⟩ 8 (by kernel_rfl) (by kernel_rfl) (by kernel_rfl) (by kernel_rfl)) ?_
  intro W base args ds gs before hval0 hW hcnd _
  have hval : ∀ (j : Nat) t v, Try.f9.params[j]? = some t → args[j]? = some v → Value.okWide Try.prog W .any base t v := hval0
  have hW' := hW
  obtain ⟨p, q, hA0, hV, rfl, hfz, hnd⟩ := hW
  have hA : DataW.TrodAll enc Try.prog W 0 (fun _ => true) true Try.f9.params.toList args.toList ds p := hA0
  rw [Try.params9] at hA hval
  obtain ⟨v0, vs0, d0, ds0, p0, q0, hargs, rfl, rfl, h0, r0⟩ := trodAll_cons hA
  obtain ⟨v1, vs1, d1, ds1, p1, q1, rfl, rfl, rfl, h1, r1⟩ := trodAll_cons r0
  obtain ⟨rfl, rfl, rfl⟩ := trodAll_nil r1
  obtain rfl : args = #[v0, v1] := by cases args; simp_all
  obtain ⟨rfl, rfl⟩ := trodVars_none hV
  have g0 := h0
  have lt0 : ∀ x ∈ p0, x.block < W.heap.size := by obtain ⟨m, hm⟩ := g0; exact DataW.trod_lt m _ _ _ hm
  have g1 := h1
  have lt1 : ∀ x ∈ p1, x.block < W.heap.size := by obtain ⟨m, hm⟩ := g1; exact DataW.trod_lt m _ _ _ hm
  obtain ⟨u0, t0, s0, m00, m10, m20, j0, rfl, _, _, q00, q10, q20⟩ := open_agg3 Try.underlying24 (by kernel_rfl) (by kernel_rfl) (hval 0 24 v0 rfl rfl) h0
  obtain ⟨a0, ea0, _, x0⟩ := DataW.trod_int Try.underlying3 q00
  obtain ⟨b0, eb0, _, y0⟩ := DataW.trod_int Try.underlying3 q10
  obtain rfl := List.singleton_inj.1 ea0
  obtain rfl := List.singleton_inj.1 eb0
  obtain ⟨A0, n0, k0, S0, rfl, w0, f0, z0⟩ := open_strs q20
  obtain ⟨a1, n1, k1, rfl⟩ := okWide_slice Try.underlying36 (hval 1 36 v1 rfl rfl)
  obtain ⟨I1, C1, w1, f1, z1⟩ : ∃ I C, Lts W a1 n1 I C ∧ Fits n1 I C ∧ n1 ≤ maxLen := by
    obtain ⟨fuel, hf⟩ := h1
    exact open_letters hf
  clear hA0 hval0
  refine (walk W a0 b0 A0 n0 k0 S0 w0 f0 z0 x0 y0 a1 n1 k1 I1 C1 w1 f1 z1).mono fun e W' ⟨he, bel⟩ => ?_
  subst he
  exact ⟨_, rfl, _, _, _, [], _, [], hW', trodAll_mk1 (shut_bool Try.underlying4 _), (trodAll_cons_mk (Below.trod laidOut (by kernel_rfl) (of_decide_eq_true (by kernel_rfl)) g0 bel lt0) (trodAll_cons_mk (Below.trod laidOut (by kernel_rfl) (of_decide_eq_true (by kernel_rfl)) g1 bel lt1) trodAll_mk0)), rfl, bel.frame _, fun h => by cases h⟩

theorem proved : Rows.FnExactMovedLettersSaid :=
  OpenClaim.holds_of_wide 9 Try.f9 rfl rfl rfl rfl rfl rfl rfl ⟨rfl, rfl, rfl, rfl, rfl⟩ rfl rfl rfl rfl rfl (by kernel_rfl) Try.func9 (by kernel_rfl)
    (of_decide_eq_true (by kernel_rfl)) (by unfold Func.isWrapper; first | (rw [if_pos (by decide +kernel)]; kernel_rfl) | (rw [if_neg (by decide +kernel)]; exact ⟨rfl, rfl⟩))
    (fun os started H enc _ => lifted os started H enc)
#print axioms proved
end Go.Proofs.Ytolliagobjgjfaa.fnExactMovedLetters
