/-
  For every slice of bytes, laws.FnFindLetter returns true.
-/
import Derived.Test.YtfiiakoljkffgaaRows
import Derived.Test.YtfiiakoljkffgaaDrawB
import Derived.Test.YtfiiakoljkffgaaFind
import Derived.WalkKit
import Derived.ProofKit
import Derived.OpenShut
import Derived.ShutString
import Derived.ChangeOld
import Derived.Below
import Derived.Handy
import Derived.Lib.Hide
namespace Go.Proofs.Ytfiiakoljkffgaa.fnFindLetter
open Go.ChangeShapes Go.WideShapes Go.ChangeAt Go.RowKit
open Go.ChangeMaps (open_string shut_string)
open Go.PlainAid (bt get_bt bt_nonneg bt_le)
set_option linter.unusedVariables false

theorem own : ownKnob Try.prog.godebug = none := by kernel_rfl
theorem laidOut : laidOutB Try.prog = true := by kernel_rfl

set_option maxHeartbeats 4000000 in
set_option maxRecDepth 100000 in
theorem walk (w : World) (a0 : Option Addr) (l0 k0 : Nat) (z0 : List Int) (w0 : IsRow .u8 w a0 l0 k0 z0) :
    Calls Try.prog 3 #[.slice a0 l0 k0] w fun e w' => e = .returned (.bool true) ∧ Below w.heap.size w w' := by
  by_cases hl : 1048576 < l0
  · go_enter Try.func3, Try.ntmps3
    go_wp2
    go_ret
    exact ⟨rfl, Below.refl _ _⟩
  go_enter Try.func3, Try.ntmps3
  go_wp2_with fail
  refine (DrawFindLetter_any a0 l0 k0 z0 w w0).mono ?_
  rintro e u ⟨v, x, rfl, a, n, c, I, C, rfl, lt, fi, hn, bl⟩
  have LT := Lib.hid lt
  have FI := Lib.hid fi
  have BL := Lib.hid bl
  clear lt fi bl
  have hn2 : n ≤ 1048576 := by omega
  obtain ⟨f, hf⟩ : ∃ f, M.findLetter n I C x = f := ⟨_, rfl⟩
  have HF := Lib.hid hf
  cases hb : M.batch n I C
  · rw [M.findLetter_no hb] at hf
    subst hf
    go_wp2_with fail
    refine (impl_FindLetter _ _ _ _ _ _ LT.out FI.out _).mono ?_
    rw [HF.out]
    rintro e v1 ⟨rfl, k1⟩
    replace LT := Lib.hid (LT.out.on k1)
    replace BL := Lib.hid (step BL.out k1)
    clear k1
    go_wp2_with fail
    refine (spec_FindLetter _ _ _ _ _ _ LT.out FI.out hn2 _).mono ?_
    rw [HF.out]
    rintro e v2 ⟨rfl, k2⟩
    replace LT := Lib.hid (LT.out.on k2)
    replace BL := Lib.hid (step BL.out k2)
    clear k2
    go_wp2_with fail
    refine (impl_BatchValid _ _ _ _ _ _ LT.out FI.out).mono ?_
    rw [hb]
    rintro e v3 ⟨rfl, k3⟩
    replace LT := Lib.hid (LT.out.on k3)
    replace BL := Lib.hid (step BL.out k3)
    clear k3
    go_wp2_with fail
    refine (spec_FindLetter _ _ _ _ _ _ LT.out FI.out hn2 _).mono ?_
    rw [HF.out]
    rintro e v4 ⟨rfl, k4⟩
    replace LT := Lib.hid (LT.out.on k4)
    replace BL := Lib.hid (step BL.out k4)
    clear k4
    go_wp2_with fail
    refine (impl_BatchValid _ _ _ _ _ _ LT.out FI.out).mono ?_
    rw [hb]
    rintro e v5 ⟨rfl, k5⟩
    replace LT := Lib.hid (LT.out.on k5)
    replace BL := Lib.hid (step BL.out k5)
    clear k5
    go_wp2
    go_ret
    exact ⟨rfl, BL.out⟩
  · rw [M.findLetter_yes hb] at hf
    have HD := Lib.hid (M.batch_yes hb).2
    have HG := Lib.hid hf
    clear hf
    go_wp2_with fail
    refine (impl_FindLetter _ _ _ _ _ _ LT.out FI.out _).mono ?_
    rw [HF.out]
    rintro e v1 ⟨rfl, k1⟩
    replace LT := Lib.hid (LT.out.on k1)
    replace BL := Lib.hid (step BL.out k1)
    clear k1
    go_wp2_with fail
    refine (spec_FindLetter _ _ _ _ _ _ LT.out FI.out hn2 _).mono ?_
    rw [HF.out]
    rintro e v2 ⟨rfl, k2⟩
    replace LT := Lib.hid (LT.out.on k2)
    replace BL := Lib.hid (step BL.out k2)
    clear k2
    go_wp2_with fail
    refine (impl_BatchValid _ _ _ _ _ _ LT.out FI.out).mono ?_
    rw [hb]
    rintro e v3 ⟨rfl, k3⟩
    replace LT := Lib.hid (LT.out.on k3)
    replace BL := Lib.hid (step BL.out k3)
    clear k3
    go_wp2
    go_loopw [6, 7] (fun q i wr => ∃ (j m : Nat), j ≤ n ∧ i = .int .i64 j ∧ q = .int .i64 m ∧ Hid ((m = 0 ∧ ∀ t, t < j → I t ≠ x) ∨ (m = 1 ∧ ∃ t, t < j ∧ I t = x)) ∧ v3 = wr) (fun _ i _ => n - (intOf i).toNat)
    case atStart => exact ⟨0, 0, by omega, rfl, rfl, Or.inl ⟨rfl, fun t h => absurd h (by omega)⟩, rfl⟩
    case round =>
      obtain ⟨j, m, hj, rfl, rfl, hm, rfl⟩ := hrel
      by_cases hlt : j < n
      · obtain ⟨b, o, rfl, c0, c1⟩ := LT.out j hlt
        by_cases hx : I j = x
        · have hm0 : m = 0 ∧ ∀ t, t < j → I t ≠ x := by
            rcases hm.out with h | ⟨_, t, ht, e⟩
            · exact h
            · exact absurd (e.trans hx.symm) ((HD.out j hlt).2.2 t ht)
          obtain ⟨rfl, _⟩ := hm0
          rw [hx] at c0
          go_wp2
          go_roundw
          case rel => exact ⟨j + 1, 1, by omega, by go_num, rfl, Or.inr ⟨rfl, j, by omega, hx⟩, trivial⟩
          case measure => simp [intOf]; omega
        · have hxf : (I j == x) = false := by rw [beq_eq_false_iff_ne]; exact hx
          generalize hy : I j = y at c0 hxf
          have HY := Lib.hid hy
          clear hy
          go_wp2
          go_roundw
          case rel => exact ⟨j + 1, m, by omega, by go_num, rfl, by
            rcases hm.out with ⟨h, h'⟩ | ⟨h, t, ht, e⟩
            · exact Or.inl ⟨h, fun t ht => by
                by_cases e : t = j
                · subst e; rw [HY.out]; exact beq_eq_false_iff_ne.1 hxf
                · exact h' t (by omega)⟩
            · exact Or.inr ⟨h, t, by omega, e⟩, trivial⟩
          case measure => simp [intOf]; omega
      · obtain rfl : j = n := by omega
        rcases hm.out with ⟨rfl, h'⟩ | ⟨rfl, t, ht, e⟩
        · have hf := (HG.out).symm.trans (M.find_miss h')
          subst hf
          go_wp2
          go_ret
          exact ⟨rfl, BL.out⟩
        · have hf := (HG.out).symm.trans (M.find_hit ht e (fun s hs e' => (HD.out t ht).2.2 s hs (e'.trans e.symm)))
          subst hf
          obtain ⟨b, o, rfl, c0, c1⟩ := LT.out t ht
          rw [e] at c0
          have ti : (t : Int) < (j : Int) := by omega
          have tz : ((t : Int) == -1) = false := by rw [beq_eq_false_iff_ne]; omega
          go_wp2
          go_ret
          exact ⟨rfl, BL.out⟩

set_option maxRecDepth 100000 in
theorem lifted (os : Os) (started : os.Started) (H : Type) (enc : TypeId × Value → H) :
    ReturnsInHanded {} Try.checked os 3 .any (Rows.fnFindLetterSpec.pre6 enc Try.prog Try.f3 Rows.fnFindLetterRow.domain false) (Rows.fnFindLetterSpec.post enc Try.prog Try.f3 false true false false) := by
  refine returnsInHanded_of_change (C := Try.checked) own started (by kernel_rfl) Try.func3
    (ChangeSpec.witness6 (enc := enc) (C := Try.checked) false ⟨#[], #[.slice none 0 0], []⟩ 8 (by kernel_rfl) (by kernel_rfl) (by kernel_rfl) (by kernel_rfl)) ?_
  intro W base args ds gs before hval0 hW hcnd _
  have hval : ∀ (j : Nat) t v, Try.f3.params[j]? = some t → args[j]? = some v → Value.okWide Try.prog W .any base t v := hval0
  have hW' := hW
  obtain ⟨p, q, hA0, hV, rfl, hfz, hnd⟩ := hW
  have hA : DataW.TrodAll enc Try.prog W 0 (fun _ => true) true Try.f3.params.toList args.toList ds p := hA0
  rw [Try.params3] at hA hval
  obtain ⟨v0, vs0, d0, ds0, p0, q0, hargs, rfl, rfl, h0, r0⟩ := trodAll_cons hA
  obtain ⟨rfl, rfl, rfl⟩ := trodAll_nil r0
  obtain rfl : args = #[v0] := by cases args; simp_all
  obtain ⟨rfl, rfl⟩ := trodVars_none hV
  have g0 := h0
  have lt0 : ∀ x ∈ p0, x.block < W.heap.size := by obtain ⟨m, hm⟩ := g0; exact DataW.trod_lt m _ _ _ hm
  obtain ⟨a0, l0, k0, rfl⟩ := okWide_slice Try.underlying22 (hval 0 22 v0 rfl rfl)
  obtain ⟨z0, w0⟩ : ∃ zs, IsRow .u8 W a0 l0 k0 zs := by
    obtain ⟨fuel, hf⟩ := h0
    rcases open_ints Try.underlying22 Try.underlying5 (by kernel_rfl) hf with ⟨hcs, _⟩ | ⟨x, l, c, zs, hcs, _, hl, hm, hz, _, hcell, hwz⟩
    · simp [Value.cells] at hcs
      obtain ⟨rfl, rfl, rfl⟩ := hcs
      exact ⟨[], .inl ⟨rfl, rfl, rfl, rfl⟩⟩
    · simp [Value.cells] at hcs
      obtain ⟨rfl, rfl, rfl⟩ := hcs
      exact ⟨zs, .inr ⟨_, rfl, hl, hm, by simpa using hz, hcell, hwz⟩⟩
  clear hA0 hval0
  refine (walk W a0 l0 k0 z0 w0).mono fun e W' ⟨he, bel⟩ => ?_
  subst he
  exact ⟨_, rfl, _, _, _, [], _, [], hW', trodAll_mk1 (shut_bool Try.underlying4 _), (trodAll_cons_mk (Below.trod laidOut (by kernel_rfl) (of_decide_eq_true (by kernel_rfl)) g0 bel lt0) trodAll_mk0), rfl, bel.frame _, fun h => by cases h⟩

theorem proved : Rows.FnFindLetterSaid :=
  OpenClaim.holds_of_wide 3 Try.f3 rfl rfl rfl rfl rfl rfl rfl ⟨rfl, rfl, rfl, rfl, rfl⟩ rfl rfl rfl rfl rfl (by kernel_rfl) Try.func3 (by kernel_rfl)
    (of_decide_eq_true (by kernel_rfl)) (by unfold Func.isWrapper; first | (rw [if_pos (by decide +kernel)]; kernel_rfl) | (rw [if_neg (by decide +kernel)]; exact ⟨rfl, rfl⟩))
    (fun os started H enc _ => lifted os started H enc)
#print axioms proved
end Go.Proofs.Ytfiiakoljkffgaa.fnFindLetter
