/-
  For every slice of bytes, laws.FnCapacity returns true.
-/
import Derived.Test.YtdkkogcgaaclhaaRows
import Derived.Test.YtdkkogcgaaclhaaDrawCap
import Derived.Test.YtdkkogcgaaclhaaCap
import Derived.WalkKit
import Derived.ProofKit
import Derived.OpenShut
import Derived.ShutString
import Derived.ChangeOld
import Derived.Below
import Derived.Handy
import Derived.Lib.Hide
namespace Go.Proofs.Ytdkkogcgaaclhaa.fnCapacity
open Go.ChangeShapes Go.WideShapes Go.ChangeAt Go.RowKit
open Go.ChangeMaps (open_string shut_string)
open Go.PlainAid (bt get_bt bt_nonneg bt_le)
set_option linter.unusedVariables false

theorem own : ownKnob Try.prog.godebug = none := by kernel_rfl
theorem laidOut : laidOutB Try.prog = true := by kernel_rfl

set_option maxHeartbeats 2000000 in
set_option maxRecDepth 100000 in
theorem walk (w : World) (a0 : Option Addr) (l0 k0 : Nat) (z0 : List Int) (w0 : IsRow .u8 w a0 l0 k0 z0) :
    Calls Try.prog 6 #[.slice a0 l0 k0] w fun e w' => e = .returned (.bool true) ∧ Below w.heap.size w w' := by
  by_cases hl : 1048576 < l0
  · go_enter Try.func6, Try.ntmps6
    go_wp2
    go_ret
    exact ⟨rfl, Below.refl _ _⟩
  go_enter Try.func6, Try.ntmps6
  go_wp2_with fail
  refine (DrawCapacityOf_any a0 l0 k0 z0 w w0).mono ?_
  rintro e u ⟨x, y, rfl, hx, hy, bl⟩
  have BL := Lib.hid bl
  clear bl
  cases hs : M.shape x y
  · have hv := Lib.hid (M.cap_no hs)
    go_wp2_with fail
    refine (impl_CapacityOf x y _).mono ?_
    rw [hv.out]
    rintro e v0 ⟨rfl, rfl⟩
    go_wp2_with fail
    refine (spec_CapacityOf x y _).mono ?_
    rw [hv.out]
    rintro e v0 ⟨rfl, rfl⟩
    go_wp2_with fail
    refine (spec_CapacityOf x y _).mono ?_
    rw [hv.out]
    rintro e v0 ⟨rfl, rfl⟩
    go_wp2
    go_ret
    exact ⟨rfl, BL.out⟩
  · obtain ⟨s1, s2, s3, s4⟩ := M.shape_yes hs
    obtain ⟨e1, e2, e3, e4⟩ := M.exact_all hs
    have hbd := M.cap_bd x y
    have hps : 0 ≤ M.cap x y := by
      by_cases h : M.cap x y < 0
      · rw [M.cap_neg.1 h] at hs; cases hs
      · omega
    obtain ⟨c, hc⟩ : ∃ c, M.cap x y = c := ⟨_, rfl⟩
    rw [hc] at e1 e2 e3 e4 hbd hps
    have HC := Lib.hid hc
    have E1 := Lib.hid e1
    have E2 := Lib.hid e2
    clear hc e1 e2 hs
    have c0 : decide (c < 0) = false := by simp; omega
    have hbd2 := hbd.2
    by_cases y1 : 1 < y
    · by_cases y4 : y = 4
      · have q4 : (y == 4) = true := by rw [y4]; rfl
        clear e3 y4
        rw [if_pos y1] at e4
        obtain ⟨d, hd⟩ : ∃ d, M.cap x (y - 1) = d := ⟨_, rfl⟩
        rw [hd] at e4
        have HD := Lib.hid hd
        have hdb := M.cap_bd x (y - 1)
        rw [hd] at hdb
        clear hd
        have m1 : IntKind.i64.wrap (d * x) = c := by rw [← e4]; exact IntWalk.i64_in _ (by omega)
        have M1 := Lib.hid m1
        clear m1
        have m2 : IntKind.i64.wrap (d * x) = d * x := IntWalk.i64_in _ (by omega)
        have m3 : (c == d * x) = true := by rw [← e4]; simp
        clear M1
        have E4 := Lib.hid e4
        clear e4
        go_wp2_with fail
        refine (impl_CapacityOf x y _).mono ?_
        rw [HC.out]
        rintro e v0 ⟨rfl, rfl⟩
        go_wp2_with fail
        refine (spec_CapacityOf x y _).mono ?_
        rw [HC.out]
        rintro e v0 ⟨rfl, rfl⟩
        go_wp2_with fail
        refine (impl_CapacityOf x (y - 1) _).mono ?_
        rw [HD.out]
        rintro e v0 ⟨rfl, rfl⟩
        go_wp2_with fail
        refine (impl_LeastPasses _ c x).mono ?_
        rw [E1.out]
        rintro e v1 ⟨rfl, k1⟩
        replace BL := Lib.hid (step0 BL.out k1)
        clear k1
        go_wp2_with fail
        refine (impl_LeastBins _ c y).mono ?_
        rw [E2.out]
        rintro e v2 ⟨rfl, k2⟩
        replace BL := Lib.hid (step0 BL.out k2)
        clear k2
        go_wp2
        go_ret
        exact ⟨rfl, BL.out⟩
      · have E3 := Lib.hid (show M.leastPasses (c + 1) x = y + 1 from by rcases e3 with h | h; (exact absurd h y4); exact h)
        have q4 : (y == 4) = false := by rw [beq_eq_false_iff_ne]; exact y4
        clear e3 y4
        rw [if_pos y1] at e4
        obtain ⟨d, hd⟩ : ∃ d, M.cap x (y - 1) = d := ⟨_, rfl⟩
        rw [hd] at e4
        have HD := Lib.hid hd
        have hdb := M.cap_bd x (y - 1)
        rw [hd] at hdb
        clear hd
        have m1 : IntKind.i64.wrap (d * x) = c := by rw [← e4]; exact IntWalk.i64_in _ (by omega)
        have M1 := Lib.hid m1
        clear m1
        have m2 : IntKind.i64.wrap (d * x) = d * x := IntWalk.i64_in _ (by omega)
        have m3 : (c == d * x) = true := by rw [← e4]; simp
        clear M1
        have E4 := Lib.hid e4
        clear e4
        go_wp2_with fail
        refine (impl_CapacityOf x y _).mono ?_
        rw [HC.out]
        rintro e v0 ⟨rfl, rfl⟩
        go_wp2_with fail
        refine (spec_CapacityOf x y _).mono ?_
        rw [HC.out]
        rintro e v0 ⟨rfl, rfl⟩
        go_wp2_with fail
        refine (impl_CapacityOf x (y - 1) _).mono ?_
        rw [HD.out]
        rintro e v0 ⟨rfl, rfl⟩
        go_wp2_with fail
        refine (impl_LeastPasses _ c x).mono ?_
        rw [E1.out]
        rintro e v1 ⟨rfl, k1⟩
        replace BL := Lib.hid (step0 BL.out k1)
        clear k1
        go_wp2_with fail
        refine (impl_LeastBins _ c y).mono ?_
        rw [E2.out]
        rintro e v2 ⟨rfl, k2⟩
        replace BL := Lib.hid (step0 BL.out k2)
        clear k2
        go_wp2_with fail
        refine (impl_LeastPasses _ (c + 1) x).mono ?_
        rw [E3.out]
        rintro e v3 ⟨rfl, k3⟩
        replace BL := Lib.hid (step0 BL.out k3)
        clear k3
        go_wp2
        go_ret
        exact ⟨rfl, BL.out⟩
    · obtain rfl : y = 1 := by omega
      have E3 := Lib.hid (show M.leastPasses (c + 1) x = 1 + 1 from by rcases e3 with h | h; (omega); exact h)
      rw [if_neg y1, Int.one_mul] at e4
      subst e4
      clear e3
      go_wp2_with fail
      refine (impl_CapacityOf c 1 _).mono ?_
      rw [HC.out]
      rintro e v0 ⟨rfl, rfl⟩
      go_wp2_with fail
      refine (spec_CapacityOf c 1 _).mono ?_
      rw [HC.out]
      rintro e v0 ⟨rfl, rfl⟩
      go_wp2_with fail
      refine (impl_LeastPasses _ c c).mono ?_
      rw [E1.out]
      rintro e v1 ⟨rfl, k1⟩
      replace BL := Lib.hid (step0 BL.out k1)
      clear k1
      go_wp2_with fail
      refine (impl_LeastBins _ c 1).mono ?_
      rw [E2.out]
      rintro e v2 ⟨rfl, k2⟩
      replace BL := Lib.hid (step0 BL.out k2)
      clear k2
      go_wp2_with fail
      refine (impl_LeastPasses _ (c + 1) c).mono ?_
      rw [E3.out]
      rintro e v3 ⟨rfl, k3⟩
      replace BL := Lib.hid (step0 BL.out k3)
      clear k3
      go_wp2
      go_ret
      exact ⟨rfl, BL.out⟩

set_option maxRecDepth 100000 in
theorem lifted (os : Os) (started : os.Started) (H : Type) (enc : TypeId × Value → H) :
    ReturnsInHanded {} Try.checked os 6 .any (Rows.fnCapacitySpec.pre6 enc Try.prog Try.f6 Rows.fnCapacityRow.domain false) (Rows.fnCapacitySpec.post enc Try.prog Try.f6 false true false false) := by
  refine returnsInHanded_of_change (C := Try.checked) own started (by kernel_rfl) Try.func6
    (ChangeSpec.witness6 (enc := enc) (C := Try.checked) false ⟨#[], #[.slice none 0 0], []⟩ 8 (by kernel_rfl) (by kernel_rfl) (by kernel_rfl) (by kernel_rfl)) ?_
  intro W base args ds gs before hval0 hW hcnd _
  have hval : ∀ (j : Nat) t v, Try.f6.params[j]? = some t → args[j]? = some v → Value.okWide Try.prog W .any base t v := hval0
  have hW' := hW
  obtain ⟨p, q, hA0, hV, rfl, hfz, hnd⟩ := hW
  have hA : DataW.TrodAll enc Try.prog W 0 (fun _ => true) true Try.f6.params.toList args.toList ds p := hA0
  rw [Try.params6] at hA hval
  obtain ⟨v0, vs0, d0, ds0, p0, q0, hargs, rfl, rfl, h0, r0⟩ := trodAll_cons hA
  obtain ⟨rfl, rfl, rfl⟩ := trodAll_nil r0
  obtain rfl : args = #[v0] := by cases args; simp_all
  obtain ⟨rfl, rfl⟩ := trodVars_none hV
  have g0 := h0
  have lt0 : ∀ x ∈ p0, x.block < W.heap.size := by obtain ⟨m, hm⟩ := g0; exact DataW.trod_lt m _ _ _ hm
  obtain ⟨a0, l0, k0, rfl⟩ := okWide_slice Try.underlying24 (hval 0 24 v0 rfl rfl)
  obtain ⟨z0, w0⟩ : ∃ zs, IsRow .u8 W a0 l0 k0 zs := by
    obtain ⟨fuel, hf⟩ := h0
    rcases open_ints Try.underlying24 Try.underlying5 (by kernel_rfl) hf with ⟨hcs, _⟩ | ⟨x, l, c, zs, hcs, _, hl, hm, hz, _, hcell, hwz⟩
    · simp [Value.cells] at hcs
      obtain ⟨rfl, rfl, rfl⟩ := hcs
      exact ⟨[], .inl ⟨rfl, rfl, rfl, rfl⟩⟩
    · simp [Value.cells] at hcs
      obtain ⟨rfl, rfl, rfl⟩ := hcs
      exact ⟨zs, .inr ⟨_, rfl, hl, hm, by simpa using hz, hcell, hwz⟩⟩
  clear hA0 hval0
  refine (walk W a0 l0 k0 z0 w0).mono fun e W' ⟨he, bel⟩ => ?_
  subst he
  exact ⟨_, rfl, _, _, _, [], _, [], hW', trodAll_mk1 (shut_bool Try.underlying4 _), (trodAll_cons_mk (Below.trod laidOut (by kernel_rfl) (of_decide_eq_true (by kernel_rfl)) g0 bel lt0) trodAll_mk0), rfl, bel.frame _, fun h => by cases h⟩

theorem proved : Rows.FnCapacitySaid :=
  OpenClaim.holds_of_wide 6 Try.f6 rfl rfl rfl rfl rfl rfl rfl ⟨rfl, rfl, rfl, rfl, rfl⟩ rfl rfl rfl rfl rfl (by kernel_rfl) Try.func6 (by kernel_rfl)
    (of_decide_eq_true (by kernel_rfl)) (by unfold Func.isWrapper; first | (rw [if_pos (by decide +kernel)]; kernel_rfl) | (rw [if_neg (by decide +kernel)]; exact ⟨rfl, rfl⟩))
    (fun os started H enc _ => lifted os started H enc)
#print axioms proved
end Go.Proofs.Ytdkkogcgaaclhaa.fnCapacity
