/-
  For every slice of bytes, laws.FnLeastTrays returns true.
-/
import Derived.Test.YtbaoinbafkfciaaRows
import Derived.Test.YtbaoinbafkfciaaDrawT
import Derived.Test.YtbaoinbafkfciaaLeastM
import Derived.WalkKit
import Derived.ProofKit
import Derived.OpenShut
import Derived.ShutString
import Derived.ChangeOld
import Derived.Below
import Derived.Handy
import Derived.Lib.Hide
namespace Go.Proofs.Ytbaoinbafkfciaa.fnLeastTrays
open Go.ChangeShapes Go.WideShapes Go.ChangeAt Go.RowKit
open Go.ChangeMaps (open_string shut_string)
open Go.PlainAid (bt get_bt bt_nonneg bt_le)
set_option linter.unusedVariables false

theorem own : ownKnob Try.prog.godebug = none := by kernel_rfl
theorem laidOut : laidOutB Try.prog = true := by kernel_rfl

set_option maxHeartbeats 2000000 in
set_option maxRecDepth 100000 in
theorem walk (w : World) (a0 : Option Addr) (l0 k0 : Nat) (z0 : List Int) (w0 : IsRow .u8 w a0 l0 k0 z0) :
    Calls Try.prog 4 #[.slice a0 l0 k0] w fun e w' => e = .returned (.bool true) ∧ Below w.heap.size w w' := by
  by_cases hl : 1048576 < l0
  · go_enter Try.func4, Try.ntmps4
    go_wp2
    go_ret
    exact ⟨rfl, Below.refl _ _⟩
  go_enter Try.func4, Try.ntmps4
  go_wp2_with fail
  refine (DrawLeastTrays_any a0 l0 k0 z0 w w0).mono ?_
  rintro e u ⟨x, y, rfl, bl⟩
  have BL := Lib.hid bl
  clear bl
  obtain ⟨q, hq⟩ : ∃ q, MW.leastTrays x y = q := ⟨_, rfl⟩
  have HQ := Lib.hid hq
  by_cases hok : (0 ≤ x ∧ x ≤ 60) ∧ 1 ≤ y ∧ y ≤ 20
  · have hv : q = (x + y - 1) / y := by rw [← hq]; exact if_pos hok
    obtain ⟨⟨x0, x1⟩, y0, y1⟩ := hok
    obtain ⟨m1, m2, m3, m4⟩ := trays_enough x y x0 x1 y0 y1
    rw [← hv] at m1 m2 m3 m4
    have q0 : decide (q < 0) = false := decide_eq_false (by omega)
    obtain ⟨p, hp⟩ : ∃ p, q * y = p := ⟨_, rfl⟩
    rw [hp] at m1 m2
    have p1 : 0 ≤ p ∧ p ≤ 200 := by omega
    have w1 : IntKind.i64.wrap (q * y) = p := by rw [hp]; exact IntWalk.i64_in _ (by omega)
    have hr : (q - 1) * y = p - y := by rw [Int.sub_mul, hp]; omega
    have w2 : IntKind.i64.wrap ((q - 1) * y) = p - y := by rw [hr]; exact IntWalk.i64_in _ (by omega)
    have w3 : IntKind.i64.wrap (q - 1) = q - 1 := IntWalk.i64_in _ (by omega)
    have d1 : decide (x ≤ p) = true := decide_eq_true m1
    have d2 : decide (p - y < x) = true := decide_eq_true (by omega)
    have HP := Lib.hid hp
    have HR := Lib.hid hr
    clear hq hv hp hr
    have hs : q * y = p := HP.out
    go_wp2_with (first | (go_at_call 15; refine (impl_LeastTrays x y _).mono ?_; rw [HQ.out]; rintro e v0 ⟨rfl, rfl⟩) | (go_at_call 18; refine (spec_LeastTrays x y _).mono ?_; rw [HQ.out]; rintro e v0 ⟨rfl, rfl⟩))
    all_goals
      go_ret
      exact ⟨by first | rfl | simp, BL.out⟩
  · have hv : q = -1 := by rw [← hq]; exact if_neg hok
    subst hv
    clear hq hok
    go_wp2_with (first | (go_at_call 15; refine (impl_LeastTrays x y _).mono ?_; rw [HQ.out]; rintro e v0 ⟨rfl, rfl⟩) | (go_at_call 18; refine (spec_LeastTrays x y _).mono ?_; rw [HQ.out]; rintro e v0 ⟨rfl, rfl⟩))
    go_ret
    exact ⟨rfl, BL.out⟩

set_option maxRecDepth 100000 in
theorem lifted (os : Os) (started : os.Started) (H : Type) (enc : TypeId × Value → H) :
    ReturnsInHanded {} Try.checked os 4 .any (Rows.fnLeastTraysSpec.pre6 enc Try.prog Try.f4 Rows.fnLeastTraysRow.domain false) (Rows.fnLeastTraysSpec.post enc Try.prog Try.f4 false true false false) := by
  refine returnsInHanded_of_change (C := Try.checked) own started (by kernel_rfl) Try.func4
    (ChangeSpec.witness6 (enc := enc) (C := Try.checked) false ⟨#[], #[.slice none 0 0], []⟩ 8 (by kernel_rfl) (by kernel_rfl) (by kernel_rfl) (by kernel_rfl)) ?_
  intro W base args ds gs before hval0 hW hcnd _
  have hval : ∀ (j : Nat) t v, Try.f4.params[j]? = some t → args[j]? = some v → Value.okWide Try.prog W .any base t v := hval0
  have hW' := hW
  obtain ⟨p, q, hA0, hV, rfl, hfz, hnd⟩ := hW
  have hA : DataW.TrodAll enc Try.prog W 0 (fun _ => true) true Try.f4.params.toList args.toList ds p := hA0
  rw [Try.params4] at hA hval
  obtain ⟨v0, vs0, d0, ds0, p0, q0, hargs, rfl, rfl, h0, r0⟩ := trodAll_cons hA
  obtain ⟨rfl, rfl, rfl⟩ := trodAll_nil r0
  obtain rfl : args = #[v0] := by cases args; simp_all
  obtain ⟨rfl, rfl⟩ := trodVars_none hV
  have g0 := h0
  have lt0 : ∀ x ∈ p0, x.block < W.heap.size := by obtain ⟨m, hm⟩ := g0; exact DataW.trod_lt m _ _ _ hm
  obtain ⟨a0, l0, k0, rfl⟩ := okWide_slice Try.underlying22 (hval 0 22 v0 rfl rfl)
  obtain ⟨z0, w0⟩ : ∃ zs, IsRow .u8 W a0 l0 k0 zs := by
    obtain ⟨fuel, hf⟩ := h0
    rcases open_ints Try.underlying22 Try.underlying5 (by kernel_rfl) hf with ⟨hcs, _⟩ | ⟨x, l, c, zs, hcs, _, hl, hm, hz, _, hcell, hwz⟩
    · simp [Value.cells] at hcs
      obtain ⟨rfl, rfl, rfl⟩ := hcs
      exact ⟨[], .inl ⟨rfl, rfl, rfl, rfl⟩⟩
    · simp [Value.cells] at hcs
      obtain ⟨rfl, rfl, rfl⟩ := hcs
      exact ⟨zs, .inr ⟨_, rfl, hl, hm, by simpa using hz, hcell, hwz⟩⟩
  clear hA0 hval0
  refine (walk W a0 l0 k0 z0 w0).mono fun e W' ⟨he, bel⟩ => ?_
  subst he
  exact ⟨_, rfl, _, _, _, [], _, [], hW', trodAll_mk1 (shut_bool Try.underlying4 _), (trodAll_cons_mk (Below.trod laidOut (by kernel_rfl) (of_decide_eq_true (by kernel_rfl)) g0 bel lt0) trodAll_mk0), rfl, bel.frame _, fun h => by cases h⟩

theorem proved : Rows.FnLeastTraysSaid :=
  OpenClaim.holds_of_wide 4 Try.f4 rfl rfl rfl rfl rfl rfl rfl ⟨rfl, rfl, rfl, rfl, rfl⟩ rfl rfl rfl rfl rfl (by kernel_rfl) Try.func4 (by kernel_rfl)
    (of_decide_eq_true (by kernel_rfl)) (by unfold Func.isWrapper; first | (rw [if_pos (by decide +kernel)]; kernel_rfl) | (rw [if_neg (by decide +kernel)]; exact ⟨rfl, rfl⟩))
    (fun os started H enc _ => lifted os started H enc)
#print axioms proved
end Go.Proofs.Ytbaoinbafkfciaa.fnLeastTrays
