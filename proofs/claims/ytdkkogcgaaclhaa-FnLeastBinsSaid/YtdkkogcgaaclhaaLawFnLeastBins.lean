/-
  For every slice of bytes, laws.FnLeastBins returns true.
-/
import Derived.Test.YtdkkogcgaaclhaaRows
import Derived.Test.YtdkkogcgaaclhaaDrawCap
import Derived.Test.YtdkkogcgaaclhaaCap
import Derived.WalkKit
import Derived.ProofKit
import Derived.OpenShut
import Derived.ShutString
import Derived.ChangeOld
import Derived.Below
import Derived.Handy
import Derived.Lib.Hide
namespace Go.Proofs.Ytdkkogcgaaclhaa.fnLeastBins
open Go.ChangeShapes Go.WideShapes Go.ChangeAt Go.RowKit
open Go.ChangeMaps (open_string shut_string)
open Go.PlainAid (bt get_bt bt_nonneg bt_le)
set_option linter.unusedVariables false

theorem own : ownKnob Try.prog.godebug = none := by kernel_rfl
theorem laidOut : laidOutB Try.prog = true := by kernel_rfl

set_option maxHeartbeats 2000000 in
set_option maxRecDepth 100000 in
theorem walk (w : World) (a0 : Option Addr) (l0 k0 : Nat) (z0 : List Int) (w0 : IsRow .u8 w a0 l0 k0 z0) :
    Calls Try.prog 7 #[.slice a0 l0 k0] w fun e w' => e = .returned (.bool true) ∧ Below w.heap.size w w' := by
  by_cases hl : 1048576 < l0
  · go_enter Try.func7, Try.ntmps7
    go_wp2
    go_ret
    exact ⟨rfl, Below.refl _ _⟩
  go_enter Try.func7, Try.ntmps7
  go_wp2_with fail
  refine (DrawLeastBins_any a0 l0 k0 z0 w w0).mono ?_
  rintro e u ⟨x, y, rfl, hx, hy, bl⟩
  have BL := Lib.hid bl
  clear bl
  have hge := M.leastBins_ge x y
  obtain ⟨n, hn⟩ : ∃ n, M.leastBins x y = n := ⟨_, rfl⟩
  have HI := Lib.hid (fun (j : Nat) (h0 : 0 ≤ x) (h1 : 2 ≤ (j : Int)) (h2 : (j : Int) ≤ 16) (h3 : 0 ≤ M.cap (j : Int) y) => hn ▸ M.leastBins_iff (c := x) (p := y) (b := (j : Int)) h0 h1 h2 h3)
  rw [hn] at hge
  have HN := Lib.hid hn
  have HG := Lib.hid hge
  clear hn hge
  go_wp2_with fail
  refine (impl_LeastBins _ x y).mono ?_
  rw [HN.out]
  rintro e v1 ⟨rfl, k1⟩
  replace BL := Lib.hid (step0 BL.out k1)
  clear k1
  go_wp2_with fail
  refine (spec_LeastBins _ x y).mono ?_
  rw [HN.out]
  rintro e v0 ⟨rfl, rfl⟩
  go_wp2
  go_loopw [6] (fun i wr => ∃ j : Nat, i = .int .i64 j ∧ 2 ≤ j ∧ j ≤ 17 ∧ v1 = wr) (fun i _ => 17 - (intOf i).toNat)
  case atStart => exact ⟨2, rfl, by omega, by omega, rfl⟩
  case round =>
    obtain ⟨j, rfl, j0, j1, rfl⟩ := hrel
    by_cases hj : j ≤ 16
    · have hji : decide ((j : Int) ≤ 16) = true := by simp; omega
      obtain ⟨c, hc⟩ : ∃ c, M.cap (j : Int) y = c := ⟨_, rfl⟩
      have HC := Lib.hid hc
      have hi := fun h0 h3 => HI.out j h0 (by omega) (by omega) h3
      rw [hc] at hi
      clear hc
      by_cases c0 : 0 ≤ c
      · by_cases x0 : 0 ≤ x
        · have hi := hi x0 c0
          by_cases hcx : x ≤ c
          · obtain ⟨n0, n1⟩ := hi.1 hcx
            clear hi
            go_wp2_with fail
            refine (impl_CapacityOf (j : Int) y _).mono ?_
            rw [HC.out]
            rintro e v0 ⟨rfl, rfl⟩
            go_wp2
            go_roundw
            case rel => exact ⟨j + 1, by go_num, by omega, by omega, trivial⟩
            case measure => simp [intOf]; omega
          · have hno : ¬ (0 < n ∧ n ≤ (j : Int)) := fun h => hcx (hi.2 h)
            clear hi
            by_cases n0 : 0 < n
            · have n1 : ¬ n ≤ (j : Int) := fun h => hno ⟨n0, h⟩
              clear hno
              go_wp2_with fail
              refine (impl_CapacityOf (j : Int) y _).mono ?_
              rw [HC.out]
              rintro e v0 ⟨rfl, rfl⟩
              go_wp2
              go_roundw
              case rel => exact ⟨j + 1, by go_num, by omega, by omega, trivial⟩
              case measure => simp [intOf]; omega
            · clear hno
              go_wp2_with fail
              refine (impl_CapacityOf (j : Int) y _).mono ?_
              rw [HC.out]
              rintro e v0 ⟨rfl, rfl⟩
              go_wp2
              go_roundw
              case rel => exact ⟨j + 1, by go_num, by omega, by omega, trivial⟩
              case measure => simp [intOf]; omega
        · clear hi
          go_wp2_with fail
          refine (impl_CapacityOf (j : Int) y _).mono ?_
          rw [HC.out]
          rintro e v0 ⟨rfl, rfl⟩
          go_wp2
          go_roundw
          case rel => exact ⟨j + 1, by go_num, by omega, by omega, trivial⟩
          case measure => simp [intOf]; omega
      · clear hi
        go_wp2_with fail
        refine (impl_CapacityOf (j : Int) y _).mono ?_
        rw [HC.out]
        rintro e v0 ⟨rfl, rfl⟩
        go_wp2
        go_roundw
        case rel => exact ⟨j + 1, by go_num, by omega, by omega, trivial⟩
        case measure => simp [intOf]; omega
    · have hji : decide ((j : Int) ≤ 16) = false := by simp; omega
      rcases HG.out with rfl | hge
      · go_wp2
        go_ret
        exact ⟨rfl, BL.out⟩
      · have hne : (n == -1) = false := by rw [beq_eq_false_iff_ne]; omega
        go_wp2
        go_ret
        exact ⟨rfl, BL.out⟩

set_option maxRecDepth 100000 in
theorem lifted (os : Os) (started : os.Started) (H : Type) (enc : TypeId × Value → H) :
    ReturnsInHanded {} Try.checked os 7 .any (Rows.fnLeastBinsSpec.pre6 enc Try.prog Try.f7 Rows.fnLeastBinsRow.domain false) (Rows.fnLeastBinsSpec.post enc Try.prog Try.f7 false true false false) := by
  refine returnsInHanded_of_change (C := Try.checked) own started (by kernel_rfl) Try.func7
    (ChangeSpec.witness6 (enc := enc) (C := Try.checked) false ⟨#[], #[.slice none 0 0], []⟩ 8 (by kernel_rfl) (by kernel_rfl) (by kernel_rfl) (by kernel_rfl)) ?_
  intro W base args ds gs before hval0 hW hcnd _
  have hval : ∀ (j : Nat) t v, Try.f7.params[j]? = some t → args[j]? = some v → Value.okWide Try.prog W .any base t v := hval0
  have hW' := hW
  obtain ⟨p, q, hA0, hV, rfl, hfz, hnd⟩ := hW
  have hA : DataW.TrodAll enc Try.prog W 0 (fun _ => true) true Try.f7.params.toList args.toList ds p := hA0
  rw [Try.params7] at hA hval
  obtain ⟨v0, vs0, d0, ds0, p0, q0, hargs, rfl, rfl, h0, r0⟩ := trodAll_cons hA
  obtain ⟨rfl, rfl, rfl⟩ := trodAll_nil r0
  obtain rfl : args = #[v0] := by cases args; simp_all
  obtain ⟨rfl, rfl⟩ := trodVars_none hV
  have g0 := h0
  have lt0 : ∀ x ∈ p0, x.block < W.heap.size := by obtain ⟨m, hm⟩ := g0; exact DataW.trod_lt m _ _ _ hm
  obtain ⟨a0, l0, k0, rfl⟩ := okWide_slice Try.underlying24 (hval 0 24 v0 rfl rfl)
  obtain ⟨z0, w0⟩ : ∃ zs, IsRow .u8 W a0 l0 k0 zs := by
    obtain ⟨fuel, hf⟩ := h0
    rcases open_ints Try.underlying24 Try.underlying5 (by kernel_rfl) hf with ⟨hcs, _⟩ | ⟨x, l, c, zs, hcs, _, hl, hm, hz, _, hcell, hwz⟩
    · simp [Value.cells] at hcs
      obtain ⟨rfl, rfl, rfl⟩ := hcs
      exact ⟨[], .inl ⟨rfl, rfl, rfl, rfl⟩⟩
    · simp [Value.cells] at hcs
      obtain ⟨rfl, rfl, rfl⟩ := hcs
      exact ⟨zs, .inr ⟨_, rfl, hl, hm, by simpa using hz, hcell, hwz⟩⟩
  clear hA0 hval0
  refine (walk W a0 l0 k0 z0 w0).mono fun e W' ⟨he, bel⟩ => ?_
  subst he
  exact ⟨_, rfl, _, _, _, [], _, [], hW', trodAll_mk1 (shut_bool Try.underlying4 _), (trodAll_cons_mk (Below.trod laidOut (by kernel_rfl) (of_decide_eq_true (by kernel_rfl)) g0 bel lt0) trodAll_mk0), rfl, bel.frame _, fun h => by cases h⟩

theorem proved : Rows.FnLeastBinsSaid :=
  OpenClaim.holds_of_wide 7 Try.f7 rfl rfl rfl rfl rfl rfl rfl ⟨rfl, rfl, rfl, rfl, rfl⟩ rfl rfl rfl rfl rfl (by kernel_rfl) Try.func7 (by kernel_rfl)
    (of_decide_eq_true (by kernel_rfl)) (by unfold Func.isWrapper; first | (rw [if_pos (by decide +kernel)]; kernel_rfl) | (rw [if_neg (by decide +kernel)]; exact ⟨rfl, rfl⟩))
    (fun os started H enc _ => lifted os started H enc)
#print axioms proved
end Go.Proofs.Ytdkkogcgaaclhaa.fnLeastBins
