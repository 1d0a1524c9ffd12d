/-
  For every slice of bytes, laws.FnLookUp returns true.
-/
import Derived.Test.YtabmbbnfpfkcaaaRows
import Derived.Test.YtabmbbnfpfkcaaaDrawRm
import Derived.Test.YtabmbbnfpfkcaaaLkM
import Derived.Test.YtabmbbnfpfkcaaaRulW
import Derived.BigQuiet
import Derived.WalkKit
import Derived.ProofKit
import Derived.OpenShut
import Derived.ShutString
import Derived.ChangeOld
import Derived.Below
import Derived.Handy
import Derived.Lib.Hide
namespace Go.Proofs.Ytabmbbnfpfkcaaa.fnLookUp
open Go.ChangeShapes Go.WideShapes Go.ChangeAt Go.RowKit
open Go.ChangeMaps (open_string shut_string)
open Go.PlainAid (bt get_bt bt_nonneg bt_le)
set_option linter.unusedVariables false

theorem own : ownKnob Try.prog.godebug = none := by kernel_rfl
theorem laidOut : laidOutB Try.prog = true := by kernel_rfl

set_option maxHeartbeats 40000000 in
set_option maxRecDepth 100000 in
theorem walk (w : World) (a0 : Option Addr) (l0 k0 : Nat) (z0 : List Int) (w0 : IsRow .u8 w a0 l0 k0 z0) :
    Calls Try.prog 3 #[.slice a0 l0 k0] w fun e w' => e = .returned (.bool true) ∧ Below w.heap.size w w' := by
  by_cases hl : 1048576 < l0
  · go_enter Try.func3, Try.ntmps3
    go_wp2
    go_ret
    exact ⟨rfl, Below.refl _ _⟩
  go_enter Try.func3, Try.ntmps3
  go_wp2_with fail
  refine (DrawLookUp_any a0 l0 k0 z0 w w0).mono ?_
  rintro e u ⟨v, c, rfl, hcs, a, cp, L, rfl, lt, fi, hn31, hsm, bl⟩
  have LT := Lib.hid lt
  have FI := Lib.hid fi
  have BL := Lib.hid bl
  have hcm : c.size ≤ maxLen := by unfold maxLen; omega
  clear lt fi bl hsm
  generalize L.length = n at LT FI hn31 ⊢
  generalize nF L = F at LT FI
  generalize nT L = T at LT FI
  clear L
  obtain ⟨s, y, hv⟩ := lk_form (M.lookUp F T n c)
  have HI := Lib.hid (fun X hw => impl_LookUp X a n cp F T hw FI.out c hcm)
  have HS : Hid (∀ X, Fws X a n F T → Calls Try.prog 11 #[.slice a n cp, .string c] X fun e w' => e = .returned (lkV (M.lookUp F T n c)) ∧ Below X.heap.size X w') := fun X hw => (spec_LookUp X a n cp F T hw FI.out (by omega) c hcm).mono fun e w' h => ⟨h.1, by obtain ⟨m, h2⟩ := h.2; rw [h2]; exact below_drewN0 (Below.refl _ _) m⟩
  have HR := Lib.hid (fun X hw => impl_RulesValid X a n cp F T hw FI.out)
  have HC := Lib.hid (fun X => impl_CodeValid c X hcm)
  rw [hv] at HI HS
  have HV := Lib.hid hv
  clear hv
  cases hr : M.rul n F T
  · rw [hr] at HR
    clear hr HV
    go_wp2_with fail
    refine (HI.out _ LT.out).mono ?_
    rintro e v1 ⟨rfl, k1⟩
    replace BL := Lib.hid (step BL.out k1)
    replace LT := Lib.hid (LT.out.on k1)
    clear k1
    go_wp2_with fail
    refine (HS.out _ LT.out).mono ?_
    rintro e v2 ⟨rfl, k2⟩
    replace BL := Lib.hid (step BL.out k2)
    replace LT := Lib.hid (LT.out.on k2)
    clear k2
    go_wp2_with fail
    refine (HR.out _ LT.out).mono ?_
    rintro e v3 ⟨rfl, k3⟩
    replace BL := Lib.hid (step BL.out k3)
    replace LT := Lib.hid (LT.out.on k3)
    clear k3
    go_wp2
    go_ret
    exact ⟨rfl, BL.out⟩
  · cases hc : M.code c
    · rw [hr] at HR
      rw [hc] at HC
      clear hr hc HV
      go_wp2_with fail
      refine (HI.out _ LT.out).mono ?_
      rintro e v1 ⟨rfl, k1⟩
      replace BL := Lib.hid (step BL.out k1)
      replace LT := Lib.hid (LT.out.on k1)
      clear k1
      go_wp2_with fail
      refine (HS.out _ LT.out).mono ?_
      rintro e v2 ⟨rfl, k2⟩
      replace BL := Lib.hid (step BL.out k2)
      replace LT := Lib.hid (LT.out.on k2)
      clear k2
      go_wp2_with fail
      refine (HR.out _ LT.out).mono ?_
      rintro e v3 ⟨rfl, k3⟩
      replace BL := Lib.hid (step BL.out k3)
      replace LT := Lib.hid (LT.out.on k3)
      clear k3
      go_wp2_with fail
      refine ((HC.out _).mono (fun e w' h => And.intro h.1 h.2.below)).mono ?_
      rintro e v4 ⟨rfl, k4⟩
      replace BL := Lib.hid (step BL.out k4)
      replace LT := Lib.hid (LT.out.on k4)
      clear k4
      go_wp2
      go_ret
      exact ⟨rfl, BL.out⟩
    · have HRT := Lib.hid hr
      have HCT := Lib.hid hc
      rw [hr] at HR
      rw [hc] at HC
      clear hr hc
      go_wp2_with fail
      refine (HI.out _ LT.out).mono ?_
      rintro e v1 ⟨rfl, k1⟩
      replace BL := Lib.hid (step BL.out k1)
      replace LT := Lib.hid (LT.out.on k1)
      clear k1
      go_wp2_with fail
      refine (HS.out _ LT.out).mono ?_
      rintro e v2 ⟨rfl, k2⟩
      replace BL := Lib.hid (step BL.out k2)
      replace LT := Lib.hid (LT.out.on k2)
      clear k2
      go_wp2_with fail
      refine (HR.out _ LT.out).mono ?_
      rintro e v3 ⟨rfl, k3⟩
      replace BL := Lib.hid (step BL.out k3)
      replace LT := Lib.hid (LT.out.on k3)
      clear k3
      go_wp2_with fail
      refine ((HC.out _).mono (fun e w' h => And.intro h.1 h.2.below)).mono ?_
      rintro e v4 ⟨rfl, k4⟩
      replace BL := Lib.hid (step BL.out k4)
      replace LT := Lib.hid (LT.out.on k4)
      clear k4
      clear HI HS HR HC
      go_wp2
      go_loopw [9] (fun vn wr => ∃ j : Nat, j ≤ c.size + 1 ∧ vn = .int .i64 ((j : Int) - 1) ∧ Hid (∀ j', j ≤ j' → j' ≤ c.size → ∀ k, k < n → F k ≠ c.extract 0 j') ∧ Hid (Fws wr a n F T) ∧ Hid (Below w.heap.size w wr)) (fun vn _ => (intOf vn + 1).toNat)
      case atStart => exact ⟨c.size + 1, Nat.le_refl _, by go_num, (fun j' h1 h2 => by omega), LT, BL⟩
      case round =>
        obtain ⟨j, hj, rfl, hno, hlt, hbl⟩ := hrel
        by_cases h0 : 0 < j
        · obtain ⟨m, hm⟩ : ∃ m, j = m + 1 := ⟨j - 1, by omega⟩
          subst hm
          have hji : ((m + 1 : Nat) : Int) - 1 = (m : Int) := by omega
          rw [hji]
          have hm0 : (0 : Int) ≤ (m : Int) := by omega
          have hm1 : (m : Int) ≤ (c.size : Int) := by omega
          have hm2 : m ≤ c.size := by omega
          have HBL := hbl
          clear hbl hji
          go_wp2
          go_loopw [10] (fun vi wq => ∃ i : Nat, i ≤ n ∧ vi = .int .i64 i ∧ Hid (∀ k, k < i → F k ≠ c.extract 0 m) ∧ Hid (Fws wq a n F T) ∧ Hid (Below w.heap.size w wq)) (fun vi _ => n - (intOf vi).toNat)
          case atStart => exact ⟨0, Nat.zero_le _, rfl, (fun k h => by omega), hlt, HBL⟩
          case round =>
            obtain ⟨i, hi, rfl, hni, hlt2, hbl2⟩ := hrel
            by_cases hin : i < n
            · obtain ⟨b, o, rfl, c0, c1⟩ := hlt2.out i hin
              obtain ⟨x, hx⟩ : ∃ x, c.extract 0 m = x := ⟨_, rfl⟩
              have HX := Lib.hid hx
              clear hx
              by_cases he : F i = c.extract 0 m
              · have hhit := M.look_hits HRT.out HCT.out hm2 hin he (fun j' h1 h2 => hno.out j' (by omega) h2)
                have hv2 := HV.out
                rw [hhit] at hv2
                have hv3 : Value.tuple #[.string (T i), .bool true] = Value.tuple #[.string s, .bool y] := hv2
                injection hv3 with hv3
                simp at hv3
                obtain ⟨hs1, hy1⟩ := hv3
                subst hy1
                have hd : ((F i).toList == (c.extract 0 m).toList) = true := by rw [he]; simp
                have hd2 : ((T i).toList == s.toList) = true := by rw [hs1]; simp
                clear he hhit hv2 hs1
                go_wp2_with fail
                go_quiet (fail)
                go_wp2
                go_ret
                exact ⟨rfl, below_drewN0 hbl2.out _⟩
              · have hd : ((F i).toList == (c.extract 0 m).toList) = false := neq_list0 he
                have hni2 : Hid (∀ k, k < i + 1 → F k ≠ c.extract 0 m) := fun k hk => by
                  by_cases e : k = i
                  · subst e; exact he
                  · exact hni.out k (by omega)
                clear he hni hno
                go_wp2_with fail
                go_quiet (fail)
                go_wp2
                go_roundw
                case rel => exact ⟨i + 1, by omega, by go_num, hni2, hlt2.out.on (below_drewN0 (Below.refl _ _) _), below_drewN0 hbl2.out _⟩
                case measure => first | (simp [intOf]; done) | (simp [intOf]; omega)
            · obtain rfl : i = n := by omega
              have hno2 : Hid (∀ j', m ≤ j' → j' ≤ c.size → ∀ k, k < i → F k ≠ c.extract 0 j') := fun j' h1 h2 => by
                by_cases e : j' = m
                · subst e; exact hni.out
                · exact hno.out j' (by omega) h2
              clear hno hni
              go_wp2
              go_roundw
              case rel => exact ⟨m, by omega, by go_num, hno2, hlt2, hbl2⟩
              case measure => first | (simp [intOf]; done) | (simp [intOf]; omega)
        · obtain rfl : j = 0 := by omega
          have hmis := M.look_misses HRT.out HCT.out (fun j' h2 => hno.out j' (Nat.zero_le _) h2)
          have hv2 := HV.out
          rw [hmis] at hv2
          have hv3 : Value.tuple #[.string ⟨#[]⟩, .bool false] = Value.tuple #[.string s, .bool y] := hv2
          injection hv3 with hv3
          simp at hv3
          obtain ⟨hs1, hy1⟩ := hv3
          subst hy1
          clear hmis hv2 hs1
          go_wp2
          go_ret
          exact ⟨rfl, hbl.out⟩

set_option maxRecDepth 100000 in
theorem lifted (os : Os) (started : os.Started) (H : Type) (enc : TypeId × Value → H) :
    ReturnsInHanded {} Try.checked os 3 .any (Rows.fnLookUpSpec.pre6 enc Try.prog Try.f3 Rows.fnLookUpRow.domain false) (Rows.fnLookUpSpec.post enc Try.prog Try.f3 false true false false) := by
  refine returnsInHanded_of_change (C := Try.checked) own started (by kernel_rfl) Try.func3
    (ChangeSpec.witness6 (enc := enc) (C := Try.checked) false ⟨#[], #[.slice none 0 0], []⟩ 8 (by kernel_rfl) (by kernel_rfl) (by kernel_rfl) (by kernel_rfl)) ?_
  intro W base args ds gs before hval0 hW hcnd _
  have hval : ∀ (j : Nat) t v, Try.f3.params[j]? = some t → args[j]? = some v → Value.okWide Try.prog W .any base t v := hval0
  have hW' := hW
  obtain ⟨p, q, hA0, hV, rfl, hfz, hnd⟩ := hW
  have hA : DataW.TrodAll enc Try.prog W 0 (fun _ => true) true Try.f3.params.toList args.toList ds p := hA0
  rw [Try.params3] at hA hval
  obtain ⟨v0, vs0, d0, ds0, p0, q0, hargs, rfl, rfl, h0, r0⟩ := trodAll_cons hA
  obtain ⟨rfl, rfl, rfl⟩ := trodAll_nil r0
  obtain rfl : args = #[v0] := by cases args; simp_all
  obtain ⟨rfl, rfl⟩ := trodVars_none hV
  have g0 := h0
  have lt0 : ∀ x ∈ p0, x.block < W.heap.size := by obtain ⟨m, hm⟩ := g0; exact DataW.trod_lt m _ _ _ hm
  obtain ⟨a0, l0, k0, rfl⟩ := okWide_slice Try.underlying22 (hval 0 22 v0 rfl rfl)
  obtain ⟨z0, w0⟩ : ∃ zs, IsRow .u8 W a0 l0 k0 zs := by
    obtain ⟨fuel, hf⟩ := h0
    rcases open_ints Try.underlying22 Try.underlying5 (by kernel_rfl) hf with ⟨hcs, _⟩ | ⟨x, l, c, zs, hcs, _, hl, hm, hz, _, hcell, hwz⟩
    · simp [Value.cells] at hcs
      obtain ⟨rfl, rfl, rfl⟩ := hcs
      exact ⟨[], .inl ⟨rfl, rfl, rfl, rfl⟩⟩
    · simp [Value.cells] at hcs
      obtain ⟨rfl, rfl, rfl⟩ := hcs
      exact ⟨zs, .inr ⟨_, rfl, hl, hm, by simpa using hz, hcell, hwz⟩⟩
  clear hA0 hval0
  refine (walk W a0 l0 k0 z0 w0).mono fun e W' ⟨he, bel⟩ => ?_
  subst he
  exact ⟨_, rfl, _, _, _, [], _, [], hW', trodAll_mk1 (shut_bool Try.underlying4 _), (trodAll_cons_mk (Below.trod laidOut (by kernel_rfl) (of_decide_eq_true (by kernel_rfl)) g0 bel lt0) trodAll_mk0), rfl, bel.frame _, fun h => by cases h⟩

theorem proved : Rows.FnLookUpSaid :=
  OpenClaim.holds_of_wide 3 Try.f3 rfl rfl rfl rfl rfl rfl rfl ⟨rfl, rfl, rfl, rfl, rfl⟩ rfl rfl rfl rfl rfl (by kernel_rfl) Try.func3 (by kernel_rfl)
    (of_decide_eq_true (by kernel_rfl)) (by unfold Func.isWrapper; first | (rw [if_pos (by decide +kernel)]; kernel_rfl) | (rw [if_neg (by decide +kernel)]; exact ⟨rfl, rfl⟩))
    (fun os started H enc _ => lifted os started H enc)
#print axioms proved
end Go.Proofs.Ytabmbbnfpfkcaaa.fnLookUp
