/-
  For every slice of bytes, laws.FnEndless returns true.
-/
import Derived.Test.YtbfbbpmddgfeiaaRows
import Derived.Test.YtbfbbpmddgfeiaaDrawF2
import Derived.Test.YtbfbbpmddgfeiaaAddM
import Derived.Test.YtbfbbpmddgfeiaaSoT
import Derived.WalkKit
import Derived.ProofKit
import Derived.OpenShut
import Derived.ShutString
import Derived.ChangeOld
import Derived.Below
import Derived.Handy
import Derived.Lib.Hide
namespace Go.Proofs.Ytbfbbpmddgfeiaa.fnEndless
open Go.ChangeShapes Go.WideShapes Go.ChangeAt Go.RowKit
open Go.ChangeMaps (open_string shut_string)
open Go.PlainAid (bt get_bt bt_nonneg bt_le)
set_option linter.unusedVariables false

theorem own : ownKnob Try.prog.godebug = none := by kernel_rfl
theorem laidOut : laidOutB Try.prog = true := by kernel_rfl

set_option maxHeartbeats 8000000 in
set_option maxRecDepth 100000 in
theorem walk (w : World) (a0 : Option Addr) (l0 k0 : Nat) (z0 : List Int) (w0 : IsRow .u8 w a0 l0 k0 z0) :
    Calls Try.prog 6 #[.slice a0 l0 k0] w fun e w' => e = .returned (.bool true) ∧ Below w.heap.size w w' := by
  by_cases hl : 1048576 < l0
  · go_enter Try.func6, Try.ntmps6
    go_wp2
    go_ret
    exact ⟨rfl, Below.refl _ _⟩
  go_enter Try.func6, Try.ntmps6
  go_wp2_with fail
  refine (DrawEndlessCodes_any a0 l0 k0 z0 w w0).mono ?_
  rintro e u ⟨v, rfl, a, n, c, F, T, rfl, lt, fi, hn, bl⟩
  have LT := Lib.hid lt
  have FI := Lib.hid fi
  have BL := Lib.hid bl
  clear lt fi bl
  have hn2 : n ≤ 1048576 := by omega
  cases hok : M.fwd n F T
  · have HE : Hid (M.endless F T n = []) := M.endless_no hok
    have HO := Lib.hid hok
    have hl1 : ([] : List ByteArray).length ≤ 1048576 := Nat.zero_le _
    clear hok
    go_wp2_with fail
    refine (impl_EndlessCodes _ _ _ _ _ _ LT.out FI.out).mono ?_
    rw [HE.out]
    rintro e v1 ⟨v1, rfl, r1, k1⟩
    replace LT := Lib.hid (LT.out.on k1)
    replace BL := Lib.hid (step BL.out k1)
    have R1 := Lib.hid r1
    clear r1
    clear k1
    go_wp2_with fail
    refine (spec_EndlessCodes _ _ _ _ _ _ LT.out FI.out hn2).mono ?_
    rw [HE.out]
    rintro e v2 ⟨v2, rfl, r2, k2⟩
    replace LT := Lib.hid (LT.out.on k2)
    replace BL := Lib.hid (step BL.out k2)
    replace R1 := Lib.hid (R1.out.on k2)
    have R2 := Lib.hid r2
    clear r2
    clear k2
    go_wp2_with fail
    refine (soTexts_row _ _ _ _ _ _ R1.out R2.out hl1).mono ?_
    rintro e v3 ⟨rfl, k3⟩
    replace LT := Lib.hid (LT.out.on k3)
    replace BL := Lib.hid (step BL.out k3)
    replace R1 := Lib.hid (R1.out.on k3)
    replace R2 := Lib.hid (R2.out.on k3)
    clear k3
    go_wp2_with fail
    refine (impl_ForwardsValid _ _ _ _ _ _ LT.out FI.out).mono ?_
    rw [HO.out]
    rintro e v4 ⟨rfl, k4⟩
    replace LT := Lib.hid (LT.out.on k4)
    replace BL := Lib.hid (step BL.out k4)
    replace R1 := Lib.hid (R1.out.on k4)
    replace R2 := Lib.hid (R2.out.on k4)
    clear k4
    go_wp2_with fail
    refine (spec_EndlessCodes _ _ _ _ _ _ LT.out FI.out hn2).mono ?_
    rw [HE.out]
    rintro e v5 ⟨v3, rfl, r3, k5⟩
    replace LT := Lib.hid (LT.out.on k5)
    replace BL := Lib.hid (step BL.out k5)
    replace R1 := Lib.hid (R1.out.on k5)
    replace R2 := Lib.hid (R2.out.on k5)
    have R3 := Lib.hid r3
    clear r3
    clear k5
    go_wp2_with fail
    refine (soTexts_row _ _ _ _ _ _ R1.out R3.out hl1).mono ?_
    rintro e v6 ⟨rfl, k6⟩
    replace LT := Lib.hid (LT.out.on k6)
    replace BL := Lib.hid (step BL.out k6)
    replace R1 := Lib.hid (R1.out.on k6)
    replace R2 := Lib.hid (R2.out.on k6)
    replace R3 := Lib.hid (R3.out.on k6)
    clear k6
    obtain ⟨a1, c1, hv1, _, _⟩ := R1.out.form
    subst hv1
    go_wp2_with fail
    refine (impl_ForwardsValid _ _ _ _ _ _ LT.out FI.out).mono ?_
    rw [HO.out]
    rintro e v7 ⟨rfl, k7⟩
    replace LT := Lib.hid (LT.out.on k7)
    replace BL := Lib.hid (step BL.out k7)
    clear k7
    go_wp2
    go_ret
    exact ⟨rfl, BL.out⟩
  · obtain ⟨L, hL⟩ : ∃ L, M.endless F T n = L := ⟨_, rfl⟩
    have HE := Lib.hid hL
    have hl1 : L.length ≤ 1048576 := hL ▸ M.endless_small F T n hn2
    have HO := Lib.hid hok
    have HF : Hid (∀ j, j < n → M.has (F j) L = !(M.res F T n (F j)).isSome) := fun j hj => hL ▸ M.end_from hok hj
    have HT : Hid (∀ j, j < n → M.has (T j) L = !(M.res F T n (F j)).isSome) := fun j hj => hL ▸ M.end_to hok hj
    have HX : Hid (∀ j (hj : j < L.length), ∃ d, M.nextOf F T n (sC L j) = some d) := fun j hj => M.end_next hok (by rw [hL, sC_at hj]; exact List.getElem_mem hj)
    have HU : Hid (∀ j, j + 1 < L.length → Op.bytesLess (sC L (j + 1)).toList (sC L j).toList = false ∧ ((sC L (j + 1)).toList == (sC L j).toList) = false) := fun j hj => by
      have := M.end_up (j := j) hok (by rw [hL]; exact hj)
      rw [hL] at this
      exact this
    have HD := Lib.hid (M.fwd_yes hok).2
    have DR : ∀ (B : Nat) (x y : World) (k : Nat), Below B x y → Below B x (y.drewN k) := fun _ _ _ k h => ⟨h.os, h.tape, h.output, h.size, h.block⟩
    clear hok hL
    go_wp2_with fail
    refine (impl_EndlessCodes _ _ _ _ _ _ LT.out FI.out).mono ?_
    rw [HE.out]
    rintro e v1 ⟨v1, rfl, r1, k1⟩
    replace LT := Lib.hid (LT.out.on k1)
    replace BL := Lib.hid (step BL.out k1)
    have R1 := Lib.hid r1
    clear r1
    clear k1
    go_wp2_with fail
    refine (spec_EndlessCodes _ _ _ _ _ _ LT.out FI.out hn2).mono ?_
    rw [HE.out]
    rintro e v2 ⟨v2, rfl, r2, k2⟩
    replace LT := Lib.hid (LT.out.on k2)
    replace BL := Lib.hid (step BL.out k2)
    replace R1 := Lib.hid (R1.out.on k2)
    have R2 := Lib.hid r2
    clear r2
    clear k2
    go_wp2_with fail
    refine (soTexts_row _ _ _ _ _ _ R1.out R2.out hl1).mono ?_
    rintro e v3 ⟨rfl, k3⟩
    replace LT := Lib.hid (LT.out.on k3)
    replace BL := Lib.hid (step BL.out k3)
    replace R1 := Lib.hid (R1.out.on k3)
    replace R2 := Lib.hid (R2.out.on k3)
    clear k3
    go_wp2_with fail
    refine (impl_ForwardsValid _ _ _ _ _ _ LT.out FI.out).mono ?_
    rw [HO.out]
    rintro e v4 ⟨rfl, k4⟩
    replace LT := Lib.hid (LT.out.on k4)
    replace BL := Lib.hid (step BL.out k4)
    replace R1 := Lib.hid (R1.out.on k4)
    replace R2 := Lib.hid (R2.out.on k4)
    clear k4
    clear R2
    go_wp2
    go_loopw [5] (fun i wr => ∃ j : Nat, j ≤ n ∧ i = .int .i64 j ∧ Hid (Fws wr a n F T) ∧ Hid (SRow wr u.heap.size v1 L) ∧ Hid (Below w.heap.size w wr)) (fun i _ => n - (intOf i).toNat)
    case atStart => exact ⟨0, Nat.zero_le _, rfl, LT, R1, BL⟩
    case round =>
      obtain ⟨j, hj, rfl, LT, R1, BL⟩ := hrel
      by_cases hlt : j < n
      · obtain ⟨b, o, rfl, c0, c1⟩ := LT.out j hlt
        have hlb := World.block_lt_of_cell? _ _ c0
        have hcc := (HD.out j hlt).1
        have hcz := M.code_size hcc
        have h1 := HF.out j hlt
        have h2 := HT.out j hlt
        have hr := resV_eq (M.res F T n (F j))
        rw [← M.resCode_yes HO.out hcc] at hr h1 h2
        obtain ⟨q1, hq1⟩ : ∃ q, M.endS (M.resCode F T n (F j)) = q := ⟨_, rfl⟩
        obtain ⟨q2, hq2⟩ : ∃ q, M.cntOf (M.resCode F T n (F j)) = q := ⟨_, rfl⟩
        rw [hq1, hq2] at hr
        have HR := Lib.hid hr
        clear hq1 hq2 hr hcc
        obtain ⟨y, hy⟩ : ∃ y, (M.resCode F T n (F j)).isSome = y := ⟨_, rfl⟩
        rw [hy] at HR h1 h2
        have HQ : Hid (∀ W base x, x = F j ∨ x = T j → SRow W base v1 L → Calls Try.prog 27 #[v1, .string x] W fun e w' => e = .returned (.bool (!y)) ∧ w' = W) := fun W base x hx h => by
          have := quiet_flip (soHas_any W base v1 L h hl1 x)
          have e : M.has x L = !y := by rcases hx with rfl | rfl; exact h1; exact h2
          rw [e] at this
          exact this
        clear hy h1 h2
        cases y
        all_goals
          simp only [Bool.not_true, Bool.not_false] at HQ
          go_wp2_with (go_at_call 20; refine (impl_ResolveCode _ _ _ _ _ _ LT.out FI.out (F j) hcz).mono ?_; rw [HR.out]; rintro e v9 ⟨rfl, k9⟩; have LT9 := Lib.hid (LT.out.on k9); have BL9 := Lib.hid (step BL.out k9); have R9 := Lib.hid (R1.out.on k9); have d0 := (k9.cell (p := ⟨b, o + j * 2, none⟩) hlb).trans c0; have d1 := (k9.cell (p := ⟨b, o + j * 2 + 1, none⟩) hlb).trans c1; clear k9)
          go_quiet ((go_at_call 27; exact Calls.quiet_of_same (HQ.out _ _ _ (by first | exact Or.inl rfl | exact Or.inr rfl) (R9.out.on (DR _ _ _ _ (Below.refl _ _))))))
          go_wp2
          go_roundw
          case rel => exact ⟨j + 1, by omega, by go_num, LT9.out.on (by first | exact DR _ _ _ _ (Below.refl _ _) | exact Below.refl _ _), R9.out.on (by first | exact DR _ _ _ _ (Below.refl _ _) | exact Below.refl _ _), by first | exact DR _ _ _ _ BL9.out | exact BL9⟩
          case measure => simp [intOf]; omega
      · obtain rfl : j = n := by omega
        obtain ⟨a1, c1, hv1, _, hw1⟩ := R1.out.form
        have W1 := Lib.hid hw1
        subst hv1
        clear hw1 R1
        go_wp2
        go_loopw [9] (fun i wr => ∃ q : Nat, q ≤ L.length ∧ i = .int .i64 q ∧ Hid (Fws wr a j F T) ∧ Hid (Strs wr a1 L.length (sC L)) ∧ Hid (Below w.heap.size w wr)) (fun i _ => L.length - (intOf i).toNat)
        case atStart => exact ⟨0, Nat.zero_le _, rfl, LT, W1, BL⟩
        case round =>
          obtain ⟨q, hq, rfl, LT, W1, BL⟩ := hrel
          by_cases hlt : q < L.length
          · obtain ⟨b, o, rfl, c0⟩ := W1.out q hlt
            have hlb := World.block_lt_of_cell? _ _ c0
            obtain ⟨d, hd⟩ := HX.out q hlt
            have hz := M.code_size (M.next_code HO.out hd).1
            have HN : Hid (nxV (M.nextCode F T j (sC L q)) = .tuple #[.string d, .bool true]) := by rw [Hid, M.nextCode_yes HO.out, hd]; rfl
            clear hd
            by_cases h0 : q = 0
            · subst h0
              rw [Nat.add_zero] at c0
              go_wp2_with (go_at_call 16; refine (impl_NextCode _ _ _ _ _ _ LT.out FI.out (sC L 0) hz).mono ?_; rw [HN.out]; rintro e v9 ⟨rfl, k9⟩; have LT9 := Lib.hid (LT.out.on k9); have BL9 := Lib.hid (step BL.out k9); have W9 := Lib.hid (W1.out.on k9); have d0 := (k9.cell (p := ⟨b, o, none⟩) hlb).trans c0; clear k9)
              go_quiet (fail)
              go_wp2
              go_roundw
              case rel => exact ⟨0 + 1, by omega, by go_num, LT9.out.on (by first | exact DR _ _ _ _ (Below.refl _ _) | exact Below.refl _ _), W9.out.on (by first | exact DR _ _ _ _ (Below.refl _ _) | exact Below.refl _ _), by first | exact DR _ _ _ _ BL9.out | exact BL9⟩
              case measure => simp [intOf]; omega
            · obtain ⟨q, rfl⟩ : ∃ p, q = p + 1 := ⟨q - 1, by omega⟩
              obtain ⟨b2, o2, e2, c2⟩ := W1.out q (by omega)
              cases e2
              obtain ⟨u1, u2⟩ := HU.out q hlt
              have hq31 : q ≤ 1048576 := by omega
              have hs1 : IntKind.i64.wrap ((q : Int) + 1 - 1) = q := by rw [Int.add_sub_cancel]; exact IntWalk.i64_in _ (by omega)
              have hs2 : IntKind.i64.wrap (((q + 1 : Nat) : Int) - 1) = q := by rw [Int.natCast_add]; exact hs1
              have hg1 : decide (0 < ((q + 1 : Nat) : Int)) = true := decide_eq_true (by omega)
              have hg2 : decide (0 < (q : Int) + 1) = true := decide_eq_true (by omega)
              go_wp2_with (go_at_call 16; refine (impl_NextCode _ _ _ _ _ _ LT.out FI.out (sC L (q + 1)) hz).mono ?_; rw [HN.out]; rintro e v9 ⟨rfl, k9⟩; have LT9 := Lib.hid (LT.out.on k9); have BL9 := Lib.hid (step BL.out k9); have W9 := Lib.hid (W1.out.on k9); have d0 := (k9.cell (p := ⟨b, o + (q + 1), none⟩) hlb).trans c0; have d1 := (k9.cell (p := ⟨b, o + q, none⟩) hlb).trans c2; clear k9)
              go_quiet (fail)
              go_wp2
              go_roundw
              case rel => exact ⟨q + 1 + 1, by omega, by go_num, LT9.out.on (by first | exact DR _ _ _ _ (Below.refl _ _) | exact Below.refl _ _), W9.out.on (by first | exact DR _ _ _ _ (Below.refl _ _) | exact Below.refl _ _), by first | exact DR _ _ _ _ BL9.out | exact BL9⟩
              case measure => simp [intOf]; omega
          · obtain rfl : q = L.length := by omega
            go_wp2
            go_ret
            exact ⟨rfl, BL.out⟩

set_option maxRecDepth 100000 in
theorem lifted (os : Os) (started : os.Started) (H : Type) (enc : TypeId × Value → H) :
    ReturnsInHanded {} Try.checked os 6 .any (Rows.fnEndlessSpec.pre6 enc Try.prog Try.f6 Rows.fnEndlessRow.domain false) (Rows.fnEndlessSpec.post enc Try.prog Try.f6 false true false false) := by
  refine returnsInHanded_of_change (C := Try.checked) own started (by kernel_rfl) Try.func6
    (ChangeSpec.witness6 (enc := enc) (C := Try.checked) false ⟨#[], #[.slice none 0 0], []⟩ 8 (by kernel_rfl) (by kernel_rfl) (by kernel_rfl) (by kernel_rfl)) ?_
  intro W base args ds gs before hval0 hW hcnd _
  have hval : ∀ (j : Nat) t v, Try.f6.params[j]? = some t → args[j]? = some v → Value.okWide Try.prog W .any base t v := hval0
  have hW' := hW
  obtain ⟨p, q, hA0, hV, rfl, hfz, hnd⟩ := hW
  have hA : DataW.TrodAll enc Try.prog W 0 (fun _ => true) true Try.f6.params.toList args.toList ds p := hA0
  rw [Try.params6] at hA hval
  obtain ⟨v0, vs0, d0, ds0, p0, q0, hargs, rfl, rfl, h0, r0⟩ := trodAll_cons hA
  obtain ⟨rfl, rfl, rfl⟩ := trodAll_nil r0
  obtain rfl : args = #[v0] := by cases args; simp_all
  obtain ⟨rfl, rfl⟩ := trodVars_none hV
  have g0 := h0
  have lt0 : ∀ x ∈ p0, x.block < W.heap.size := by obtain ⟨m, hm⟩ := g0; exact DataW.trod_lt m _ _ _ hm
  obtain ⟨a0, l0, k0, rfl⟩ := okWide_slice Try.underlying22 (hval 0 22 v0 rfl rfl)
  obtain ⟨z0, w0⟩ : ∃ zs, IsRow .u8 W a0 l0 k0 zs := by
    obtain ⟨fuel, hf⟩ := h0
    rcases open_ints Try.underlying22 Try.underlying5 (by kernel_rfl) hf with ⟨hcs, _⟩ | ⟨x, l, c, zs, hcs, _, hl, hm, hz, _, hcell, hwz⟩
    · simp [Value.cells] at hcs
      obtain ⟨rfl, rfl, rfl⟩ := hcs
      exact ⟨[], .inl ⟨rfl, rfl, rfl, rfl⟩⟩
    · simp [Value.cells] at hcs
      obtain ⟨rfl, rfl, rfl⟩ := hcs
      exact ⟨zs, .inr ⟨_, rfl, hl, hm, by simpa using hz, hcell, hwz⟩⟩
  clear hA0 hval0
  refine (walk W a0 l0 k0 z0 w0).mono fun e W' ⟨he, bel⟩ => ?_
  subst he
  exact ⟨_, rfl, _, _, _, [], _, [], hW', trodAll_mk1 (shut_bool Try.underlying4 _), (trodAll_cons_mk (Below.trod laidOut (by kernel_rfl) (of_decide_eq_true (by kernel_rfl)) g0 bel lt0) trodAll_mk0), rfl, bel.frame _, fun h => by cases h⟩

theorem proved : Rows.FnEndlessSaid :=
  OpenClaim.holds_of_wide 6 Try.f6 rfl rfl rfl rfl rfl rfl rfl ⟨rfl, rfl, rfl, rfl, rfl⟩ rfl rfl rfl rfl rfl (by kernel_rfl) Try.func6 (by kernel_rfl)
    (of_decide_eq_true (by kernel_rfl)) (by unfold Func.isWrapper; first | (rw [if_pos (by decide +kernel)]; kernel_rfl) | (rw [if_neg (by decide +kernel)]; exact ⟨rfl, rfl⟩))
    (fun os started H enc _ => lifted os started H enc)
#print axioms proved
end Go.Proofs.Ytbfbbpmddgfeiaa.fnEndless
