/-
  For every slice of bytes, laws.FnOrderSeal returns true.
-/
import Derived.Test.YtbkhndgdgefhpaaRows
import Derived.Test.YtbkhndgdgefhpaaDrawS
import Derived.Test.YtbkhndgdgefhpaaOrdM
import Derived.Test.YtbkhndgdgefhpaaSmpM
import Derived.Test.YtbkhndgdgefhpaaCat
import Derived.WalkKit
import Derived.ProofKit
import Derived.OpenShut
import Derived.ShutString
import Derived.ChangeOld
import Derived.Below
import Derived.Handy
import Derived.Lib.Hide
namespace Go.Proofs.Ytbkhndgdgefhpaa.fnOrderSeal
open Go.ChangeShapes Go.WideShapes Go.ChangeAt Go.RowKit
open Go.ChangeMaps (open_string shut_string)
open Go.PlainAid (bt get_bt bt_nonneg bt_le)
set_option linter.unusedVariables false

theorem own : ownKnob Try.prog.godebug = none := by kernel_rfl
theorem laidOut : laidOutB Try.prog = true := by kernel_rfl

set_option maxHeartbeats 4000000 in
set_option maxRecDepth 100000 in
theorem walk (w : World) (a0 : Option Addr) (l0 k0 : Nat) (z0 : List Int) (w0 : IsRow .u8 w a0 l0 k0 z0) :
    Calls Try.prog 9 #[.slice a0 l0 k0] w fun e w' => e = .returned (.bool true) ∧ Below w.heap.size w w' := by
  by_cases hl : 1048576 < l0
  · go_enter Try.func9, Try.ntmps9
    go_wp2
    go_ret
    exact ⟨rfl, Below.refl _ _⟩
  go_enter Try.func9, Try.ntmps9
  go_wp2_with fail
  refine (DrawOrderSeal_any a0 l0 k0 z0 w w0).mono ?_
  rintro e u ⟨v, rfl, a, n, c, I, C, rfl, lt, fi, hn, bl⟩
  have LT := Lib.hid lt
  have FI := Lib.hid fi
  have BL := Lib.hid bl
  clear lt fi bl
  have hn2 : n ≤ 1048576 := by omega
  obtain ⟨f, hf⟩ : ∃ f, M.sealOf M.ord n I C = f := ⟨_, rfl⟩
  have HF := Lib.hid hf
  cases hb : M.batch n I C
  · rw [M.sealOf_no hb] at hf
    subst hf
    go_wp2_with fail
    refine (impl_OrderSeal _ _ _ _ _ _ LT.out FI.out).mono ?_
    rw [HF.out]
    rintro e v1 ⟨rfl, k1⟩
    replace BL := Lib.hid (step BL.out k1)
    replace LT := Lib.hid (LT.out.on k1)
    clear k1
    go_wp2_with fail
    refine (spec_OrderSeal _ _ _ _ _ _ LT.out FI.out hn2).mono ?_
    rw [HF.out]
    rintro e v2 ⟨rfl, k2⟩
    replace BL := Lib.hid (step BL.out k2)
    replace LT := Lib.hid (LT.out.on k2)
    clear k2
    go_wp2_with fail
    refine (spec_OrderSeal _ _ _ _ _ _ LT.out FI.out hn2).mono ?_
    rw [HF.out]
    rintro e v3 ⟨rfl, k3⟩
    replace BL := Lib.hid (step BL.out k3)
    replace LT := Lib.hid (LT.out.on k3)
    clear k3
    go_wp2
    go_ret
    exact ⟨rfl, BL.out⟩
  · rw [M.sealOf_yes hb] at hf
    have hbd := M.seal_bd M.ord I n
    rw [hf] at hbd
    have HS := Lib.hid hf
    have hnz : ¬ f < 0 := by omega
    have hnb : (M.batch n I C = true) := hb
    have hn60 := (M.batch_yes hb).1
    have HID := Lib.hid (fun t (ht : t < n) => ((M.batch_yes hb).2 t ht).2.1)
    clear hf hb hnb
    go_wp2_with fail
    refine (impl_OrderSeal _ _ _ _ _ _ LT.out FI.out).mono ?_
    rw [HF.out]
    rintro e v1 ⟨rfl, k1⟩
    replace BL := Lib.hid (step BL.out k1)
    replace LT := Lib.hid (LT.out.on k1)
    clear k1
    go_wp2_with fail
    refine (spec_OrderSeal _ _ _ _ _ _ LT.out FI.out hn2).mono ?_
    rw [HF.out]
    rintro e v2 ⟨rfl, k2⟩
    replace BL := Lib.hid (step BL.out k2)
    replace LT := Lib.hid (LT.out.on k2)
    clear k2
    go_wp2
    go_loopw [5] (fun i wr => ∃ j : Nat, 1 ≤ j ∧ (j ≤ n ∨ j = 1) ∧ i = .int .i64 j ∧ Hid (Below v2.heap.size v2 wr)) (fun i _ => n + 1 - (intOf i).toNat)
    case atStart => exact ⟨1, Nat.le_refl _, Or.inr rfl, rfl, Below.refl _ _⟩
    case round =>
      obtain ⟨j, hj1, hj, rfl, hb3⟩ := hrel
      by_cases hlt : j < n
      · have hzr := hb3.out.size
        have LR := Lib.hid (LT.out.on hb3.out)
        have hlen : (M.lst I C n).length = n := M.lst_length I C n
        have hji : (j : Int) < (n : Int) := by omega
        have hj0 : (0 : Int) ≤ (j : Int) := by omega
        have hk0 : (0 : Int) ≤ (j : Int) - 1 := by omega
        have hk1 : (j : Int) - 1 < (n : Int) := by omega
        have hkw : IntKind.i64.wrap ((j : Int) - 1) = (j : Int) - 1 := IntWalk.i64_in _ (by omega)
        have hkn : ((j : Int) - 1).toNat = j - 1 := by omega
        go_wp2_with (at_builtin; refine wpList_append_lts _ rfl _ _ rfl wr.heap.size (.slice (some ⟨wr.heap.size, 0, none⟩) 0 0) [] rfl (one_row wr) a n c I C rfl (LR.out.on (by go_grown)) (by simp; omega) (by simp) ?_)
        intro xv w5 r5 gr5 ho5
        have o5 : Only wr w5 (fun _ => False) := (Only.new (S := fun _ => False) (below_alloc0 wr _)).trans (Only.of_grown gr5) (fun x hx e => by have e2 : x = wr.heap.size := (by simpa [Value.ownBlock] using e); omega)
        have B5 : Below wr.heap.size wr w5 := o5.below (B := wr.heap.size) (fun _ _ _ h => h) (Nat.le_refl _)
        obtain ⟨a5, c5, hxv, _, _⟩ := r5.form
        subst hxv
        obtain ⟨g, rfl⟩ : ∃ g, a5 = some ⟨g, 0, none⟩ := by
          rcases r5.cases with ⟨_, e'⟩ | ⟨g, c', e, _, _⟩
          · have := congrArg List.length e'; rw [hlen] at this; simp at this; omega
          · injection e with e1 e2 e3; exact ⟨g, e1⟩
        have hgb := (r5.lt g rfl).1
        have hgl := (r5.lt g rfl).2
        have hw1 := Row.whole r5 j (by omega) (I (j - 1)) (C (j - 1))
        have hl1 : ((M.lst I C n).set j (I (j - 1), C (j - 1))).length = (M.lst I C n).length := List.length_set
        have hw2 := Row.whole (c := c5) (g := g) (L := (M.lst I C n).set j (I (j - 1), C (j - 1))) (by rw [hl1]; exact hw1.1) (j - 1) (by omega) (I j) (C j)
        obtain ⟨p0, p1, p2, p3⟩ := r5.cells j (by omega)
        obtain ⟨p4, p5, p6, p7⟩ := r5.cells (j - 1) (by omega)
        obtain ⟨x0, P0⟩ : ∃ x, w5.cell? ⟨g, j * 2, none⟩ = some x := ⟨_, p0⟩
        obtain ⟨x1, P1⟩ : ∃ x, w5.cell? ⟨g, j * 2 + 1, none⟩ = some x := ⟨_, p1⟩
        obtain ⟨x4, P4⟩ : ∃ x, w5.cell? ⟨g, (j - 1) * 2, none⟩ = some x := ⟨_, p4⟩
        obtain ⟨x5, P5⟩ : ∃ x, w5.cell? ⟨g, (j - 1) * 2 + 1, none⟩ = some x := ⟨_, p5⟩
        clear p0 p1 p4 p5
        rw [hl1, hlen] at hw2
        rw [hlen]
        have L5 := LR.out.on B5
        obtain ⟨b6, o6, ha, q0, q1⟩ := L5 j hlt
        obtain ⟨b7, o7, ha7, q2, q3⟩ := L5 (j - 1) (by omega)
        rw [ha] at ha7
        injection ha7 with ha7
        injection ha7 with e1 e2
        subst e1 e2
        have hbl := LR.out.lt ha (by omega)
        have hbg : b6 ≠ g := by omega
        have hgb2 : g ≠ b6 := by omega
        have hjj : j ≠ j - 1 := by omega
        have hd1 : ¬ j * 2 = (j - 1) * 2 := by omega
        have hd2 : ¬ j * 2 = (j - 1) * 2 + 1 := by omega
        have hd3 : ¬ j * 2 + 1 = (j - 1) * 2 := by omega
        have hd4 : ¬ j * 2 + 1 = (j - 1) * 2 + 1 := by omega
        subst ha
        obtain ⟨y, hy⟩ : ∃ y, I j = y := ⟨_, rfl⟩
        obtain ⟨z, hz⟩ : ∃ z, I (j - 1) = z := ⟨_, rfl⟩
        obtain ⟨sy, hsy⟩ : ∃ y, C j = y := ⟨_, rfl⟩
        obtain ⟨sz, hsz⟩ : ∃ z, C (j - 1) = z := ⟨_, rfl⟩
        rw [hy, hz, hsy, hsz] at hw2
        rw [hy] at q0
        rw [hsy] at q1
        rw [hz] at q2
        rw [hsz] at q3
        have ROW := Lib.hid hw2.1
        have GRN := Lib.hid (hw1.2.trans (by rw [hz, hsz]; exact hw2.2))
        have HY := Lib.hid hy
        have HZ := Lib.hid hz
        have HSY := Lib.hid hsy
        have HSZ := Lib.hid hsz
        clear hw1 hw2 hl1 r5 gr5 ho5 o5 hy hz hsy hsz L5
        go_wp2
        obtain ⟨w6, hw6⟩ : ∃ w6, (((w5.setCell ⟨g, j * 2, none⟩ (.int .i64 z)).setCell ⟨g, j * 2 + 1, none⟩ (.string sz)).setCell ⟨g, (j - 1) * 2, none⟩ (.int .i64 y)).setCell ⟨g, (j - 1) * 2 + 1, none⟩ (.string sy) = w6 := ⟨_, rfl⟩
        rw [hw6] at ROW GRN ⊢
        have o6 := Only.of_grown GRN.out
        have B6 : Below wr.heap.size wr w6 := B5.trans (o6.below (B := wr.heap.size) (fun k hk _ e => by injection e with e; omega) (by omega))
        have LT6 := LT.out.on (hb3.out.trans (B6.mono hzr))
        have BL6 := Lib.hid (step BL.out (hb3.out.trans (B6.mono hzr)))
        have HB6 := Lib.hid (hb3.out.trans (B6.mono hzr))
        obtain ⟨SL, hSL⟩ : ∃ SL, swapL (M.lst I C n) j (z, sz) (y, sy) = SL := ⟨_, rfl⟩
        have hsl : SL.length = n := by rw [← hSL, swapL_len]; exact hlen
        have R6 : Row w6 wr.heap.size (.slice (some ⟨g, 0, none⟩) n c5) SL := by rw [← hSL]; exact ROW.out
        obtain ⟨a9, c9, e9, _, l9⟩ := R6.form
        injection e9 with e1 e2 e3
        subst e1
        clear e2 e3
        rw [hsl] at l9
        have LX := Lib.hid l9
        have hat : ∀ t, t < n → nI SL t = (if j - 1 = t then y else if j = t then z else I t) ∧ nC SL t = (if j - 1 = t then sy else if j = t then sz else C t) := fun t ht => by
          have := swapL_at (L := M.lst I C n) (i := j) (y := (z, sz)) (z := (y, sy)) (t := t) (by rw [hlen]; exact ht)
          rw [hSL, (lst_at ht).1, (lst_at ht).2] at this
          exact this
        have HFX : Hid (Fits n (nI SL) (nC SL)) := fun t ht => by
          rw [(hat t ht).1, (hat t ht).2]
          have f1 := FI.out j hlt
          have f2 := FI.out (j - 1) (by omega)
          have f3 := FI.out t ht
          rw [HY.out, HSY.out] at f1
          rw [HZ.out, HSZ.out] at f2
          by_cases e1 : j - 1 = t
          · rw [if_pos e1, if_pos e1]; exact f1
          · rw [if_neg e1, if_neg e1]
            by_cases e2 : j = t
            · rw [if_pos e2, if_pos e2]; exact f2
            · rw [if_neg e2, if_neg e2]; exact f3
        obtain ⟨f2, hf2⟩ : ∃ f2, M.sealOf M.ord n (nI SL) (nC SL) = f2 := ⟨_, rfl⟩
        have HF2 := Lib.hid hf2
        have hne : ¬ (y - z) % 9973 = 0 → ¬ f2 = f := fun hd e => by
          cases hb : M.batch n (nI SL) (nC SL)
          · rw [M.sealOf_no hb] at hf2; omega
          · rw [M.sealOf_yes hb, e, ← HS.out] at hf2
            have := M.ord_swap hj1 hlt (fun t ht t1 t2 => by rw [(hat t ht).1, if_neg (fun e => t2 e.symm), if_neg (fun e => t1 e.symm)]) (by rw [(hat j hlt).1, if_neg (by omega), if_pos rfl, HZ.out]) (by rw [(hat (j - 1) (by omega)).1, if_pos rfl, HY.out]) hf2
            rw [HY.out, HZ.out] at this
            exact hd this
        have by1 := HID.out j hlt
        have bz1 := HID.out (j - 1) (by omega)
        rw [HY.out] at by1
        rw [HZ.out] at bz1
        have hwd : IntKind.i64.wrap (y - z) = y - z := IntWalk.i64_in _ (by omega)
        obtain ⟨r, hr⟩ : ∃ r, (y - z).tmod 9973 = r := ⟨_, rfl⟩
        have hr0 : r = 0 ↔ (y - z) % 9973 = 0 := by rw [← hr]; exact tmod_zero _
        have hrb : -9973 < r ∧ r < 9973 := by
          rw [← hr]
          exact ⟨by have := Int.lt_tmod_of_pos (y - z) (show (0 : Int) < 9973 by omega); omega, Int.tmod_lt_of_pos _ (by omega)⟩
        have hwr : IntKind.i64.wrap r = r := IntWalk.i64_in _ (by omega)
        have hnz9 : ¬ (9973 : Int) = 0 := by omega
        have hz6 : wr.heap.size ≤ w6.heap.size := B6.size
        obtain ⟨b7, o7, ha7, q0', q1'⟩ := LT6 j hlt
        obtain ⟨b8, o8, ha8, q2', q3'⟩ := LT6 (j - 1) (by omega)
        injection ha7 with ha7
        injection ha7 with e1 e2
        subst e1 e2
        injection ha8 with ha8
        injection ha8 with e1 e2
        subst e1 e2
        rw [HY.out] at q0'
        rw [HZ.out] at q2'
        clear q0 q1 q2 q3 q1' q3' P0 P1 P4 P5 p2 p3 p6 p7 ROW GRN o6 hw6 R6 l9 hat hSL hf2 LT6 B5 B6
        clear hsl hlen
        by_cases hd : r = 0
        · have hrz : (r == 0) = true := by rw [hd]; rfl
          have hrn : (r != 0) = false := by rw [hd]; rfl
          clear hne hr0 hd
          go_wp2
          go_quiet (fail)
          go_wp2
          go_roundw
          case rel => exact ⟨j + 1, by omega, Or.inl (by omega), by go_num, below_drewS HB6.out _⟩
          case measure => simp [intOf]; omega
        · have hff := hne (fun e => hd (hr0.2 e))
          have hfb : (f2 == f) = false := by rw [beq_eq_false_iff_ne]; exact hff
          have hrz : (r == 0) = false := by rw [beq_eq_false_iff_ne]; exact hd
          have hrn : (r != 0) = true := by simp [bne, hrz]
          clear hne hr0
          go_wp2
          go_region_with (go_at_call 40; refine (impl_OrderSeal _ _ _ _ _ _ (LX.out.on (by go_grown)) HFX.out).mono ?_; rw [HF2.out]; rintro e w7 ⟨rfl, k7⟩; have K7 : Hid (Below v2.heap.size v2 w7) := (by first | exact step HB6.out k7 | exact step HB6.out (sstep (Below.refl _ _).drew k7)); clear k7)
          all_goals
            go_wp2
            go_roundw
            case rel => exact ⟨j + 1, by omega, Or.inl (by omega), by go_num, K7.out⟩
            case measure => simp [intOf]; omega
      · have hf9 : f < 9973 := by omega
        replace LT := Lib.hid (LT.out.on hb3.out)
        replace BL := Lib.hid (step BL.out hb3.out)
        have HZ0 : Hid (M.sealOf M.ord 0 I C = 0) := rfl
        go_wp2_with fail
        refine (impl_OrderSeal _ none 0 0 I C (fun i hi => absurd hi (by omega)) (fun i hi => absurd hi (by omega))).mono ?_
        rw [HZ0.out]
        rintro e v11 ⟨rfl, k11⟩
        replace BL := Lib.hid (step BL.out k11)
        replace LT := Lib.hid (LT.out.on k11)
        clear k11
        go_wp2_with fail
        refine (impl_OrderSeal _ _ _ _ _ _ LT.out FI.out).mono ?_
        rw [HF.out]
        rintro e v12 ⟨rfl, k12⟩
        replace BL := Lib.hid (step BL.out k12)
        replace LT := Lib.hid (LT.out.on k12)
        clear k12
        go_wp2
        go_ret
        exact ⟨rfl, BL.out⟩

set_option maxRecDepth 100000 in
theorem lifted (os : Os) (started : os.Started) (H : Type) (enc : TypeId × Value → H) :
    ReturnsInHanded {} Try.checked os 9 .any (Rows.fnOrderSealSpec.pre6 enc Try.prog Try.f9 Rows.fnOrderSealRow.domain false) (Rows.fnOrderSealSpec.post enc Try.prog Try.f9 false true false false) := by
  refine returnsInHanded_of_change (C := Try.checked) own started (by kernel_rfl) Try.func9
    (ChangeSpec.witness6 (enc := enc) (C := Try.checked) false ⟨#[], #[.slice none 0 0], []⟩ 8 (by kernel_rfl) (by kernel_rfl) (by kernel_rfl) (by kernel_rfl)) ?_
  intro W base args ds gs before hval0 hW hcnd _
  have hval : ∀ (j : Nat) t v, Try.f9.params[j]? = some t → args[j]? = some v → Value.okWide Try.prog W .any base t v := hval0
  have hW' := hW
  obtain ⟨p, q, hA0, hV, rfl, hfz, hnd⟩ := hW
  have hA : DataW.TrodAll enc Try.prog W 0 (fun _ => true) true Try.f9.params.toList args.toList ds p := hA0
  rw [Try.params9] at hA hval
  obtain ⟨v0, vs0, d0, ds0, p0, q0, hargs, rfl, rfl, h0, r0⟩ := trodAll_cons hA
  obtain ⟨rfl, rfl, rfl⟩ := trodAll_nil r0
  obtain rfl : args = #[v0] := by cases args; simp_all
  obtain ⟨rfl, rfl⟩ := trodVars_none hV
  have g0 := h0
  have lt0 : ∀ x ∈ p0, x.block < W.heap.size := by obtain ⟨m, hm⟩ := g0; exact DataW.trod_lt m _ _ _ hm
  obtain ⟨a0, l0, k0, rfl⟩ := okWide_slice Try.underlying22 (hval 0 22 v0 rfl rfl)
  obtain ⟨z0, w0⟩ : ∃ zs, IsRow .u8 W a0 l0 k0 zs := by
    obtain ⟨fuel, hf⟩ := h0
    rcases open_ints Try.underlying22 Try.underlying5 (by kernel_rfl) hf with ⟨hcs, _⟩ | ⟨x, l, c, zs, hcs, _, hl, hm, hz, _, hcell, hwz⟩
    · simp [Value.cells] at hcs
      obtain ⟨rfl, rfl, rfl⟩ := hcs
      exact ⟨[], .inl ⟨rfl, rfl, rfl, rfl⟩⟩
    · simp [Value.cells] at hcs
      obtain ⟨rfl, rfl, rfl⟩ := hcs
      exact ⟨zs, .inr ⟨_, rfl, hl, hm, by simpa using hz, hcell, hwz⟩⟩
  clear hA0 hval0
  refine (walk W a0 l0 k0 z0 w0).mono fun e W' ⟨he, bel⟩ => ?_
  subst he
  exact ⟨_, rfl, _, _, _, [], _, [], hW', trodAll_mk1 (shut_bool Try.underlying4 _), (trodAll_cons_mk (Below.trod laidOut (by kernel_rfl) (of_decide_eq_true (by kernel_rfl)) g0 bel lt0) trodAll_mk0), rfl, bel.frame _, fun h => by cases h⟩

theorem proved : Rows.FnOrderSealSaid :=
  OpenClaim.holds_of_wide 9 Try.f9 rfl rfl rfl rfl rfl rfl rfl ⟨rfl, rfl, rfl, rfl, rfl⟩ rfl rfl rfl rfl rfl (by kernel_rfl) Try.func9 (by kernel_rfl)
    (of_decide_eq_true (by kernel_rfl)) (by unfold Func.isWrapper; first | (rw [if_pos (by decide +kernel)]; kernel_rfl) | (rw [if_neg (by decide +kernel)]; exact ⟨rfl, rfl⟩))
    (fun os started H enc _ => lifted os started H enc)
#print axioms proved
end Go.Proofs.Ytbkhndgdgefhpaa.fnOrderSeal
