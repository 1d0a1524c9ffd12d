/-
  For every slice of bytes, laws.FnLeastTrucks returns true.
-/
import Derived.Test.YtmoghfgfdbdioaaRows
import Derived.Test.YtmoghfgfdbdioaaDrawK
import Derived.Test.YtmoghfgfdbdioaaPackJ
import Derived.BigQuiet
import Derived.WalkKit
import Derived.ProofKit
import Derived.OpenShut
import Derived.ShutString
import Derived.ChangeOld
import Derived.Below
import Derived.Handy
import Derived.Lib.Hide
namespace Go.Proofs.Ytmoghfgfdbdioaa.fnLeastTrucks
open Go.ChangeShapes Go.WideShapes Go.ChangeAt Go.RowKit
open Go.ChangeMaps (open_string shut_string)
open Go.PlainAid (bt get_bt bt_nonneg bt_le)
set_option linter.unusedVariables false

theorem own : ownKnob Try.prog.godebug = none := by kernel_rfl
theorem laidOut : laidOutB Try.prog = true := by kernel_rfl

set_option maxHeartbeats 40000000 in
set_option maxRecDepth 100000 in
theorem walk (w : World) (a0 : Option Addr) (l0 k0 : Nat) (z0 : List Int) (w0 : IsRow .u8 w a0 l0 k0 z0) :
    Calls Try.prog 7 #[.slice a0 l0 k0] w fun e w' => e = .returned (.bool true) ∧ Below w.heap.size w w' := by
  by_cases hl : 1048576 < l0
  · go_enter Try.func7, Try.ntmps7
    go_wp2
    go_ret
    exact ⟨rfl, Below.refl _ _⟩
  go_enter Try.func7, Try.ntmps7
  go_wp2_with fail
  refine (DrawLeastTrucks_any a0 l0 k0 z0 w w0).mono ?_
  rintro e u ⟨a, c, W, q, rfl, nw, hw9, hwc, bl⟩
  have NW := Lib.hid nw
  have BL := Lib.hid bl
  have hw2 : W.length ≤ 1048576 := by omega
  clear nw bl
  have HI := Lib.hid (fun X hw => impl_LeastTrucks X a W.length c W hw rfl hw2 hwc q)
  have HS := Lib.hid (fun X hw => spec_LeastTrucks X a W.length c W hw rfl hw2 q)
  cases hV : MW.wOk W q
  · rw [MW.leastTrucks_no hV] at HI HS
    clear hV
    go_wp2_with fail
    refine (HI.out _ NW.out).mono ?_
    rintro e v1 ⟨rfl, k1⟩
    replace BL := Lib.hid (step BL.out k1)
    replace NW := Lib.hid (NW.out.on k1)
    clear k1
    go_wp2_with fail
    refine (HS.out _ NW.out).mono ?_
    rintro e v2 ⟨rfl, k2⟩
    replace BL := Lib.hid (step BL.out k2)
    replace NW := Lib.hid (NW.out.on k2)
    clear k2
    go_wp2_with fail
    refine (HS.out _ NW.out).mono ?_
    rintro e v3 ⟨rfl, k3⟩
    replace BL := Lib.hid (step BL.out k3)
    replace NW := Lib.hid (NW.out.on k3)
    clear k3
    go_wp2
    go_ret
    exact ⟨rfl, BL.out⟩
  · have hbd := MW.least_bd hV
    obtain ⟨n, hn⟩ := Int.eq_ofNat_of_zero_le hbd.1
    obtain ⟨⟨m1, m2⟩, m3, m4, m5, m6, m7, m8, m9, m10, m11, m12⟩ := least_law hV hn
    rw [hn] at HI HS
    have M5 := Lib.hid m5
    have M6 := Lib.hid m6
    have M7 := Lib.hid m7
    have M8 := Lib.hid m8
    have M9 := Lib.hid m9
    have M12 := Lib.hid m12
    have hneg : ¬ (n : Int) < 0 := by omega
    have hn1 : ((n : Int) != (n : Int)) = false := by simp
    have hn2 : ((n : Int) == (n : Int)) = true := by simp
    have hrl : W.reverse.length = W.length := List.length_reverse
    have HR : Hid (∀ X a9 c9, Nums X a9 W.reverse → W.length ≤ c9 → Calls Try.prog 15 #[.slice a9 W.length c9, .int .i64 q] X (NumIs X (n : Int))) := fun X a9 c9 hx hc9 => by
      have := impl_LeastTrucks X a9 W.length c9 W.reverse hx hrl (by omega) (by omega) q
      rw [m11] at this
      exact this
    have HT : Hid (∀ X a9 c9, Nums X a9 (W.drop 1) → W.length - 1 ≤ c9 → Calls Try.prog 15 #[.slice a9 (W.length - 1) c9, .int .i64 q] X (NumIs X (MW.leastTrucks (W.drop 1) q))) := fun X a9 c9 hx hc9 => impl_LeastTrucks X a9 (W.length - 1) c9 (W.drop 1) hx (List.length_drop ..) (by omega) hc9 q
    clear hV hbd hn m5 m6 m7 m8 m9 m11 m12 hrl
    go_wp2_with fail
    refine (HI.out _ NW.out).mono ?_
    rintro e v1 ⟨rfl, k1⟩
    replace BL := Lib.hid (step BL.out k1)
    replace NW := Lib.hid (NW.out.on k1)
    clear k1
    go_wp2_with fail
    refine (HS.out _ NW.out).mono ?_
    rintro e v2 ⟨rfl, k2⟩
    replace BL := Lib.hid (step BL.out k2)
    replace NW := Lib.hid (NW.out.on k2)
    clear k2
    have HV6 := Lib.hid BL.out
    clear BL HI HS
    obtain ⟨Z, hZ⟩ : ∃ Z, v2 = Z := ⟨_, rfl⟩
    rw [hZ] at NW HV6 ⊢
    clear hZ
    have hd0 : W.drop W.length = [] := List.drop_length
    have S0 : Hid (MW.sumL (W.drop W.length) = 0) := by rw [Hid, hd0]; rfl
    have B0 : Hid (MW.big q (W.drop W.length) = 0) := by rw [Hid, hd0]; rfl
    have R0 : Hid (IRow (Z.alloc (.cells #[] 3)) Z.heap.size (.slice (some ⟨Z.heap.size, 0, none⟩) 0 0) (W.drop W.length).reverse) := by rw [Hid, hd0]; exact one_irow Z
    have K0 := Lib.hid (below_alloc0 Z (.cells #[] 3))
    have hwl : IntKind.i64.wrap ((W.length : Int) - 1) = (W.length : Int) - 1 := IntWalk.i64_in _ (by omega)
    clear hd0
    go_wp2
    go_loopw [6, 7, 8, 9] (fun vs vl vt vi wr => ∃ (k B : Nat) (S : Int), k ≤ W.length ∧ vs = .int .i64 S ∧ vl = .int .i64 B ∧ vi = .int .i64 ((k : Int) - 1) ∧ Hid (MW.sumL (W.drop k) = S) ∧ Hid (MW.big q (W.drop k) = B) ∧ Hid (IRow wr Z.heap.size vt (W.drop k).reverse) ∧ Hid (Below Z.heap.size Z wr)) (fun _ _ _ vi _ => (intOf vi + 1).toNat)
    case atStart => exact ⟨W.length, 0, 0, Nat.le_refl _, rfl, rfl, by go_num, S0, B0, R0, K0⟩
    case round =>
      obtain ⟨k, B, S, hk, rfl, rfl, rfl, hS, hB, hT, hbw⟩ := hrel
      by_cases h0 : 0 < k
      · obtain ⟨j, hj⟩ : ∃ j, k = j + 1 := ⟨k - 1, by omega⟩
        subst hj
        have hjl : j < W.length := by omega
        have hji : ((j + 1 : Nat) : Int) - 1 = (j : Int) := by omega
        rw [hji]
        have hj0 : (0 : Int) ≤ (j : Int) := by omega
        have hj1 : (j : Int) < (W.length : Int) := by omega
        obtain ⟨s1, s2, s3⟩ := drop_step q hjl
        have b1 := M6.out (j + 1)
        have b2 := M7.out (j + 1)
        have b3 := M5.out j hjl
        rw [hS.out] at s1 b1
        rw [hB.out] at s2 b2
        obtain ⟨a6, c6, hv6, hc6, _⟩ := hT.out.form
        subst hv6
        have hrl : (W.drop (j + 1)).reverse.length ≤ 9 := by rw [List.length_reverse, List.length_drop]; omega
        obtain ⟨RV, hRV⟩ : ∃ R, (W.drop (j + 1)).reverse = R := ⟨_, rfl⟩
        rw [hRV] at hT s3 hrl ⊢
        obtain ⟨b, o, e9, t0⟩ := (NW.out.on hbw.out) j hjl
        subst e9
        have hls := NW.out
        have HX : Hid (∀ X, Below Z.heap.size Z X → X.cell? ⟨b, o + j, none⟩ = some (.int .i64 (MW.gz W j))) := fun X hX => by
          obtain ⟨b', o', e, t⟩ := (hls.on hX) j hjl
          cases e
          exact t
        generalize MW.gz W j = x at t0 s1 s2 s3 b3 HX
        have HS3 := Lib.hid s3
        have hs1 : IntKind.i64.wrap (S + x) = S + x := IntWalk.i64_in _ (by omega)
        have hs2 : IntKind.i64.wrap (2 * x) = 2 * x := IntWalk.i64_in _ (by omega)
        have hs3 : IntKind.i64.wrap ((B : Int) + 1) = (B : Int) + 1 := IntWalk.i64_in _ (by omega)
        have hs4 : IntKind.i64.wrap ((j : Int) - 1) = (j : Int) - 1 := IntWalk.i64_in _ (by omega)
        have hz := hbw.out.size
        clear hls hRV s3 hS hB hji
        go_wp2_with (at_builtin; refine wpList_append_int _ rfl _ _ rfl Z.heap.size _ RV rfl (hT.out.alloc _) _ x rfl ?_ (by omega) (by simp; omega) ?_)
        · simp [go_sem]
        intro v' w4 hr4 hg4 ho4
        have B4 : Hid (Below Z.heap.size Z w4) := (hbw.out.alloc hz _).grown hg4 (by simp; omega) (fun y e => (hT.out.lt y e).1)
        rw [← HS3.out] at hr4
        have R4 := Lib.hid hr4
        have t4 := HX.out w4 B4.out
        clear hr4 hg4 ho4 t0
        by_cases hx : q < 2 * x
        · have hbn : Hid (MW.big q (W.drop j) = B + 1) := s2.trans (if_pos hx)
          have hsn : Hid (MW.sumL (W.drop j) = S + x) := s1
          have hx1 : decide (q < 2 * x) = true := decide_eq_true hx
          clear s1 s2
          go_wp2
          go_roundw
          case rel => exact ⟨j, B + 1, S + x, by omega, by go_num, by go_num, by go_num, hsn, hbn, R4, B4⟩
          case measure => first | (simp [intOf]; done) | (simp [intOf]; omega)
        · have hbn : Hid (MW.big q (W.drop j) = B) := s2.trans (if_neg hx)
          have hsn : Hid (MW.sumL (W.drop j) = S + x) := s1
          have hx1 : decide (q < 2 * x) = false := decide_eq_false hx
          clear s1 s2
          go_wp2
          go_roundw
          case rel => exact ⟨j, B, S + x, by omega, by go_num, by go_num, by go_num, hsn, hbn, R4, B4⟩
          case measure => first | (simp [intOf]; done) | (simp [intOf]; omega)
      · obtain rfl : k = 0 := by omega
        have hSn := M8.out
        have hBn := M9.out
        have hS0 : MW.sumL W = S := hS.out
        have hB0 : MW.big q W = B := hB.out
        rw [hS0] at hSn
        rw [hB0] at hBn
        have hT0 : IRow wr Z.heap.size _ W.reverse := hT.out
        obtain ⟨a9, c9, hv9, hc9, _⟩ := hT0.form
        subst hv9
        rw [List.length_reverse] at hc9
        have NT0 := Lib.hid hT0.nums
        have NW2 := Lib.hid (NW.out.on hbw.out)
        have BX0 := Lib.hid (step HV6.out hbw.out)
        have hrl : Hid (W.reverse.length = W.length) := List.length_reverse
        clear hS hB hT hT0 hS0 hB0 h0
        obtain ⟨P, hP⟩ : ∃ P, (n : Int) * q = P := ⟨_, rfl⟩
        have hP1 : 0 ≤ P := by rw [← hP]; exact Int.mul_nonneg (by omega) (by omega)
        have hP2 : P ≤ 8 * 1000 := by rw [← hP]; exact Int.mul_le_mul (by omega) (by omega) (by omega) (by omega)
        have hSP : S ≤ P := by rw [← hP]; exact hSn
        have hwP : IntKind.i64.wrap ((n : Int) * q) = P := by rw [hP]; exact IntWalk.i64_in _ (by omega)
        have g1 : decide (S ≤ P) = true := decide_eq_true hSP
        have g2 : ¬ P < S := by omega
        have g3 : decide ((B : Int) ≤ (n : Int)) = true := decide_eq_true (by omega)
        have g4 : ¬ (n : Int) < (B : Int) := by omega
        have g5 : decide ((n : Int) ≤ (W.length : Int)) = true := decide_eq_true (by omega)
        have g6 : (n : Int) ≤ (W.length : Int) := by omega
        have g7 : (B : Int) ≤ (n : Int) := by omega
        have hw1 : IntKind.i64.wrap ((n : Int) - 1) = (n : Int) - 1 := IntWalk.i64_in _ (by omega)
        clear hP hSn
        by_cases h1 : 0 < W.length
        · have h1i : (0 : Int) < (W.length : Int) := by omega
          have hless := M12.out h1
          obtain ⟨b, o, hab, _⟩ := NW2.out 0 h1
          subst hab
          obtain ⟨m, hm⟩ : ∃ m, W.length = m + 1 := ⟨W.length - 1, by omega⟩
          obtain ⟨x, hx⟩ : ∃ x, (if c = 1 then o else o + 1) = x := ⟨_, rfl⟩
          have ht := fun X => slice_tail1 m b o c (some ⟨b, x, none⟩) (by rw [← hx]; split <;> rfl) X
          rw [← hm] at ht
          have hxx : 1 < W.length → x = o + 1 := fun h1 => by rw [← hx, if_neg (by omega)]
          have HD := Lib.hid (nums_tail NW2.out hxx)
          have hm1 : m = W.length - 1 := by omega
          rw [hm1] at ht
          obtain ⟨lt, hlt⟩ : ∃ s, MW.leastTrucks (W.drop 1) q = s := ⟨_, rfl⟩
          rw [hlt] at hless
          have HT2 := HT.out wr (some ⟨b, x, none⟩) (c - 1) HD.out (by omega)
          rw [hlt] at HT2
          have HT3 := Lib.hid HT2
          clear hx hxx hm hm1 hlt HT2 HT
          go_wp2_with fail
          refine HT3.out.mono ?_
          rintro e w1 ⟨rfl, k1⟩
          have NT := Lib.hid (NT0.out.on k1)
          have BX := Lib.hid (step BX0.out k1)
          clear k1
          by_cases hle : lt = (n : Int)
          · have l1 : (lt == (n : Int)) = true := by rw [beq_iff_eq]; exact hle
            clear hless hle
            go_wp2_with fail
            refine (HR.out w1 a9 c9 (NT.out) hc9).mono ?_
            rintro e w8 ⟨rfl, k8⟩
            have B8 := Lib.hid (step BX.out k8)
            clear k8
            go_wp2
            go_ret
            exact ⟨rfl, B8.out⟩
          · have l1 : (lt == (n : Int)) = false := by rw [beq_eq_false_iff_ne]; exact hle
            have l2 : (lt == (n : Int) - 1) = true := by rw [beq_iff_eq]; exact hless.resolve_left hle
            clear hless hle
            go_wp2_with fail
            refine (HR.out w1 a9 c9 (NT.out) hc9).mono ?_
            rintro e w8 ⟨rfl, k8⟩
            have B8 := Lib.hid (step BX.out k8)
            clear k8
            go_wp2
            go_ret
            exact ⟨rfl, B8.out⟩
        · have h1i : ¬ (0 : Int) < (W.length : Int) := by omega
          have NT := NT0
          have BX := BX0
          go_wp2_with fail
          refine (HR.out wr a9 c9 (NT.out) hc9).mono ?_
          rintro e w8 ⟨rfl, k8⟩
          have B8 := Lib.hid (step BX.out k8)
          clear k8
          go_wp2
          go_ret
          exact ⟨rfl, B8.out⟩

set_option maxRecDepth 100000 in
theorem lifted (os : Os) (started : os.Started) (H : Type) (enc : TypeId × Value → H) :
    ReturnsInHanded {} Try.checked os 7 .any (Rows.fnLeastTrucksSpec.pre6 enc Try.prog Try.f7 Rows.fnLeastTrucksRow.domain false) (Rows.fnLeastTrucksSpec.post enc Try.prog Try.f7 false true false false) := by
  refine returnsInHanded_of_change (C := Try.checked) own started (by kernel_rfl) Try.func7
    (ChangeSpec.witness6 (enc := enc) (C := Try.checked) false ⟨#[], #[.slice none 0 0], []⟩ 8 (by kernel_rfl) (by kernel_rfl) (by kernel_rfl) (by kernel_rfl)) ?_
  intro W base args ds gs before hval0 hW hcnd _
  have hval : ∀ (j : Nat) t v, Try.f7.params[j]? = some t → args[j]? = some v → Value.okWide Try.prog W .any base t v := hval0
  have hW' := hW
  obtain ⟨p, q, hA0, hV, rfl, hfz, hnd⟩ := hW
  have hA : DataW.TrodAll enc Try.prog W 0 (fun _ => true) true Try.f7.params.toList args.toList ds p := hA0
  rw [Try.params7] at hA hval
  obtain ⟨v0, vs0, d0, ds0, p0, q0, hargs, rfl, rfl, h0, r0⟩ := trodAll_cons hA
  obtain ⟨rfl, rfl, rfl⟩ := trodAll_nil r0
  obtain rfl : args = #[v0] := by cases args; simp_all
  obtain ⟨rfl, rfl⟩ := trodVars_none hV
  have g0 := h0
  have lt0 : ∀ x ∈ p0, x.block < W.heap.size := by obtain ⟨m, hm⟩ := g0; exact DataW.trod_lt m _ _ _ hm
  obtain ⟨a0, l0, k0, rfl⟩ := okWide_slice Try.underlying22 (hval 0 22 v0 rfl rfl)
  obtain ⟨z0, w0⟩ : ∃ zs, IsRow .u8 W a0 l0 k0 zs := by
    obtain ⟨fuel, hf⟩ := h0
    rcases open_ints Try.underlying22 Try.underlying5 (by kernel_rfl) hf with ⟨hcs, _⟩ | ⟨x, l, c, zs, hcs, _, hl, hm, hz, _, hcell, hwz⟩
    · simp [Value.cells] at hcs
      obtain ⟨rfl, rfl, rfl⟩ := hcs
      exact ⟨[], .inl ⟨rfl, rfl, rfl, rfl⟩⟩
    · simp [Value.cells] at hcs
      obtain ⟨rfl, rfl, rfl⟩ := hcs
      exact ⟨zs, .inr ⟨_, rfl, hl, hm, by simpa using hz, hcell, hwz⟩⟩
  clear hA0 hval0
  refine (walk W a0 l0 k0 z0 w0).mono fun e W' ⟨he, bel⟩ => ?_
  subst he
  exact ⟨_, rfl, _, _, _, [], _, [], hW', trodAll_mk1 (shut_bool Try.underlying4 _), (trodAll_cons_mk (Below.trod laidOut (by kernel_rfl) (of_decide_eq_true (by kernel_rfl)) g0 bel lt0) trodAll_mk0), rfl, bel.frame _, fun h => by cases h⟩

theorem proved : Rows.FnLeastTrucksSaid :=
  OpenClaim.holds_of_wide 7 Try.f7 rfl rfl rfl rfl rfl rfl rfl ⟨rfl, rfl, rfl, rfl, rfl⟩ rfl rfl rfl rfl rfl (by kernel_rfl) Try.func7 (by kernel_rfl)
    (of_decide_eq_true (by kernel_rfl)) (by unfold Func.isWrapper; first | (rw [if_pos (by decide +kernel)]; kernel_rfl) | (rw [if_neg (by decide +kernel)]; exact ⟨rfl, rfl⟩))
    (fun os started H enc _ => lifted os started H enc)
#print axioms proved
end Go.Proofs.Ytmoghfgfdbdioaa.fnLeastTrucks
