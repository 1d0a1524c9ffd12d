/-
  For every slice of bytes, laws.FnFill returns true.
-/
import Derived.Test.YtghgipcblhfceaaRows
import Derived.Test.YtghgipcblhfceaaDrawT
import Derived.Test.YtghgipcblhfceaaFillI
import Derived.Test.YtghgipcblhfceaaFillK
import Derived.Test.YtghgipcblhfceaaSoB
import Derived.Test.YtghgipcblhfceaaTry2
import Derived.Test.YtghgipcblhfceaaSo
import Derived.BigQuiet
import Derived.IntWalk
import Derived.WalkKit
import Derived.ProofKit
import Derived.OpenShut
import Derived.ShutString
import Derived.ChangeOld
import Derived.Below
import Derived.Handy
import Derived.Lib.Hide
namespace Go.Proofs.Ytghgipcblhfceaa.fnFill
open Go.ChangeShapes Go.WideShapes Go.ChangeAt Go.RowKit
open Go.ChangeMaps (open_string shut_string)
open Go.PlainAid (bt get_bt bt_nonneg bt_le)
set_option linter.unusedVariables false

theorem own : ownKnob Try.prog.godebug = none := by kernel_rfl
theorem laidOut : laidOutB Try.prog = true := by kernel_rfl

set_option maxHeartbeats 40000000 in
set_option maxRecDepth 100000 in
theorem walk (w : World) (a0 : Option Addr) (l0 k0 : Nat) (z0 : List Int) (w0 : IsRow .u8 w a0 l0 k0 z0) :
    Calls Try.prog 4 #[.slice a0 l0 k0] w fun e w' => e = .returned (.bool true) ∧ Below w.heap.size w w' := by
  by_cases hl : 1048576 < l0
  · go_enter Try.func4, Try.ntmps4
    go_wp2
    go_ret
    exact ⟨rfl, Below.refl _ _⟩
  go_enter Try.func4, Try.ntmps4
  go_wp2_with fail
  refine (DrawFillTrays_any a0 l0 k0 z0 w w0).mono ?_
  rintro e u ⟨v, s, rfl, a, n, c, I, C, rfl, lt, fi, hn, bl⟩
  have LT := Lib.hid lt
  have BL := Lib.hid bl
  have HI := Lib.hid (fun X (h : Lts X a n I C) => impl_FillTrays X a n c I C h fi s)
  have HS := Lib.hid (fun X (h : Lts X a n I C) => spec_FillTrays X a n c I C h fi (by omega) s)
  have hN60 := fillN_le (n := n) (I := I) (C := C) (s := s) (d := 0)
  have hLn := fun i (hi : i < fillN n I C s 0) => fillM_len hi
  have HLW := fun h => fill_law (n := n) (I := I) (C := C) (s := s) fi h
  have hno := fun h => fillN_no (n := n) (I := I) (C := C) (s := s) (d := 0) h
  clear lt fi bl
  obtain ⟨ok, hok⟩ : ∃ ok, fillOk n I C s 0 = ok := ⟨_, rfl⟩
  obtain ⟨N, hN⟩ : ∃ N, fillN n I C s 0 = N := ⟨_, rfl⟩
  obtain ⟨MM, hM⟩ : ∃ MM, fM I C s (0 : Int).toNat n = MM := ⟨_, rfl⟩
  rw [hok, hN, hM] at HI HS
  rw [hok, hN, hM] at HLW
  rw [hN] at hN60 hno
  rw [hok] at hno
  rw [hN, hM] at hLn
  clear hok hN hM
  have hn9 : N ≤ 1048576 := by omega
  have HZL : Hid (∀ i, i < N → (MM i).length ≤ 1048576) := fun i hi => by have := hLn i hi; omega
  have HSZ : Hid (N ≤ 60 ∧ ∀ i, i < N → (MM i).length ≤ 60) := ⟨hN60, hLn⟩
  clear hLn
  cases ok
  · have hN0 := hno rfl
    subst hN0
    clear HLW hno
    go_wp2_with fail
    refine (HI.out _ LT.out).mono ?_
    rintro e v1 ⟨p1, V1, rfl, m1, k1⟩
    replace BL := Lib.hid (step BL.out k1)
    replace LT := Lib.hid (LT.out.on k1)
    have HM1 := Lib.hid m1
    clear k1 m1
    obtain ⟨G1, C1, hp1⟩ : ∃ g c, p1 = .slice g 0 c := by
      rcases HM1.out.form with ⟨rfl, h⟩ | ⟨g, c, rfl, _⟩
      · exact ⟨_, _, by first | rfl | (rw [h])⟩
      · exact ⟨_, _, rfl⟩
    subst hp1
    go_wp2_with fail
    refine (HS.out _ LT.out).mono ?_
    rintro e v2 ⟨p2, V2, rfl, m2, k2⟩
    replace BL := Lib.hid (step BL.out k2)
    replace LT := Lib.hid (LT.out.on k2)
    replace HM1 := Lib.hid (HM1.out.on k2)
    have HM2 := Lib.hid m2
    clear k2 m2
    go_wp2_with fail
    refine (soBins_mat _ _ _ _ p2 0 V1 V2 MM HM1.out HM2.out hn9 HZL.out).mono ?_
    rintro e v3 ⟨rfl, k3⟩
    replace BL := Lib.hid (step BL.out k3)
    replace LT := Lib.hid (LT.out.on k3)
    replace HM1 := Lib.hid (HM1.out.on k3)
    replace HM2 := Lib.hid (HM2.out.on k3)
    clear k3
    go_wp2_with fail
    refine (soBins_mat _ _ _ _ p2 0 V1 V2 MM HM1.out HM2.out hn9 HZL.out).mono ?_
    rintro e v4 ⟨rfl, k4⟩
    replace BL := Lib.hid (step BL.out k4)
    replace LT := Lib.hid (LT.out.on k4)
    clear k4
    go_wp2
    go_ret
    exact ⟨rfl, BL.out⟩
  · obtain ⟨n60, hs, hleast, hfull, ht1, ht2, hemp, hszz⟩ := HLW rfl
    clear HLW hno
    have HFU := Lib.hid hfull
    have HT1 := Lib.hid ht1
    have HT2 := Lib.hid ht2
    have HE := Lib.hid hemp
    have HZZ := Lib.hid hszz
    have HLE : Hid (MW.leastTrays (n : Int) s = (N : Int)) := hleast.symm
    have hs1 := hs.1
    have hs20 := hs.2
    clear hleast hfull ht1 ht2 hemp hs hszz
    go_wp2_with fail
    refine (HI.out _ LT.out).mono ?_
    rintro e v1 ⟨p1, V1, rfl, m1, k1⟩
    replace BL := Lib.hid (step BL.out k1)
    replace LT := Lib.hid (LT.out.on k1)
    have HM1 := Lib.hid m1
    clear k1 m1
    obtain ⟨G1, C1, hp1⟩ : ∃ g c, p1 = .slice g N c := by
      rcases HM1.out.form with ⟨rfl, h⟩ | ⟨g, c, rfl, _⟩
      · exact ⟨_, _, by first | rfl | (rw [h])⟩
      · exact ⟨_, _, rfl⟩
    subst hp1
    go_wp2_with fail
    refine (HS.out _ LT.out).mono ?_
    rintro e v2 ⟨p2, V2, rfl, m2, k2⟩
    replace BL := Lib.hid (step BL.out k2)
    replace LT := Lib.hid (LT.out.on k2)
    replace HM1 := Lib.hid (HM1.out.on k2)
    have HM2 := Lib.hid m2
    clear k2 m2
    go_wp2_with fail
    refine (soBins_mat _ _ _ _ p2 N V1 V2 MM HM1.out HM2.out hn9 HZL.out).mono ?_
    rintro e v3 ⟨rfl, k3⟩
    replace BL := Lib.hid (step BL.out k3)
    replace LT := Lib.hid (LT.out.on k3)
    replace HM1 := Lib.hid (HM1.out.on k3)
    replace HM2 := Lib.hid (HM2.out.on k3)
    clear k3
    clear HM2
    have HBE := Lib.hid BL.out
    have HLT := Lib.hid LT.out
    clear BL LT
    obtain ⟨Z, hZ⟩ : ∃ Z, v3 = Z := ⟨_, rfl⟩
    rw [hZ] at HLT HM1 HBE ⊢
    clear hZ
    go_wp2
    go_loopw [9] (fun i wr => ∃ k : Nat, k ≤ N ∧ i = .int .i64 k ∧ Hid (Below Z.heap.size Z wr)) (fun i _ => N - (intOf i).toNat)
    case atStart => exact ⟨0, Nat.zero_le _, rfl, Below.refl _ _⟩
    case round =>
      obtain ⟨k, hk, rfl, hbw⟩ := hrel
      have hkw : IntKind.i64.wrap ((k : Int) + 1) = ((k + 1 : Nat) : Int) := (IntWalk.i64_in _ (by omega)).trans (by omega)
      by_cases hlt : k + 1 < N
      · have hki : ((k + 1 : Nat) : Int) < (N : Int) := by omega
        have hkl : (k : Int) < (N : Int) := by omega
        have hk0 : (0 : Int) ≤ (k : Int) := by omega
        have hm := HM1.out.on hbw.out
        obtain ⟨g, qq, hg, c0, _⟩ := hm.cell (show k < N by omega)
        obtain ⟨ak, ck, hvk, _, _⟩ := (hm.2.1 k (show k < N by omega)).form
        have hfl := HFU.out k hlt
        obtain ⟨mk, hmk⟩ : ∃ m, (MM k).length = m := ⟨_, rfl⟩
        rw [hvk, hmk] at c0
        rw [hmk] at hfl
        injection hg with hg1 hg2 hg3
        subst hg1
        clear hm hg2 hg3 hmk hvk
        have hne : ((mk : Int) != s) = false := by rw [hfl]; simp
        go_wp2
        go_roundw
        case rel => exact ⟨k + 1, by omega, by go_num, hbw.out⟩
        case measure => simp [intOf]; omega
      · have hki : ¬ ((k + 1 : Nat) : Int) < (N : Int) := by omega
        have B3 := Lib.hid (HBE.out.trans (hbw.out.mono HBE.out.size))
        have LT := Lib.hid (HLT.out.on hbw.out)
        have HM3 := Lib.hid (HM1.out.on hbw.out)
        have hnn := n60
        have FN : Hid (n ≤ 1048576) := by unfold Hid; omega
        go_wp2_with fail
        refine (impl_EmptyTrays _ _ _ N V1 MM HM3.out HZZ.out).mono ?_
        rw [HT2.out, HE.out]
        rintro e v4 ⟨q, rfl, r4, k4⟩
        replace B3 := Lib.hid (step B3.out k4)
        replace LT := Lib.hid (LT.out.on k4)
        replace HM3 := Lib.hid (HM3.out.on k4)
        obtain ⟨a4, c4, hq, _, _⟩ := r4.form
        rw [M.lst_length] at hq
        subst hq
        have L4 := Lib.hid r4.lts_lst
        clear k4 r4
        go_wp2_with fail
        refine (soBatch_same _ _ _ n _ _ I C L4.out LT.out FN.out).mono ?_
        rintro e v5 ⟨rfl, k5⟩
        replace B3 := Lib.hid (step B3.out k5)
        replace HM3 := Lib.hid (HM3.out.on k5)
        clear k5
        go_wp2_with fail
        refine (impl_LeastTrays (n : Int) s _).mono ?_
        rw [HLE.out]
        rintro e v6 ⟨rfl, rfl⟩
        go_wp2_with fail
        refine (impl_TraysValid _ _ _ N V1 MM HM3.out HZZ.out s).mono ?_
        rw [HT1.out]
        rintro e v7 ⟨rfl, k7⟩
        replace B3 := Lib.hid (step B3.out k7)
        clear k7
        go_wp2
        go_ret
        exact ⟨rfl, B3.out⟩


set_option maxRecDepth 100000 in
theorem lifted (os : Os) (started : os.Started) (H : Type) (enc : TypeId × Value → H) :
    ReturnsInHanded {} Try.checked os 4 .any (Rows.fnFillSpec.pre6 enc Try.prog Try.f4 Rows.fnFillRow.domain false) (Rows.fnFillSpec.post enc Try.prog Try.f4 false true false false) := by
  refine returnsInHanded_of_change (C := Try.checked) own started (by kernel_rfl) Try.func4
    (ChangeSpec.witness6 (enc := enc) (C := Try.checked) false ⟨#[], #[.slice none 0 0], []⟩ 8 (by kernel_rfl) (by kernel_rfl) (by kernel_rfl) (by kernel_rfl)) ?_
  intro W base args ds gs before hval0 hW hcnd _
  have hval : ∀ (j : Nat) t v, Try.f4.params[j]? = some t → args[j]? = some v → Value.okWide Try.prog W .any base t v := hval0
  have hW' := hW
  obtain ⟨p, q, hA0, hV, rfl, hfz, hnd⟩ := hW
  have hA : DataW.TrodAll enc Try.prog W 0 (fun _ => true) true Try.f4.params.toList args.toList ds p := hA0
  rw [Try.params4] at hA hval
  obtain ⟨v0, vs0, d0, ds0, p0, q0, hargs, rfl, rfl, h0, r0⟩ := trodAll_cons hA
  obtain ⟨rfl, rfl, rfl⟩ := trodAll_nil r0
  obtain rfl : args = #[v0] := by cases args; simp_all
  obtain ⟨rfl, rfl⟩ := trodVars_none hV
  have g0 := h0
  have lt0 : ∀ x ∈ p0, x.block < W.heap.size := by obtain ⟨m, hm⟩ := g0; exact DataW.trod_lt m _ _ _ hm
  obtain ⟨a0, l0, k0, rfl⟩ := okWide_slice Try.underlying22 (hval 0 22 v0 rfl rfl)
  obtain ⟨z0, w0⟩ : ∃ zs, IsRow .u8 W a0 l0 k0 zs := by
    obtain ⟨fuel, hf⟩ := h0
    rcases open_ints Try.underlying22 Try.underlying5 (by kernel_rfl) hf with ⟨hcs, _⟩ | ⟨x, l, c, zs, hcs, _, hl, hm, hz, _, hcell, hwz⟩
    · simp [Value.cells] at hcs
      obtain ⟨rfl, rfl, rfl⟩ := hcs
      exact ⟨[], .inl ⟨rfl, rfl, rfl, rfl⟩⟩
    · simp [Value.cells] at hcs
      obtain ⟨rfl, rfl, rfl⟩ := hcs
      exact ⟨zs, .inr ⟨_, rfl, hl, hm, by simpa using hz, hcell, hwz⟩⟩
  clear hA0 hval0
  refine (walk W a0 l0 k0 z0 w0).mono fun e W' ⟨he, bel⟩ => ?_
  subst he
  exact ⟨_, rfl, _, _, _, [], _, [], hW', trodAll_mk1 (shut_bool Try.underlying4 _), (trodAll_cons_mk (Below.trod laidOut (by kernel_rfl) (of_decide_eq_true (by kernel_rfl)) g0 bel lt0) trodAll_mk0), rfl, bel.frame _, fun h => by cases h⟩

theorem proved : Rows.FnFillSaid :=
  OpenClaim.holds_of_wide 4 Try.f4 rfl rfl rfl rfl rfl rfl rfl ⟨rfl, rfl, rfl, rfl, rfl⟩ rfl rfl rfl rfl rfl (by kernel_rfl) Try.func4 (by kernel_rfl)
    (of_decide_eq_true (by kernel_rfl)) (by unfold Func.isWrapper; first | (rw [if_pos (by decide +kernel)]; kernel_rfl) | (rw [if_neg (by decide +kernel)]; exact ⟨rfl, rfl⟩))
    (fun os started H enc _ => lifted os started H enc)
#print axioms proved
end Go.Proofs.Ytghgipcblhfceaa.fnFill
