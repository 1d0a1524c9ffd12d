/-
  For every two slices of bytes, laws.FnTransit returns true.
-/
import Derived.Test.YtabmbbnfpfkcaaaRows
import Derived.Test.YtabmbbnfpfkcaaaTrA
import Derived.Test.YtabmbbnfpfkcaaaDrawNet
import Derived.Deep.RegionHeld3
import Derived.BigQuiet
import Derived.IntWalk
import Derived.WalkKit
import Derived.ProofKit
import Derived.OpenShut
import Derived.ShutString
import Derived.ChangeOld
import Derived.Below
import Derived.Handy
import Derived.Lib.Hide
namespace Go.Proofs.Ytabmbbnfpfkcaaa.fnTransit
open Go.ChangeShapes Go.WideShapes Go.ChangeAt Go.RowKit
open Go.ChangeMaps (open_string shut_string)
open Go.PlainAid (bt get_bt bt_nonneg bt_le)
set_option linter.unusedVariables false

theorem own : ownKnob Try.prog.godebug = none := by kernel_rfl
theorem laidOut : laidOutB Try.prog = true := by kernel_rfl

set_option maxHeartbeats 40000000 in
set_option maxRecDepth 100000 in
theorem walk (w : World) (a0 : Option Addr) (l0 k0 : Nat) (z0 : List Int) (w0 : IsRow .u8 w a0 l0 k0 z0) (a1 : Option Addr) (l1 k1 : Nat) (z1 : List Int) (w1 : IsRow .u8 w a1 l1 k1 z1) :
    Calls Try.prog 8 #[.slice a0 l0 k0, .slice a1 l1 k1] w fun e w' => e = .returned (.bool true) ∧ Below w.heap.size w w' := by
  by_cases hl : 1048576 < l0
  · go_enter Try.func8, Try.ntmps8
    go_wp2
    go_ret
    exact ⟨rfl, Below.refl _ _⟩
  by_cases hl' : 1048576 < l1
  · go_enter Try.func8, Try.ntmps8
    go_wp2
    go_ret
    exact ⟨rfl, Below.refl _ _⟩
  go_enter Try.func8, Try.ntmps8
  go_wp2_with fail
  refine (DrawTransitCount_any a0 l0 k0 z0 w w0).mono ?_
  rintro e u ⟨v, s, ub, L, B, rfl, hs, ⟨a, n, c, NM, RL, rfl, nt, fi, hn8, hl40, _⟩, rw3, l61, sm30, bl⟩
  obtain ⟨a2, c2, hv2, hcap, hlt⟩ := rw3.form
  have hnil : a2 = none → L.length = 0 ∧ c2 = 0 := fun e => by
    rcases rw3.2 with ⟨e2, h0⟩ | ⟨g, cap, cur, e2, _⟩
    · rw [hv2] at e2
      injection e2 with e3 e4 e5
      exact ⟨e4, e5⟩
    · rw [hv2, e] at e2
      injection e2 with e3
      cases e3
  subst hv2
  have HLM := Lib.hid hl'
  have NT := Lib.hid nt
  have FI := Lib.hid fi
  have LT := Lib.hid hlt
  have FL : Hid (Fits L.length (nI L) (nC L)) := fun i hi => by
    have := sm30.at i hi
    rw [nI_at hi, nC_at hi]
    exact ⟨by omega, by unfold maxLen; omega⟩
  have BL := Lib.hid bl
  have hsm : s.size ≤ maxLen := by unfold maxLen; omega
  have hn2 : n ≤ 1048576 := by omega
  have hm2 : L.length ≤ 1048576 := by omega
  have HLL : Hid (∀ i, i < n → (RL i).length ≤ 1048576) := fun i hi => by have := hl40 i hi; omega
  clear nt fi bl hl40 hlt rw3 sm30
  have HI : Hid (∀ X b m c' I C, Nts X a n NM RL → Lts X b m I C → Fits m I C → m ≤ 1048576 → Calls Try.prog 30 #[.slice a n c, .string s, .slice b m c'] X fun e w' => e = .returned (.int .i64 (M.trans n NM RL s m I C)) ∧ Below X.heap.size X w') := fun X b m c' I C hw hl hf hm => impl_TransitCount X a n c NM RL hw FI.out hn2 s hsm b m c' I C hl hf hm
  have HS : Hid (∀ X, Nts X a n NM RL → Lts X a2 L.length (nI L) (nC L) → Calls Try.prog 31 #[.slice a n c, .string s, .slice a2 L.length c2] X fun e w' => e = .returned (.int .i64 (M.trans n NM RL s L.length (nI L) (nC L))) ∧ Below X.heap.size X w') := fun X hw hl => spec_TransitCount X a n c NM RL hw FI.out hn2 HLL.out s a2 L.length c2 _ _ hl FL.out hm2
  cases hok : (M.routeOk n NM RL s && M.batch L.length (nI L) (nC L))
  · have hT : M.trans n NM RL s L.length (nI L) (nC L) = -1 := M.trans_no (by
      cases h1 : M.routeOk n NM RL s
      · exact Or.inl rfl
      · rw [h1, Bool.true_and] at hok; exact Or.inr hok)
    have HT := Lib.hid hT
    clear hT hok
    go_wp2_with fail
    refine (HI.out _ _ _ _ _ _ NT.out LT.out FL.out hm2).mono ?_
    rw [HT.out]
    rintro e v1 ⟨rfl, k1⟩
    replace BL := Lib.hid (step BL.out k1)
    replace NT := Lib.hid (NT.out.on k1)
    replace LT := Lib.hid (LT.out.on k1)
    clear k1
    go_wp2_with fail
    refine (HS.out _ NT.out LT.out).mono ?_
    rw [HT.out]
    rintro e v2 ⟨rfl, k2⟩
    replace BL := Lib.hid (step BL.out k2)
    replace NT := Lib.hid (NT.out.on k2)
    replace LT := Lib.hid (LT.out.on k2)
    clear k2
    go_wp2_with fail
    refine (HS.out _ NT.out LT.out).mono ?_
    rw [HT.out]
    rintro e v3 ⟨rfl, k3⟩
    replace BL := Lib.hid (step BL.out k3)
    replace NT := Lib.hid (NT.out.on k3)
    replace LT := Lib.hid (LT.out.on k3)
    clear k3
    go_wp2
    go_ret
    exact ⟨rfl, BL.out⟩
  · rw [Bool.and_eq_true] at hok
    obtain ⟨hro, hba⟩ := hok
    obtain ⟨N, hN, hN1, hsum, hcut⟩ := M.trans_law hro hba hn8
    have HT := Lib.hid hN
    have HSU := Lib.hid hsum
    have HCU := Lib.hid hcut
    have HRO := Lib.hid hro
    have HBA := Lib.hid hba
    have hnn : ((N : Int) != (N : Int)) = false := by simp
    have hnn2 : ((N : Int) == (N : Int)) = true := by simp
    have hneg : ¬ (N : Int) < 0 := by omega
    clear hN hsum hcut hro hba
    go_wp2_with fail
    refine (HI.out _ _ _ _ _ _ NT.out LT.out FL.out hm2).mono ?_
    rw [HT.out]
    rintro e v1 ⟨rfl, k1⟩
    replace BL := Lib.hid (step BL.out k1)
    replace NT := Lib.hid (NT.out.on k1)
    replace LT := Lib.hid (LT.out.on k1)
    clear k1
    go_wp2_with fail
    refine (HS.out _ NT.out LT.out).mono ?_
    rw [HT.out]
    rintro e v2 ⟨rfl, k2⟩
    replace BL := Lib.hid (step BL.out k2)
    replace NT := Lib.hid (NT.out.on k2)
    replace LT := Lib.hid (LT.out.on k2)
    clear k2
    obtain ⟨q, hq⟩ : ∃ q, l1 % (L.length + 1) = q := ⟨_, rfl⟩
    have hql : q ≤ L.length := by have := Nat.mod_lt l1 (show 0 < L.length + 1 by omega); omega
    have hqt : (l1 : Int).tmod ((L.length : Int) + 1) = (q : Int) := by rw [← hq]; exact (Int.ofNat_tmod l1 (L.length + 1)).symm
    have hqe : (l1 : Int) % ((L.length : Int) + 1) = (q : Int) := by rw [← hq]; exact (Int.natCast_emod l1 (L.length + 1)).symm
    have hq61 : q ≤ 61 := by omega
    have hw0 : IntKind.i64.wrap ((L.length : Int) + 1) = (L.length : Int) + 1 := IntWalk.i64_in _ (by omega)
    have hw1 : IntKind.i64.wrap (q : Int) = (q : Int) := IntWalk.i64_in _ (by omega)
    have hz1 : ¬ ((L.length : Int) + 1 = 0) := by omega
    have HQ := Lib.hid (And.intro hqt hqe)
    have HQW := Lib.hid (And.intro hw0 hw1)
    have HCT := Lib.hid (fun W (hW : Lts W a2 L.length (nI L) (nC L)) => lets_cut W a2 L.length c2 q L rfl hcap hql hnil hW)
    have HN61 : Hid (N ≤ 61 * 8) := Nat.le_trans hN1 (Nat.mul_le_mul l61 hn8)
    clear hq hqt hqe hw0 hw1
    go_wp2
    go_loopw [9, 10] (fun vs vi wr => ∃ i : Nat, i ≤ L.length ∧ vi = .int .i64 i ∧ vs = .int .i64 ((M.transN NM RL n s (nC L) i : Nat) : Int) ∧ Hid (Nts wr a n NM RL) ∧ Hid (Lts wr a2 L.length (nI L) (nC L)) ∧ Hid (Below w.heap.size w wr)) (fun _ vi _ => L.length - (intOf vi).toNat)
    case atStart => exact ⟨0, Nat.zero_le _, rfl, rfl, NT, LT, BL⟩
    case round =>
      obtain ⟨i, hi, rfl, rfl, hnt, hlt, hbl⟩ := hrel
      by_cases hin : i < L.length
      · have hini : (i : Int) < (L.length : Int) := by omega
        obtain ⟨b, o, hab, c0, c1⟩ := hlt.out i hin
        obtain ⟨hp1, hp9, hcs, hstep, hbd⟩ := HSU.out i hin
        have HST := Lib.hid hstep
        have hcm := (FL.out i hin).2
        obtain ⟨P, e9, hR⟩ : ∃ P e9, M.routeP n NM RL s (nC L i) = (P, e9) := ⟨_, _, rfl⟩
        rw [hR] at hp1 hp9 HST
        have HP : Hid (∀ X, Nts X a n NM RL → Calls Try.prog 22 #[.slice a n c, .string s, .string (nC L i)] X (PathIs X P e9)) := fun X hw => by
          have := impl_RoutePath X a n c NM RL hw FI.out hn2 s (nC L i) hsm hcm
          rw [hR] at this
          exact this
        have HSTP : Hid (M.transN NM RL n s (nC L) (i + 1) = M.transN NM RL n s (nC L) i + (P.length - 1)) := HST.out
        have hp1' : 1 ≤ P.length := hp1
        have hp9' : P.length ≤ 9 := hp9
        generalize M.transN NM RL n s (nC L) i = S at HSTP hbd ⊢
        generalize nC L i = ci at c1 HP
        have hab2 := Lib.hid hab
        subst hab
        have hww : IntKind.i64.wrap ((S : Int) + (P.length : Int)) = (S : Int) + (P.length : Int) := IntWalk.i64_in _ (by omega)
        clear hp1 hp9 hcs hstep hR HST
        go_wp2_with fail
        refine (HP.out _ hnt.out).mono ?_
        rintro e w5 ⟨p5, rfl, r5, k5⟩
        obtain ⟨pa, pc, rfl, _⟩ := r5.form
        have NT5 := Lib.hid (hnt.out.on k5)
        have LT5 := Lib.hid (hlt.out.on k5)
        have BL5 := Lib.hid (step hbl.out k5)
        clear r5 k5 c0 c1
        go_wp2
        go_roundw
        case rel => exact ⟨i + 1, by omega, by go_num, by rw [HSTP.out]; go_num, NT5, LT5, BL5⟩
        case measure => first | (simp [intOf]; done) | (simp [intOf]; omega)
      · obtain rfl : i = L.length := by omega
        have hini : ¬ (L.length : Int) < (L.length : Int) := by omega
        have hN2 := M.trans_one HRO.out HBA.out HT.out
        rw [hN2]
        obtain ⟨q1, q2⟩ := HQ.out
        obtain ⟨q3, q4⟩ := HQW.out
        obtain ⟨T1, T2, ht1, ht2, ht3, hf1, hf2⟩ := HCU.out q hql
        obtain ⟨a', hs1, hs2, LA, LB⟩ := HCT.out wr hlt.out
        have LA := Lib.hid LA
        have LB := Lib.hid LB
        have HA := Lib.hid (fun X (hX : Below wr.heap.size wr X) => HI.out X a2 q c2 (nI (L.take q)) (nC (L.take q)) (hnt.out.on hX) (LA.out.on hX) hf1 (by omega))
        have HB := Lib.hid (fun X (hX : Below wr.heap.size wr X) => HI.out X a' (L.length - q) (c2 - q) (nI (L.drop q)) (nC (L.drop q)) (hnt.out.on hX) (LB.out.on hX) hf2 (by omega))
        rw [ht1] at HA
        rw [ht2] at HB
        have hN6 := HN61.out
        have hm1 : (L.length : Int) * (n : Int) = ((L.length * n : Nat) : Int) := by push_cast; rfl
        have hmb : L.length * n ≤ 61 * 8 := Nat.mul_le_mul l61 hn8
        obtain ⟨MB, hMB⟩ : ∃ MB : Nat, L.length * n = MB := ⟨_, rfl⟩
        rw [hMB] at hm1 hmb hN1
        have hm3 : IntKind.i64.wrap ((L.length : Int) * (n : Int)) = (MB : Int) := by rw [hm1]; exact IntWalk.i64_in _ (by omega)
        have hle : (N : Int) ≤ (MB : Int) := by omega
        have hle2 : decide ((N : Int) ≤ (MB : Int)) = true := decide_eq_true hle
        have hle3 : N ≤ MB := hN1
        have hts : ((T1 : Int) + (T2 : Int)) = (N : Int) := by omega
        have htw : IntKind.i64.wrap ((T1 : Int) + (T2 : Int)) = (N : Int) := by rw [hts]; exact IntWalk.i64_in _ (by omega)
        have hnn3 : (N == N) = true := by simp
        have KL : Below wr.heap.size wr wr := Below.refl _ _
        obtain ⟨nq, hnq⟩ : ∃ x, L.length - q = x := ⟨_, rfl⟩
        rw [hnq] at hs2 HB
        obtain ⟨cq, hcq⟩ : ∃ x, c2 - q = x := ⟨_, rfl⟩
        rw [hcq] at hs2 HB
        clear ht1 ht2 ht3 hf1 hf2 hN2 hMB hm1 hnq hcq hN6 HCT HCU LA LB hts
        go_wp2_with fail
        go_region_held3 (fun _ => True) (exact trivial) (first
          | (go_at_call 30; (with_reducible refine (HA.out _ ?hx7).mono ?_); (case hx7 => (first | exact KL | exact KL.drew | exact KL.on2 (by go_grown))); rintro e w7 ⟨rfl, k7⟩; (have KL2 := sstep (by first | exact KL | exact KL.drew | exact KL.on2 (by go_grown)) k7); (replace KL := KL2))
          | (go_at_call 30; (with_reducible refine (HB.out _ ?hx8).mono ?_); (case hx8 => (first | exact KL | exact KL.drew | exact KL.on2 (by go_grown))); rintro e w8 ⟨rfl, k8⟩; (have KL2 := sstep (by first | exact KL | exact KL.drew | exact KL.on2 (by go_grown)) k8); (replace KL := KL2)))
        all_goals
          have KZ := Lib.hid (step hbl.out KL)
          go_wp2
          go_ret
          exact ⟨rfl, by first | exact KZ.out | exact below_drewN0 KZ.out _ | exact KZ.out.drew⟩

set_option maxRecDepth 100000 in
theorem lifted (os : Os) (started : os.Started) (H : Type) (enc : TypeId × Value → H) :
    ReturnsInHanded {} Try.checked os 8 .any (Rows.fnTransitSpec.pre6 enc Try.prog Try.f8 Rows.fnTransitRow.domain false) (Rows.fnTransitSpec.post enc Try.prog Try.f8 false true false false) := by
  refine returnsInHanded_of_change (C := Try.checked) own started (by kernel_rfl) Try.func8
    (ChangeSpec.witness6 (enc := enc) (C := Try.checked) false ⟨#[], #[.slice none 0 0, .slice none 0 0], []⟩ 8 (by kernel_rfl) (by kernel_rfl) (by kernel_rfl) (by kernel_rfl)) ?_
  intro W base args ds gs before hval0 hW hcnd _
  have hval : ∀ (j : Nat) t v, Try.f8.params[j]? = some t → args[j]? = some v → Value.okWide Try.prog W .any base t v := hval0
  have hW' := hW
  obtain ⟨p, q, hA0, hV, rfl, hfz, hnd⟩ := hW
  have hA : DataW.TrodAll enc Try.prog W 0 (fun _ => true) true Try.f8.params.toList args.toList ds p := hA0
  rw [Try.params8] at hA hval
  obtain ⟨v0, vs0, d0, ds0, p0, q0, hargs, rfl, rfl, h0, r0⟩ := trodAll_cons hA
  obtain ⟨v1, vs1, d1, ds1, p1, q1, rfl, rfl, rfl, h1, r1⟩ := trodAll_cons r0
  obtain ⟨rfl, rfl, rfl⟩ := trodAll_nil r1
  obtain rfl : args = #[v0, v1] := by cases args; simp_all
  obtain ⟨rfl, rfl⟩ := trodVars_none hV
  have g0 := h0
  have lt0 : ∀ x ∈ p0, x.block < W.heap.size := by obtain ⟨m, hm⟩ := g0; exact DataW.trod_lt m _ _ _ hm
  have g1 := h1
  have lt1 : ∀ x ∈ p1, x.block < W.heap.size := by obtain ⟨m, hm⟩ := g1; exact DataW.trod_lt m _ _ _ hm
  obtain ⟨a0, l0, k0, rfl⟩ := okWide_slice Try.underlying22 (hval 0 22 v0 rfl rfl)
  obtain ⟨z0, w0⟩ : ∃ zs, IsRow .u8 W a0 l0 k0 zs := by
    obtain ⟨fuel, hf⟩ := h0
    rcases open_ints Try.underlying22 Try.underlying5 (by kernel_rfl) hf with ⟨hcs, _⟩ | ⟨x, l, c, zs, hcs, _, hl, hm, hz, _, hcell, hwz⟩
    · simp [Value.cells] at hcs
      obtain ⟨rfl, rfl, rfl⟩ := hcs
      exact ⟨[], .inl ⟨rfl, rfl, rfl, rfl⟩⟩
    · simp [Value.cells] at hcs
      obtain ⟨rfl, rfl, rfl⟩ := hcs
      exact ⟨zs, .inr ⟨_, rfl, hl, hm, by simpa using hz, hcell, hwz⟩⟩
  obtain ⟨a1, l1, k1, rfl⟩ := okWide_slice Try.underlying22 (hval 1 22 v1 rfl rfl)
  obtain ⟨z1, w1⟩ : ∃ zs, IsRow .u8 W a1 l1 k1 zs := by
    obtain ⟨fuel, hf⟩ := h1
    rcases open_ints Try.underlying22 Try.underlying5 (by kernel_rfl) hf with ⟨hcs, _⟩ | ⟨x, l, c, zs, hcs, _, hl, hm, hz, _, hcell, hwz⟩
    · simp [Value.cells] at hcs
      obtain ⟨rfl, rfl, rfl⟩ := hcs
      exact ⟨[], .inl ⟨rfl, rfl, rfl, rfl⟩⟩
    · simp [Value.cells] at hcs
      obtain ⟨rfl, rfl, rfl⟩ := hcs
      exact ⟨zs, .inr ⟨_, rfl, hl, hm, by simpa using hz, hcell, hwz⟩⟩
  clear hA0 hval0
  refine (walk W a0 l0 k0 z0 w0 a1 l1 k1 z1 w1).mono fun e W' ⟨he, bel⟩ => ?_
  subst he
  exact ⟨_, rfl, _, _, _, [], _, [], hW', trodAll_mk1 (shut_bool Try.underlying4 _), (trodAll_cons_mk (Below.trod laidOut (by kernel_rfl) (of_decide_eq_true (by kernel_rfl)) g0 bel lt0) (trodAll_cons_mk (Below.trod laidOut (by kernel_rfl) (of_decide_eq_true (by kernel_rfl)) g1 bel lt1) trodAll_mk0)), rfl, bel.frame _, fun h => by cases h⟩

theorem proved : Rows.FnTransitSaid :=
  OpenClaim.holds_of_wide 8 Try.f8 rfl rfl rfl rfl rfl rfl rfl ⟨rfl, rfl, rfl, rfl, rfl⟩ rfl rfl rfl rfl rfl (by kernel_rfl) Try.func8 (by kernel_rfl)
    (of_decide_eq_true (by kernel_rfl)) (by unfold Func.isWrapper; first | (rw [if_pos (by decide +kernel)]; kernel_rfl) | (rw [if_neg (by decide +kernel)]; exact ⟨rfl, rfl⟩))
    (fun os started H enc _ => lifted os started H enc)
#print axioms proved
end Go.Proofs.Ytabmbbnfpfkcaaa.fnTransit
