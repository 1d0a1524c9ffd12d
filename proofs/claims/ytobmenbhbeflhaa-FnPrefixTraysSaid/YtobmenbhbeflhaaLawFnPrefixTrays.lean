/-
  For every slice of bytes, laws.FnPrefixTrays returns true.
-/
import Derived.Test.YtobmenbhbeflhaaRows
import Derived.Test.YtobmenbhbeflhaaDrawFp
import Derived.Test.YtobmenbhbeflhaaFillI
import Derived.Test.YtobmenbhbeflhaaPtM
import Derived.Test.YtobmenbhbeflhaaSplit
import Derived.Test.YtobmenbhbeflhaaSorted
import Derived.Test.YtobmenbhbeflhaaTrkA
import Derived.Test.YtobmenbhbeflhaaSoB
import Derived.Test.YtobmenbhbeflhaaTry
import Derived.Test.YtobmenbhbeflhaaMgF4
import Derived.BigQuiet
import Derived.IntWalk
import Derived.WalkKit
import Derived.ProofKit
import Derived.OpenShut
import Derived.ShutString
import Derived.ChangeOld
import Derived.Below
import Derived.Handy
import Derived.Lib.Hide
namespace Go.Proofs.Ytobmenbhbeflhaa.fnPrefixTrays
open Go.ChangeShapes Go.WideShapes Go.ChangeAt Go.RowKit
open Go.ChangeMaps (open_string shut_string)
open Go.PlainAid (bt get_bt bt_nonneg bt_le)
set_option linter.unusedVariables false

theorem own : ownKnob Try.prog.godebug = none := by kernel_rfl
theorem laidOut : laidOutB Try.prog = true := by kernel_rfl

set_option maxHeartbeats 8000000 in
set_option maxRecDepth 100000 in
theorem walk (w : World) (a0 : Option Addr) (l0 k0 : Nat) (z0 : List Int) (w0 : IsRow .u8 w a0 l0 k0 z0) :
    Calls Try.prog 4 #[.slice a0 l0 k0] w fun e w' => e = .returned (.bool true) ∧ Below w.heap.size w w' := by
  by_cases hl : 1048576 < l0
  · go_enter Try.func4, Try.ntmps4
    go_wp2
    go_ret
    exact ⟨rfl, Below.refl _ _⟩
  go_enter Try.func4, Try.ntmps4
  go_wp2_with fail
  refine (DrawFillByPrefix_any a0 l0 k0 z0 w w0).mono ?_
  rintro e u ⟨v, L, Bs, s, d, rfl, rw1, hn, sm, hsb, hdb, bl⟩
  have R0 := Lib.hid rw1
  obtain ⟨a, c, hv, _, lt⟩ := rw1.form
  subst hv
  have LT := Lib.hid lt
  have FI : Hid (Fits L.length (nI L) (nC L)) := fun i hi => by
    have := sm.at i hi
    rw [nI_at hi, nC_at hi]
    exact ⟨by omega, by unfold maxLen; omega⟩
  have BL := Lib.hid bl
  have hn2 : L.length ≤ 1048576 := by omega
  clear lt bl rw1 sm
  have HI := Lib.hid (fun X (h : Lts X a L.length (nI L) (nC L)) => impl_FillByPrefix X a L.length c (nI L) (nC L) h FI.out s d)
  have HS := Lib.hid (fun X (h : Lts X a L.length (nI L) (nC L)) => spec_FillByPrefix X a L.length c (nI L) (nC L) h FI.out hn2 s d)
  have hN60 := fillN_le (n := L.length) (I := nI L) (C := nC L) (s := s) (d := d)
  have hLn := fun i (hi : i < fillN L.length (nI L) (nC L) s d) => fillM_len hi
  have HLW := fun h1 h2 => pt_law (n := L.length) (I := nI L) (C := nC L) (s := s) (d := d) h1 h2
  obtain ⟨ok, hok⟩ : ∃ ok, fillOk L.length (nI L) (nC L) s d = ok := ⟨_, rfl⟩
  obtain ⟨N, hN⟩ : ∃ N, fillN L.length (nI L) (nC L) s d = N := ⟨_, rfl⟩
  obtain ⟨MM, hM⟩ : ∃ MM, fM (nI L) (nC L) s d.toNat L.length = MM := ⟨_, rfl⟩
  rw [hok, hN, hM] at HI HS
  obtain ⟨so, hso⟩ : ∃ so, M.sorted L.length (nI L) (nC L) = so := ⟨_, rfl⟩
  rw [hok, hN, hso] at HLW
  replace hso := Lib.hid hso
  rw [hN] at hN60
  rw [hN, hM] at hLn
  clear hok hN hM
  have hn9 : N ≤ 1048576 := by omega
  have HZL : Hid (∀ i, i < N → (MM i).length ≤ 1048576) := fun i hi => by have := hLn i hi; omega
  clear hLn
  cases ok
  · clear hso
    clear HLW
    go_wp2_with fail
    refine (HI.out _ LT.out).mono ?_
    rintro e v1 ⟨p1, V1, rfl, m1, k1⟩
    replace LT := Lib.hid (LT.out.on k1)
    replace R0 := Lib.hid (R0.out.on k1)
    replace BL := Lib.hid (step BL.out k1)
    have HM1 := Lib.hid m1
    clear m1
    clear k1
    obtain ⟨G1, C1, hp1⟩ : ∃ g c, p1 = .slice g N c := by
      rcases HM1.out.form with ⟨rfl, h⟩ | ⟨g, c, rfl, _⟩
      · exact ⟨_, _, by first | rfl | (rw [h])⟩
      · exact ⟨_, _, rfl⟩
    subst hp1
    go_wp2_with fail
    refine (HS.out _ LT.out).mono ?_
    rintro e v2 ⟨p2, V2, rfl, m2, k2⟩
    replace LT := Lib.hid (LT.out.on k2)
    replace R0 := Lib.hid (R0.out.on k2)
    replace BL := Lib.hid (step BL.out k2)
    replace HM1 := Lib.hid (HM1.out.on k2)
    have HM2 := Lib.hid m2
    clear m2
    clear k2
    go_wp2_with fail
    refine (soBins_mat _ _ _ _ p2 N V1 V2 MM HM1.out HM2.out hn9 HZL.out).mono ?_
    rintro e v3 ⟨rfl, k3⟩
    replace LT := Lib.hid (LT.out.on k3)
    replace R0 := Lib.hid (R0.out.on k3)
    replace BL := Lib.hid (step BL.out k3)
    replace HM1 := Lib.hid (HM1.out.on k3)
    replace HM2 := Lib.hid (HM2.out.on k3)
    clear k3
    go_wp2_with fail
    refine (soBins_mat _ _ _ _ p2 N V1 V2 MM HM1.out HM2.out hn9 HZL.out).mono ?_
    rintro e v4 ⟨rfl, k4⟩
    replace LT := Lib.hid (LT.out.on k4)
    replace R0 := Lib.hid (R0.out.on k4)
    replace BL := Lib.hid (step BL.out k4)
    clear k4
    go_wp2
    go_ret
    exact ⟨rfl, BL.out⟩
  · go_wp2_with fail
    refine (HI.out _ LT.out).mono ?_
    rintro e v1 ⟨p1, V1, rfl, m1, k1⟩
    replace LT := Lib.hid (LT.out.on k1)
    replace R0 := Lib.hid (R0.out.on k1)
    replace BL := Lib.hid (step BL.out k1)
    have HM1 := Lib.hid m1
    clear m1
    clear k1
    obtain ⟨G1, C1, hp1⟩ : ∃ g c, p1 = .slice g N c := by
      rcases HM1.out.form with ⟨rfl, h⟩ | ⟨g, c, rfl, _⟩
      · exact ⟨_, _, by first | rfl | (rw [h])⟩
      · exact ⟨_, _, rfl⟩
    subst hp1
    go_wp2_with fail
    refine (HS.out _ LT.out).mono ?_
    rintro e v2 ⟨p2, V2, rfl, m2, k2⟩
    replace LT := Lib.hid (LT.out.on k2)
    replace R0 := Lib.hid (R0.out.on k2)
    replace BL := Lib.hid (step BL.out k2)
    replace HM1 := Lib.hid (HM1.out.on k2)
    have HM2 := Lib.hid m2
    clear m2
    clear k2
    go_wp2_with fail
    refine (soBins_mat _ _ _ _ p2 N V1 V2 MM HM1.out HM2.out hn9 HZL.out).mono ?_
    rintro e v3 ⟨rfl, k3⟩
    replace LT := Lib.hid (LT.out.on k3)
    replace R0 := Lib.hid (R0.out.on k3)
    replace BL := Lib.hid (step BL.out k3)
    replace HM1 := Lib.hid (HM1.out.on k3)
    replace HM2 := Lib.hid (HM2.out.on k3)
    clear k3
    go_wp2_with fail
    refine (impl_SortedBatch _ _ _ _ _ _ LT.out FI.out).mono ?_
    rw [hso.out]
    rintro e v4 ⟨rfl, k4⟩
    replace LT := Lib.hid (LT.out.on k4)
    replace R0 := Lib.hid (R0.out.on k4)
    replace BL := Lib.hid (step BL.out k4)
    replace HM1 := Lib.hid (HM1.out.on k4)
    replace HM2 := Lib.hid (HM2.out.on k4)
    clear k4
    cases so
    · clear HLW
      go_wp2_with fail
      refine (soBins_mat _ _ _ _ p2 N V1 V2 MM HM1.out HM2.out hn9 HZL.out).mono ?_
      rintro e v5 ⟨rfl, k5⟩
      replace LT := Lib.hid (LT.out.on k5)
      replace R0 := Lib.hid (R0.out.on k5)
      replace BL := Lib.hid (step BL.out k5)
      clear k5
      go_wp2
      go_ret
      exact ⟨rfl, BL.out⟩
    obtain ⟨hs, hd, hn60, hsz, hT, hTn⟩ := HLW (by trivial) (by trivial)
    clear HLW hso
    obtain ⟨dn, rfl⟩ := Int.eq_ofNat_of_zero_le hd.1
    rw [Int.toNat_natCast] at hT hTn
    have hd7 : dn ≤ 7 := by omega
    have HSZ := Lib.hid hsz
    have HT := Lib.hid hT
    have HTN := Lib.hid hTn
    clear hsz hT hTn hd hdb HM1 HM2 HI HS HZL
    go_wp2
    go_loopw [10, 11, 12] (fun q x i wr => ∃ (k : Nat) (X : ByteArray), k ≤ L.length ∧ i = .int .i64 k ∧ q = .int .i64 (ptT (nI L) (nC L) s dn L.length k) ∧ x = .string X ∧ Hid (k = 0 ∨ X = pre (nC L) dn (k - 1)) ∧ Hid (Below v4.heap.size v4 wr)) (fun _ _ i _ => L.length - (intOf i).toNat)
    case atStart => exact ⟨0, _, Nat.zero_le _, rfl, rfl, rfl, Or.inl rfl, Below.refl _ _⟩
    case round =>
      obtain ⟨k, X, hk, rfl, rfl, rfl, hX, hbl⟩ := hrel
      by_cases hlt : k < L.length
      · have hki : (k : Int) < (L.length : Int) := by omega
        have hk0 : (0 : Int) ≤ (k : Int) := by omega
        have LTk := Lib.hid (LT.out.on hbl.out)
        have z1 := HSZ.out k hlt
        have t1 := HT.out k (by omega)
        have t2 := HT.out (k + 1) (by omega)
        obtain ⟨b, o, e1, _, p1⟩ := LTk.out k hlt
        subst e1
        have HN : Hid (isNew (nC L) dn k = true → ptT (nI L) (nC L) s dn L.length (k + 1) = ptT (nI L) (nC L) s dn L.length k + MW.leastTrays (M.countP L.length (nI L) (nC L) ((nC L k).extract 0 dn)) s) := fun h => pt_new h
        have HO : Hid (isNew (nC L) dn k = false → ptT (nI L) (nC L) s dn L.length (k + 1) = ptT (nI L) (nC L) s dn L.length k) := fun h => pt_old h
        have HNW : Hid (isNew (nC L) dn k = (decide (k = 0) || decide ((nC L k).extract 0 dn ≠ X))) := by
          by_cases h0 : k = 0
          · subst h0; rfl
          · show isNew (nC L) dn k = _
            rw [(hX.out).resolve_left h0]
            rfl
        have HX2 : Hid (∀ Y : ByteArray, Y = (nC L k).extract 0 dn → k + 1 = 0 ∨ Y = pre (nC L) dn (k + 1 - 1)) := fun Y h => Or.inr h
        obtain ⟨Ci, hCi⟩ : ∃ Ci, nC L k = Ci := ⟨_, rfl⟩
        rw [hCi] at z1 p1 HN HNW HX2
        obtain ⟨T0, hT0⟩ : ∃ T0, ptT (nI L) (nC L) s dn L.length k = T0 := ⟨_, rfl⟩
        obtain ⟨T1, hT1⟩ : ∃ T1, ptT (nI L) (nC L) s dn L.length (k + 1) = T1 := ⟨_, rfl⟩
        rw [hT0] at t1 HN HO ⊢
        rw [hT1] at t2 HN HO
        have hdz1 : (dn : Int) ≤ (Ci.size : Int) := by omega
        have hdn1 : dn ≤ Ci.size := by omega
        have hd0 : (0 : Int) ≤ (dn : Int) := by omega
        have hP : (Ci.extract 0 dn).size ≤ maxLen := by unfold maxLen; simp; omega
        replace hT1 := Lib.hid hT1
        clear hCi hT0 hX
        by_cases h0 : k = 0
        · have e3 : isNew (nC L) dn k = true := by rw [HNW.out, decide_eq_true h0]; rfl
          have hT2 := HN.out e3
          clear HN HO HNW e3
          subst h0
          rw [Nat.zero_mul, Nat.add_zero] at p1
          obtain ⟨f, hf⟩ : ∃ f, M.countP L.length (nI L) (nC L) (Ci.extract 0 dn) = f := ⟨_, rfl⟩
          rw [hf] at hT2
          obtain ⟨g, hg⟩ : ∃ g, MW.leastTrays f s = g := ⟨_, rfl⟩
          rw [hg] at hT2
          have hw : IntKind.i64.wrap (T0 + g) = T1 := (IntWalk.i64_in _ (by omega)).trans hT2.symm
          have HF := Lib.hid hf
          have HG := Lib.hid hg
          clear hf hg hT2
          go_wp2_with fail
          refine (impl_CountPrefix _ _ _ _ _ _ _ LTk.out FI.out hP).mono ?_
          rw [HF.out]
          rintro e v8 ⟨rfl, k8⟩
          go_wp2_with fail
          refine (impl_LeastTrays _ _ _).mono ?_
          rw [HG.out]
          rintro e v9 ⟨rfl, rfl⟩
          have hb9 : Hid (Below v4.heap.size v4 v8) := step hbl.out k8
          clear k8 LTk
          go_wp2
          go_roundw
          case rel => exact ⟨0 + 1, _, by omega, by go_num, by rw [hT1.out], rfl, HX2.out _ rfl, hb9⟩
          case measure => simp [intOf]; omega
        · have h01 : ¬ (k : Int) = 0 := by omega
          by_cases hh : Ci.extract 0 dn = X
          · have e3 : isNew (nC L) dn k = false := by rw [HNW.out, decide_eq_false h0, decide_eq_false (fun h => h hh)]; rfl
            have hT2 := HO.out e3
            clear HN HO HNW e3
            have q1 : ((Ci.extract 0 dn).toList == X.toList) = true := by rw [hh]; simp
            have q2 : ((Ci.extract 0 dn).toList != X.toList) = false := by rw [hh]; simp
            clear hh
            go_wp2
            go_roundw
            case rel => exact ⟨k + 1, _, by omega, by go_num, by rw [hT1.out, hT2], rfl, HX2.out _ rfl, hbl⟩
            case measure => simp [intOf]; omega
          · have e3 : isNew (nC L) dn k = true := by rw [HNW.out, decide_eq_false h0, decide_eq_true hh]; rfl
            have hT2 := HN.out e3
            clear HN HO HNW e3
            have q1 : ((Ci.extract 0 dn).toList == X.toList) = false := by rw [M.list_eq]; exact decide_eq_false hh
            have q2 : ((Ci.extract 0 dn).toList != X.toList) = true := by unfold bne; rw [q1]; rfl
            clear hh
            obtain ⟨f, hf⟩ : ∃ f, M.countP L.length (nI L) (nC L) (Ci.extract 0 dn) = f := ⟨_, rfl⟩
            rw [hf] at hT2
            obtain ⟨g, hg⟩ : ∃ g, MW.leastTrays f s = g := ⟨_, rfl⟩
            rw [hg] at hT2
            have hw : IntKind.i64.wrap (T0 + g) = T1 := (IntWalk.i64_in _ (by omega)).trans hT2.symm
            have HF := Lib.hid hf
            have HG := Lib.hid hg
            clear hf hg hT2
            go_wp2_with fail
            refine (impl_CountPrefix _ _ _ _ _ _ _ LTk.out FI.out hP).mono ?_
            rw [HF.out]
            rintro e v8 ⟨rfl, k8⟩
            go_wp2_with fail
            refine (impl_LeastTrays _ _ _).mono ?_
            rw [HG.out]
            rintro e v9 ⟨rfl, rfl⟩
            have hb9 : Hid (Below v4.heap.size v4 v8) := step hbl.out k8
            clear k8 LTk
            go_wp2
            go_roundw
            case rel => exact ⟨k + 1, _, by omega, by go_num, by rw [hT1.out], rfl, HX2.out _ rfl, hb9⟩
            case measure => simp [intOf]; omega
      · obtain rfl : k = L.length := by omega
        rw [HTN.out]
        go_wp2
        go_ret
        exact ⟨rfl, step BL.out hbl.out⟩

set_option maxRecDepth 100000 in
theorem lifted (os : Os) (started : os.Started) (H : Type) (enc : TypeId × Value → H) :
    ReturnsInHanded {} Try.checked os 4 .any (Rows.fnPrefixTraysSpec.pre6 enc Try.prog Try.f4 Rows.fnPrefixTraysRow.domain false) (Rows.fnPrefixTraysSpec.post enc Try.prog Try.f4 false true false false) := by
  refine returnsInHanded_of_change (C := Try.checked) own started (by kernel_rfl) Try.func4
    (ChangeSpec.witness6 (enc := enc) (C := Try.checked) false ⟨#[], #[.slice none 0 0], []⟩ 8 (by kernel_rfl) (by kernel_rfl) (by kernel_rfl) (by kernel_rfl)) ?_
  intro W base args ds gs before hval0 hW hcnd _
  have hval : ∀ (j : Nat) t v, Try.f4.params[j]? = some t → args[j]? = some v → Value.okWide Try.prog W .any base t v := hval0
  have hW' := hW
  obtain ⟨p, q, hA0, hV, rfl, hfz, hnd⟩ := hW
  have hA : DataW.TrodAll enc Try.prog W 0 (fun _ => true) true Try.f4.params.toList args.toList ds p := hA0
  rw [Try.params4] at hA hval
  obtain ⟨v0, vs0, d0, ds0, p0, q0, hargs, rfl, rfl, h0, r0⟩ := trodAll_cons hA
  obtain ⟨rfl, rfl, rfl⟩ := trodAll_nil r0
  obtain rfl : args = #[v0] := by cases args; simp_all
  obtain ⟨rfl, rfl⟩ := trodVars_none hV
  have g0 := h0
  have lt0 : ∀ x ∈ p0, x.block < W.heap.size := by obtain ⟨m, hm⟩ := g0; exact DataW.trod_lt m _ _ _ hm
  obtain ⟨a0, l0, k0, rfl⟩ := okWide_slice Try.underlying22 (hval 0 22 v0 rfl rfl)
  obtain ⟨z0, w0⟩ : ∃ zs, IsRow .u8 W a0 l0 k0 zs := by
    obtain ⟨fuel, hf⟩ := h0
    rcases open_ints Try.underlying22 Try.underlying5 (by kernel_rfl) hf with ⟨hcs, _⟩ | ⟨x, l, c, zs, hcs, _, hl, hm, hz, _, hcell, hwz⟩
    · simp [Value.cells] at hcs
      obtain ⟨rfl, rfl, rfl⟩ := hcs
      exact ⟨[], .inl ⟨rfl, rfl, rfl, rfl⟩⟩
    · simp [Value.cells] at hcs
      obtain ⟨rfl, rfl, rfl⟩ := hcs
      exact ⟨zs, .inr ⟨_, rfl, hl, hm, by simpa using hz, hcell, hwz⟩⟩
  clear hA0 hval0
  refine (walk W a0 l0 k0 z0 w0).mono fun e W' ⟨he, bel⟩ => ?_
  subst he
  exact ⟨_, rfl, _, _, _, [], _, [], hW', trodAll_mk1 (shut_bool Try.underlying4 _), (trodAll_cons_mk (Below.trod laidOut (by kernel_rfl) (of_decide_eq_true (by kernel_rfl)) g0 bel lt0) trodAll_mk0), rfl, bel.frame _, fun h => by cases h⟩

theorem proved : Rows.FnPrefixTraysSaid :=
  OpenClaim.holds_of_wide 4 Try.f4 rfl rfl rfl rfl rfl rfl rfl ⟨rfl, rfl, rfl, rfl, rfl⟩ rfl rfl rfl rfl rfl (by kernel_rfl) Try.func4 (by kernel_rfl)
    (of_decide_eq_true (by kernel_rfl)) (by unfold Func.isWrapper; first | (rw [if_pos (by decide +kernel)]; kernel_rfl) | (rw [if_neg (by decide +kernel)]; exact ⟨rfl, rfl⟩))
    (fun os started H enc _ => lifted os started H enc)
#print axioms proved
end Go.Proofs.Ytobmenbhbeflhaa.fnPrefixTrays
