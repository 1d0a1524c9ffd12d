/-
  For every slice of bytes, laws.FnFillByPrefix returns true.
-/
import Derived.Test.YtobmenbhbeflhaaRows
import Derived.Test.YtobmenbhbeflhaaDrawFp
import Derived.Test.YtobmenbhbeflhaaFillI
import Derived.Test.YtobmenbhbeflhaaFpM
import Derived.Test.YtobmenbhbeflhaaConcatR
import Derived.Test.YtobmenbhbeflhaaSoB
import Derived.Test.YtobmenbhbeflhaaTry
import Derived.Test.YtobmenbhbeflhaaSo
import Derived.BigQuiet
import Derived.IntWalk
import Derived.WalkKit
import Derived.ProofKit
import Derived.OpenShut
import Derived.ShutString
import Derived.ChangeOld
import Derived.Below
import Derived.Handy
import Derived.Lib.Hide
namespace Go.Proofs.Ytobmenbhbeflhaa.fnFillByPrefix
open Go.ChangeShapes Go.WideShapes Go.ChangeAt Go.RowKit
open Go.ChangeMaps (open_string shut_string)
open Go.PlainAid (bt get_bt bt_nonneg bt_le)
set_option linter.unusedVariables false

theorem own : ownKnob Try.prog.godebug = none := by kernel_rfl
theorem laidOut : laidOutB Try.prog = true := by kernel_rfl

set_option maxHeartbeats 8000000 in
set_option maxRecDepth 100000 in
theorem walk (w : World) (a0 : Option Addr) (l0 k0 : Nat) (z0 : List Int) (w0 : IsRow .u8 w a0 l0 k0 z0) :
    Calls Try.prog 3 #[.slice a0 l0 k0] w fun e w' => e = .returned (.bool true) ∧ Below w.heap.size w w' := by
  by_cases hl : 1048576 < l0
  · go_enter Try.func3, Try.ntmps3
    go_wp2
    go_ret
    exact ⟨rfl, Below.refl _ _⟩
  go_enter Try.func3, Try.ntmps3
  go_wp2_with fail
  refine (DrawFillByPrefix_any a0 l0 k0 z0 w w0).mono ?_
  rintro e u ⟨v, L, Bs, s, d, rfl, rw1, hn, sm, hsb, hdb, bl⟩
  have R0 := Lib.hid rw1
  obtain ⟨a, c, hv, _, lt⟩ := rw1.form
  subst hv
  have LT := Lib.hid lt
  have FI : Hid (Fits L.length (nI L) (nC L)) := fun i hi => by
    have := sm.at i hi
    rw [nI_at hi, nC_at hi]
    exact ⟨by omega, by unfold maxLen; omega⟩
  have BL := Lib.hid bl
  have hn2 : L.length ≤ 1048576 := by omega
  clear lt bl rw1 sm
  have HI := Lib.hid (fun X (h : Lts X a L.length (nI L) (nC L)) => impl_FillByPrefix X a L.length c (nI L) (nC L) h FI.out s d)
  have HS := Lib.hid (fun X (h : Lts X a L.length (nI L) (nC L)) => spec_FillByPrefix X a L.length c (nI L) (nC L) h FI.out hn2 s d)
  have hN60 := fillN_le (n := L.length) (I := nI L) (C := nC L) (s := s) (d := d)
  have hLn := fun i (hi : i < fillN L.length (nI L) (nC L) s d) => fillM_len hi
  have HLW := fun h => fp_law (n := L.length) (I := nI L) (C := nC L) (s := s) (d := d) FI.out h
  obtain ⟨ok, hok⟩ : ∃ ok, fillOk L.length (nI L) (nC L) s d = ok := ⟨_, rfl⟩
  obtain ⟨N, hN⟩ : ∃ N, fillN L.length (nI L) (nC L) s d = N := ⟨_, rfl⟩
  obtain ⟨MM, hM⟩ : ∃ MM, fM (nI L) (nC L) s d.toNat L.length = MM := ⟨_, rfl⟩
  rw [hok, hN, hM] at HI HS
  rw [hok, hN, hM] at HLW
  rw [hN] at hN60
  rw [hN, hM] at hLn
  clear hok hN hM
  have hn9 : N ≤ 1048576 := by omega
  have HZL : Hid (∀ i, i < N → (MM i).length ≤ 1048576) := fun i hi => by have := hLn i hi; omega
  clear hLn
  cases ok
  · clear HLW
    go_wp2_with fail
    refine (HI.out _ LT.out).mono ?_
    rintro e v1 ⟨p1, V1, rfl, m1, k1⟩
    replace LT := Lib.hid (LT.out.on k1)
    replace R0 := Lib.hid (R0.out.on k1)
    replace BL := Lib.hid (step BL.out k1)
    have HM1 := Lib.hid m1
    clear m1
    clear k1
    obtain ⟨G1, C1, hp1⟩ : ∃ g c, p1 = .slice g N c := by
      rcases HM1.out.form with ⟨rfl, h⟩ | ⟨g, c, rfl, _⟩
      · exact ⟨_, _, by first | rfl | (rw [h])⟩
      · exact ⟨_, _, rfl⟩
    subst hp1
    go_wp2_with fail
    refine (HS.out _ LT.out).mono ?_
    rintro e v2 ⟨p2, V2, rfl, m2, k2⟩
    replace LT := Lib.hid (LT.out.on k2)
    replace R0 := Lib.hid (R0.out.on k2)
    replace BL := Lib.hid (step BL.out k2)
    replace HM1 := Lib.hid (HM1.out.on k2)
    have HM2 := Lib.hid m2
    clear m2
    clear k2
    go_wp2_with fail
    refine (soBins_mat _ _ _ _ p2 N V1 V2 MM HM1.out HM2.out hn9 HZL.out).mono ?_
    rintro e v3 ⟨rfl, k3⟩
    replace LT := Lib.hid (LT.out.on k3)
    replace R0 := Lib.hid (R0.out.on k3)
    replace BL := Lib.hid (step BL.out k3)
    replace HM1 := Lib.hid (HM1.out.on k3)
    replace HM2 := Lib.hid (HM2.out.on k3)
    clear k3
    go_wp2_with fail
    refine (soBins_mat _ _ _ _ p2 N V1 V2 MM HM1.out HM2.out hn9 HZL.out).mono ?_
    rintro e v4 ⟨rfl, k4⟩
    replace LT := Lib.hid (LT.out.on k4)
    replace R0 := Lib.hid (R0.out.on k4)
    replace BL := Lib.hid (step BL.out k4)
    clear k4
    go_wp2
    go_ret
    exact ⟨rfl, BL.out⟩
  · obtain ⟨hs, hd, hn60, hrow, hnext, hfl, htv, hsz⟩ := HLW rfl
    clear HLW
    rw [lst_nI] at hfl
    have HRW := Lib.hid hrow
    have HNX := Lib.hid hnext
    have HFL := Lib.hid hfl
    have HTV := Lib.hid htv
    have HSZ := Lib.hid hsz
    obtain ⟨dn, rfl⟩ := Int.eq_ofNat_of_zero_le hd.1
    rw [Int.toNat_natCast] at HRW HNX
    have hd7 : dn ≤ 7 := by omega
    clear hrow hnext hfl htv hsz hd hdb
    go_wp2_with fail
    refine (HI.out _ LT.out).mono ?_
    rintro e v1 ⟨p1, V1, rfl, m1, k1⟩
    replace LT := Lib.hid (LT.out.on k1)
    replace R0 := Lib.hid (R0.out.on k1)
    replace BL := Lib.hid (step BL.out k1)
    have HM1 := Lib.hid m1
    clear m1
    clear k1
    obtain ⟨G1, C1, hp1⟩ : ∃ g c, p1 = .slice g N c := by
      rcases HM1.out.form with ⟨rfl, h⟩ | ⟨g, c, rfl, _⟩
      · exact ⟨_, _, by first | rfl | (rw [h])⟩
      · exact ⟨_, _, rfl⟩
    subst hp1
    go_wp2_with fail
    refine (HS.out _ LT.out).mono ?_
    rintro e v2 ⟨p2, V2, rfl, m2, k2⟩
    replace LT := Lib.hid (LT.out.on k2)
    replace R0 := Lib.hid (R0.out.on k2)
    replace BL := Lib.hid (step BL.out k2)
    replace HM1 := Lib.hid (HM1.out.on k2)
    have HM2 := Lib.hid m2
    clear m2
    clear k2
    go_wp2_with fail
    refine (soBins_mat _ _ _ _ p2 N V1 V2 MM HM1.out HM2.out hn9 HZL.out).mono ?_
    rintro e v3 ⟨rfl, k3⟩
    replace LT := Lib.hid (LT.out.on k3)
    replace R0 := Lib.hid (R0.out.on k3)
    replace BL := Lib.hid (step BL.out k3)
    replace HM1 := Lib.hid (HM1.out.on k3)
    replace HM2 := Lib.hid (HM2.out.on k3)
    clear k3
    clear HM2 HI HS
    go_wp2
    go_loopw [10] (fun i wr => ∃ (j : Nat), j ≤ N ∧ i = .int .i64 j ∧ Hid (Below v3.heap.size v3 wr)) (fun i _ => N - (intOf i).toNat)
    case atStart => exact ⟨0, Nat.zero_le _, rfl, Below.refl _ _⟩
    case round =>
      obtain ⟨j, hj, rfl, hbl⟩ := hrel
      by_cases hlt : j < N
      · have hji : (j : Int) < (N : Int) := by omega
        have hj0 : (0 : Int) ≤ (j : Int) := by omega
        have HMr := Lib.hid (HM1.out.on hbl.out)
        obtain ⟨m1, m20, hk⟩ := HRW.out j hlt
        obtain ⟨g, aj, dj, e1, c0, hlts⟩ := mat_at HMr.out hlt
        have HLT := Lib.hid hlts
        have HK := Lib.hid hk
        have z0 := (hk 0 (by omega)).1
        obtain ⟨b, o, e2, _, p1⟩ := hlts 0 (by omega)
        subst e2
        rw [Nat.zero_mul, Nat.add_zero] at p1
        have HPV : Hid (j = 0 ∨ ∃ i : Nat, i + 1 = j ∧ ∃ ai di bi oi, wr.cell? ⟨g, i, none⟩ = some (.slice ai (MM i).length di) ∧ ai = some ⟨bi, oi, none⟩ ∧ wr.cell? ⟨bi, oi + 1, none⟩ = some (.string (nC (MM i) 0)) ∧ (nC (MM i) 0).size = 7 ∧ 1 ≤ (MM i).length ∧ (MM i).length ≤ 20 ∧ (((MM i).length : Int) = s ∨ (nC (MM j) 0).extract 0 dn ≠ (nC (MM i) 0).extract 0 dn)) := by
          by_cases h0 : j = 0
          · exact Or.inl h0
          · refine Or.inr ⟨j - 1, by omega, ?_⟩
            obtain ⟨g', ai, di, e3, c1, hl1⟩ := mat_at HMr.out (show j - 1 < N by omega)
            rw [e1] at e3
            injection e3 with e3
            injection e3 with e3
            subst e3
            obtain ⟨q1, q20, hk1⟩ := HRW.out (j - 1) (by omega)
            obtain ⟨bi, oi, e4, _, p2⟩ := hl1 0 (by omega)
            rw [Nat.zero_mul, Nat.add_zero] at p2
            have hx := HNX.out (j - 1) (by omega)
            rw [show j - 1 + 1 = j by omega] at hx
            exact ⟨ai, di, bi, oi, c1, e4, p2, (hk1 0 (by omega)).1, q1, q20, hx⟩
        subst e1
        obtain ⟨m, hm⟩ : ∃ m, (MM j).length = m := ⟨_, rfl⟩
        rw [hm] at m1 m20 c0 HLT HK
        obtain ⟨C0, hC0⟩ : ∃ C0, nC (MM j) 0 = C0 := ⟨_, rfl⟩
        rw [hC0] at p1 z0 HK HPV
        have hm0 : (0 : Int) < (m : Int) := by omega
        have hdz : (dn : Int) ≤ (C0.size : Int) := by omega
        have hdn : dn ≤ C0.size := by omega
        have hd0 : (0 : Int) ≤ (dn : Int) := by omega
        clear hlts hk hm hC0 HMr
        go_wp2
        go_loop [12] (fun k => ∃ i : Nat, i ≤ m ∧ k = .int .i64 i) (fun k => m - (intOf k).toNat)
        case atStart => exact ⟨0, Nat.zero_le _, rfl⟩
        case round =>
          obtain ⟨i, hi, rfl⟩ := hrel
          by_cases hlt2 : i < m
          · have hii : (i : Int) < (m : Int) := by omega
            have hi0 : (0 : Int) ≤ (i : Int) := by omega
            obtain ⟨z1, hb1⟩ := HK.out i hlt2
            obtain ⟨_, _, e5, _, p3⟩ := HLT.out i hlt2
            injection e5 with e5
            injection e5 with e5 e6
            subst e5 e6
            unfold bgn at hb1
            obtain ⟨Ci, hCi⟩ : ∃ Ci, nC (MM j) i = Ci := ⟨_, rfl⟩
            rw [hCi] at z1 hb1 p3
            have hdz1 : (dn : Int) ≤ (Ci.size : Int) := by omega
            have hdn1 : dn ≤ Ci.size := by omega
            have q1 : ((Ci.extract 0 dn).toList == (C0.extract 0 dn).toList) = true := by rw [hb1]; simp
            have q2 : ((Ci.extract 0 dn).toList != (C0.extract 0 dn).toList) = false := by rw [hb1]; simp
            clear hCi hb1
            go_wp2
            go_round
            case rel => exact ⟨i + 1, by omega, by go_num⟩
            case measure => simp [intOf]; omega
          · obtain rfl : i = m := by omega
            rcases HPV.out with h0 | ⟨i', hi', ai, di, bi, oi, c1, e7, p2, z2, q1, q20, hx⟩
            · have h01 : ¬ (0 : Int) < (j : Int) := by omega
              have h02 : ¬ 0 < j := by omega
              clear h0
              go_wp2
              go_roundw
              case rel => exact ⟨j + 1, by omega, by go_num, hbl⟩
              case measure => simp [intOf]; omega
            · subst e7
              have h01 : (0 : Int) < (j : Int) := by omega
              have h02 : 0 < j := by omega
              have hjw : IntKind.i64.wrap ((j : Int) - 1) = (i' : Int) := (IntWalk.i64_in _ (by omega)).trans (by omega)
              have hi1 : (i' : Int) < (N : Int) := by omega
              have hi2 : (0 : Int) ≤ (i' : Int) := by omega
              obtain ⟨mi, hmi⟩ : ∃ mi, (MM i').length = mi := ⟨_, rfl⟩
              obtain ⟨Ci, hCi⟩ : ∃ Ci, nC (MM i') 0 = Ci := ⟨_, rfl⟩
              rw [hmi] at c1 q1 q20 hx
              rw [hCi] at p2 z2 hx
              have hmi0 : (0 : Int) < (mi : Int) := by omega
              have hdz1 : (dn : Int) ≤ (Ci.size : Int) := by omega
              have hdn1 : dn ≤ Ci.size := by omega
              clear hmi hCi hi'
              by_cases hfull : (mi : Int) < s
              · have hne : C0.extract 0 dn ≠ Ci.extract 0 dn := by
                  rcases hx with h | h
                  · omega
                  · exact h
                have q3 : ((Ci.extract 0 dn).toList == (C0.extract 0 dn).toList) = false := by
                  rw [beq_eq_false_iff_ne]
                  intro e
                  rw [ByteArray.toList_eq, ByteArray.toList_eq] at e
                  exact hne (ByteArray.ext (Array.toList_inj.1 e.symm))
                clear hx hne
                go_wp2
                go_roundw
                case rel => exact ⟨j + 1, by omega, by go_num, hbl⟩
                case measure => simp [intOf]; omega
              · clear hx
                go_wp2
                go_roundw
                case rel => exact ⟨j + 1, by omega, by go_num, hbl⟩
                case measure => simp [intOf]; omega
      · obtain rfl : j = N := by omega
        replace HM1 := Lib.hid (HM1.out.on hbl.out)
        replace R0 := Lib.hid (R0.out.on hbl.out)
        replace LT := Lib.hid (LT.out.on hbl.out)
        replace BL := Lib.hid (step BL.out hbl.out)
        clear hbl
        have CT := Lib.hid (soTrays_r _ _ _ j V1 MM HM1.out.r HSZ.out.1 HSZ.out.2.1)
        rw [HFL.out] at CT
        go_wp2_with fail
        refine (CT.out).mono ?_
        rintro e v5 ⟨p5, rfl, r5, k5⟩
        replace LT := Lib.hid (LT.out.on k5)
        replace R0 := Lib.hid (R0.out.on k5)
        replace BL := Lib.hid (step BL.out k5)
        replace HM1 := Lib.hid (HM1.out.on k5)
        have R5 := Lib.hid r5
        clear r5
        clear k5
        go_wp2_with fail
        refine (soBatch_row _ _ _ _ _ _ R5.out R0.out hn2).mono ?_
        rintro e v6 ⟨rfl, k6⟩
        replace LT := Lib.hid (LT.out.on k6)
        replace R0 := Lib.hid (R0.out.on k6)
        replace BL := Lib.hid (step BL.out k6)
        replace HM1 := Lib.hid (HM1.out.on k6)
        clear k6
        go_wp2_with fail
        refine (impl_TraysValid _ _ _ j V1 MM HM1.out HSZ.out s).mono ?_
        rw [HTV.out]
        rintro e v7 ⟨rfl, k7⟩
        replace LT := Lib.hid (LT.out.on k7)
        replace R0 := Lib.hid (R0.out.on k7)
        replace BL := Lib.hid (step BL.out k7)
        clear k7
        go_wp2
        go_ret
        exact ⟨rfl, BL.out⟩

set_option maxRecDepth 100000 in
theorem lifted (os : Os) (started : os.Started) (H : Type) (enc : TypeId × Value → H) :
    ReturnsInHanded {} Try.checked os 3 .any (Rows.fnFillByPrefixSpec.pre6 enc Try.prog Try.f3 Rows.fnFillByPrefixRow.domain false) (Rows.fnFillByPrefixSpec.post enc Try.prog Try.f3 false true false false) := by
  refine returnsInHanded_of_change (C := Try.checked) own started (by kernel_rfl) Try.func3
    (ChangeSpec.witness6 (enc := enc) (C := Try.checked) false ⟨#[], #[.slice none 0 0], []⟩ 8 (by kernel_rfl) (by kernel_rfl) (by kernel_rfl) (by kernel_rfl)) ?_
  intro W base args ds gs before hval0 hW hcnd _
  have hval : ∀ (j : Nat) t v, Try.f3.params[j]? = some t → args[j]? = some v → Value.okWide Try.prog W .any base t v := hval0
  have hW' := hW
  obtain ⟨p, q, hA0, hV, rfl, hfz, hnd⟩ := hW
  have hA : DataW.TrodAll enc Try.prog W 0 (fun _ => true) true Try.f3.params.toList args.toList ds p := hA0
  rw [Try.params3] at hA hval
  obtain ⟨v0, vs0, d0, ds0, p0, q0, hargs, rfl, rfl, h0, r0⟩ := trodAll_cons hA
  obtain ⟨rfl, rfl, rfl⟩ := trodAll_nil r0
  obtain rfl : args = #[v0] := by cases args; simp_all
  obtain ⟨rfl, rfl⟩ := trodVars_none hV
  have g0 := h0
  have lt0 : ∀ x ∈ p0, x.block < W.heap.size := by obtain ⟨m, hm⟩ := g0; exact DataW.trod_lt m _ _ _ hm
  obtain ⟨a0, l0, k0, rfl⟩ := okWide_slice Try.underlying22 (hval 0 22 v0 rfl rfl)
  obtain ⟨z0, w0⟩ : ∃ zs, IsRow .u8 W a0 l0 k0 zs := by
    obtain ⟨fuel, hf⟩ := h0
    rcases open_ints Try.underlying22 Try.underlying5 (by kernel_rfl) hf with ⟨hcs, _⟩ | ⟨x, l, c, zs, hcs, _, hl, hm, hz, _, hcell, hwz⟩
    · simp [Value.cells] at hcs
      obtain ⟨rfl, rfl, rfl⟩ := hcs
      exact ⟨[], .inl ⟨rfl, rfl, rfl, rfl⟩⟩
    · simp [Value.cells] at hcs
      obtain ⟨rfl, rfl, rfl⟩ := hcs
      exact ⟨zs, .inr ⟨_, rfl, hl, hm, by simpa using hz, hcell, hwz⟩⟩
  clear hA0 hval0
  refine (walk W a0 l0 k0 z0 w0).mono fun e W' ⟨he, bel⟩ => ?_
  subst he
  exact ⟨_, rfl, _, _, _, [], _, [], hW', trodAll_mk1 (shut_bool Try.underlying4 _), (trodAll_cons_mk (Below.trod laidOut (by kernel_rfl) (of_decide_eq_true (by kernel_rfl)) g0 bel lt0) trodAll_mk0), rfl, bel.frame _, fun h => by cases h⟩

theorem proved : Rows.FnFillByPrefixSaid :=
  OpenClaim.holds_of_wide 3 Try.f3 rfl rfl rfl rfl rfl rfl rfl ⟨rfl, rfl, rfl, rfl, rfl⟩ rfl rfl rfl rfl rfl (by kernel_rfl) Try.func3 (by kernel_rfl)
    (of_decide_eq_true (by kernel_rfl)) (by unfold Func.isWrapper; first | (rw [if_pos (by decide +kernel)]; kernel_rfl) | (rw [if_neg (by decide +kernel)]; exact ⟨rfl, rfl⟩))
    (fun os started H enc _ => lifted os started H enc)
#print axioms proved
end Go.Proofs.Ytobmenbhbeflhaa.fnFillByPrefix
