/-
  For every two slices of bytes, laws.FnRunAny returns true.
-/
import Derived.Test.YtekfjheaffkakaaRows
import Derived.Test.YtekfjheaffkakaaDrawX
import Derived.Test.YtekfjheaffkakaaMgR18
import Derived.Test.YtekfjheaffkakaaMgR5
import Derived.Test.YtekfjheaffkakaaMgR12
import Derived.Deep.RegionHeld3
import Derived.BigQuiet
import Derived.WalkKit
import Derived.ProofKit
import Derived.OpenShut
import Derived.ShutString
import Derived.ChangeOld
import Derived.Below
import Derived.Handy
import Derived.Lib.Hide
namespace Go.Proofs.Ytekfjheaffkakaa.fnRunAny
open Go.ChangeShapes Go.WideShapes Go.ChangeAt Go.RowKit
open Go.ChangeMaps (open_string shut_string)
open Go.PlainAid (bt get_bt bt_nonneg bt_le)
set_option linter.unusedVariables false

theorem own : ownKnob Try.prog.godebug = none := by kernel_rfl
theorem laidOut : laidOutB Try.prog = true := by kernel_rfl

set_option maxHeartbeats 8000000 in
set_option maxRecDepth 100000 in
theorem walk (w : World) (a0 : Option Addr) (l0 k0 : Nat) (z0 : List Int) (w0 : IsRow .u8 w a0 l0 k0 z0) (a1 : Option Addr) (l1 k1 : Nat) (z1 : List Int) (w1 : IsRow .u8 w a1 l1 k1 z1) :
    Calls Try.prog 3 #[.slice a0 l0 k0, .slice a1 l1 k1] w fun e w' => e = .returned (.bool true) ∧ Below w.heap.size w w' := by
  by_cases hl : 1048576 < l0
  · go_enter Try.func3, Try.ntmps3
    go_wp2
    go_ret
    exact ⟨rfl, Below.refl _ _⟩
  by_cases hl' : 1048576 < l1
  · go_enter Try.func3, Try.ntmps3
    go_wp2
    go_ret
    exact ⟨rfl, Below.refl _ _⟩
  go_enter Try.func3, Try.ntmps3
  go_wp2_with fail
  refine (DrawRunPlan_any a0 l0 k0 z0 w w0).mono ?_
  rintro e u ⟨b, p, a, n, c, S, a2, m, c2, I, C, rfl, hpl, bl, hcp⟩
  clear hcp
  obtain ⟨L, hmL, hpl2⟩ := hpl.list
  subst hmL
  clear hpl
  have hpl := hpl2
  clear hpl2
  have ba := below_alloc0 u (.cells #[.int .i64 b, .int .i64 p, .slice a n c] 25)
  have PL := Lib.hid (hpl.on ba)
  have X := Lib.hid (tri_made u (.int .i64 b) (.int .i64 p) (.slice a n c) 25)
  have BL := Lib.hid (step bl ba)
  obtain ⟨v0, hv0⟩ : ∃ v0, u.alloc (.cells #[.int .i64 b, .int .i64 p, .slice a n c] 25) = v0 := ⟨_, rfl⟩
  rw [hv0] at PL X BL
  have HV0 := Lib.hid hv0
  have hn := PL.out.pn
  have hm := PL.out.ln
  have hn2 : n ≤ 1048576 := by omega
  have hm2 : L.length ≤ 1048576 := by omega
  clear hpl bl ba hv0
  cases hok : runOk b p n S L.length (nI L) (nC L)
  · have HOK := Lib.hid hok
    have hl1 : runList b p n S L.length (nI L) (nC L) = [] := by unfold runList; rw [hok, if_neg (by decide)]
    have HL1 := Lib.hid hl1
    have hq1 : ([] : List (Int × ByteArray)).length ≤ 1048576 := by simp
    clear hok hl1
    obtain ⟨⟨d0, d1, d2⟩, g0, g1, g2⟩ := X.out
    have lx := X.out.lt
    go_wp2_with fail
    rw [HV0.out]
    refine (impl_RunPlan _ b p a n c S PL.out.ps PL.out.pf hn2 a2 L.length c2 (nI L) (nC L) PL.out.ls PL.out.lf hm2).mono ?_
    rw [HOK.out]
    rw [HL1.out]
    rintro e v1 ⟨p1, p2, rfl, r1, r2, _, k1⟩
    obtain ⟨a4, c4, rfl, _, _⟩ := r1.form
    clear r2
    clear d0 d1 d2 g0 g1 g2 lx
    replace BL := Lib.hid (step BL.out k1)
    replace PL := Lib.hid (PL.out.on k1)
    replace X := Lib.hid (X.out.on k1)
    have R1 := Lib.hid (r1)
    clear k1
    clear r1
    obtain ⟨⟨d0, d1, d2⟩, g0, g1, g2⟩ := X.out
    have lx := X.out.lt
    go_wp2_with fail
    refine (spec_RunPlan _ b p a n c S PL.out.ps PL.out.pf hn2 a2 L.length c2 (nI L) (nC L) PL.out.ls PL.out.lf hm2).mono ?_
    rw [HOK.out]
    rw [HL1.out]
    rintro e v2 ⟨p3, p4, rfl, r3, r4, _, k2⟩
    obtain ⟨a6, c6, rfl, _, _⟩ := r3.form
    clear r4
    clear d0 d1 d2 g0 g1 g2 lx
    replace BL := Lib.hid (step BL.out k2)
    replace PL := Lib.hid (PL.out.on k2)
    replace X := Lib.hid (X.out.on k2)
    replace R1 := Lib.hid (R1.out.on k2)
    have R3 := Lib.hid (r3)
    clear k2
    clear r3
    obtain ⟨⟨d0, d1, d2⟩, g0, g1, g2⟩ := X.out
    have lx := X.out.lt
    go_wp2_with fail
    refine (soBatch_row _ _ _ _ _ _ R1.out R3.out hq1).mono ?_
    rintro e v3 ⟨rfl, k3⟩
    clear d0 d1 d2 g0 g1 g2 lx
    replace BL := Lib.hid (step BL.out k3)
    replace PL := Lib.hid (PL.out.on k3)
    replace X := Lib.hid (X.out.on k3)
    replace R1 := Lib.hid (R1.out.on k3)
    replace R3 := Lib.hid (R3.out.on k3)
    clear k3
    obtain ⟨⟨d0, d1, d2⟩, g0, g1, g2⟩ := X.out
    have lx := X.out.lt
    go_wp2_with fail
    refine (soBatch_row _ _ _ _ _ _ R1.out R3.out hq1).mono ?_
    rintro e v4 ⟨rfl, k4⟩
    clear d0 d1 d2 g0 g1 g2 lx
    replace BL := Lib.hid (step BL.out k4)
    replace PL := Lib.hid (PL.out.on k4)
    replace X := Lib.hid (X.out.on k4)
    replace R1 := Lib.hid (R1.out.on k4)
    replace R3 := Lib.hid (R3.out.on k4)
    clear k4
    obtain ⟨⟨d0, d1, d2⟩, g0, g1, g2⟩ := X.out
    have lx := X.out.lt
    go_wp2
    go_ret
    exact ⟨rfl, BL.out⟩
  · have HOK := Lib.hid hok
    obtain ⟨hp, hb⟩ := runOk_yes hok
    have hbl := (batchL_list L).1 hb
    have h60 := hbl.2.2
    have hl1 := runList_srt hok
    rw [lst_nI] at hl1
    have HL1 := Lib.hid hl1
    have hlen := (run_len b p n S L.length (nI L) (nC L)).1
    rw [hl1] at hlen
    have hq1 : (srt n S L).length ≤ 1048576 := by omega
    have HSRT : Hid (∀ X, Same n S L X → runList b p n S X.length (nI X) (nC X) = srt n S L ∧ BatchL X ∧ X.length = L.length) := fun X h => by
      have hB : BatchL X := hbl.perm h.1.symm
      exact ⟨(run_srt2 hp hB).trans h.srt, hB, h.len⟩
    have hsort : M.sortL L.length (nI L) (nC L) = sortS L := by unfold M.sortL; rw [hb, lst_nI]; rfl
    have HSO : Hid (runList b p n S (sortS L).length (nI (sortS L)) (nC (sortS L)) = srt n S L) := (run_srt2 hp (hbl.perm (sortS_perm hbl).symm)).trans (srt_sorted hbl)
    have HBS := Lib.hid (hbl.perm (sortS_perm hbl).symm)
    have hsl : (sortS L).length = L.length := (sortS_perm hbl).length_eq
    have hs60 : (sortS L).length ≤ 60 := by omega
    have CSO : Hid (∀ W, Lts W a2 L.length (nI L) (nC L) → Calls Try.prog 9 #[.slice a2 L.length c2] W (RowOut W (sortS L))) := fun W h => by
      have := soSorted_any W a2 L.length c2 (nI L) (nC L) h PL.out.lf
      rw [hsort] at this
      exact this
    obtain ⟨T, hT⟩ : ∃ T, sortS L = T := ⟨_, rfl⟩
    rw [hT] at CSO HSO HBS hs60
    obtain ⟨A, hA⟩ : ∃ R, srt n S L = R := ⟨_, rfl⟩
    rw [hA] at HL1 HSRT HSO hq1
    clear hok hp hb hbl hl1 hlen hsort hsl hT hA
    obtain ⟨⟨d0, d1, d2⟩, g0, g1, g2⟩ := X.out
    have lx := X.out.lt
    go_wp2_with fail
    rw [HV0.out]
    refine (impl_RunPlan _ b p a n c S PL.out.ps PL.out.pf hn2 a2 L.length c2 (nI L) (nC L) PL.out.ls PL.out.lf hm2).mono ?_
    rw [HOK.out]
    rw [HL1.out]
    rintro e v1 ⟨p1, p2, rfl, r1, r2, _, k1⟩
    obtain ⟨a4, c4, rfl, _, _⟩ := r1.form
    clear r2
    clear d0 d1 d2 g0 g1 g2 lx
    replace BL := Lib.hid (step BL.out k1)
    replace PL := Lib.hid (PL.out.on k1)
    replace X := Lib.hid (X.out.on k1)
    have R1 := Lib.hid (r1)
    clear k1
    clear r1
    obtain ⟨⟨d0, d1, d2⟩, g0, g1, g2⟩ := X.out
    have lx := X.out.lt
    go_wp2_with fail
    refine (spec_RunPlan _ b p a n c S PL.out.ps PL.out.pf hn2 a2 L.length c2 (nI L) (nC L) PL.out.ls PL.out.lf hm2).mono ?_
    rw [HOK.out]
    rw [HL1.out]
    rintro e v2 ⟨p3, p4, rfl, r3, r4, _, k2⟩
    obtain ⟨a6, c6, rfl, _, _⟩ := r3.form
    clear r4
    clear d0 d1 d2 g0 g1 g2 lx
    replace BL := Lib.hid (step BL.out k2)
    replace PL := Lib.hid (PL.out.on k2)
    replace X := Lib.hid (X.out.on k2)
    replace R1 := Lib.hid (R1.out.on k2)
    have R3 := Lib.hid (r3)
    clear k2
    clear r3
    obtain ⟨⟨d0, d1, d2⟩, g0, g1, g2⟩ := X.out
    have lx := X.out.lt
    go_wp2_with fail
    refine (soBatch_row _ _ _ _ _ _ R1.out R3.out hq1).mono ?_
    rintro e v3 ⟨rfl, k3⟩
    clear d0 d1 d2 g0 g1 g2 lx
    replace BL := Lib.hid (step BL.out k3)
    replace PL := Lib.hid (PL.out.on k3)
    replace X := Lib.hid (X.out.on k3)
    replace R1 := Lib.hid (R1.out.on k3)
    replace R3 := Lib.hid (R3.out.on k3)
    clear k3
    clear R3
    obtain ⟨⟨d0, d1, d2⟩, g0, g1, g2⟩ := X.out
    have lx := X.out.lt
    have LB := Lib.hid PL.out.ls
    have hlsx := lst_nI L
    have hzv := BL.out.size
    go_wp2_with (at_builtin; refine wpList_append_lts _ rfl _ _ rfl v3.heap.size _ [] rfl (one_row v3) a2 _ c2 (nI L) (nC L) rfl (LB.out.on (below_alloc0 _ _)) (by simp; omega) (by simp) ?_)
    intro vx w6 rx gx hox
    have rx2 : Row w6 v3.heap.size vx L := by first | exact rx | (rw [hlsx, List.nil_append] at rx; exact rx)
    have RX := Lib.hid rx2
    have B6 : Hid (Below v3.heap.size v3 w6) := Below.grown (below_alloc0 v3 _) gx (by simp) (fun q e => by simp [Value.ownBlock] at e; omega)
    obtain ⟨ax, cx, hvx, hcx, _⟩ := rx2.form
    subst hvx
    clear rx rx2 gx hox hlsx
    clear d0 d1 d2 g0 g1 g2 lx LB
    go_wp2
    go_loopw [14] (fun i wr => ∃ (j : Nat) (Y : List (Int × ByteArray)), 1 ≤ j ∧ (j ≤ L.length ∨ j = 1) ∧ i = .int .i64 j ∧ Hid (Same n S L Y) ∧ Hid (Row wr v3.heap.size (.slice ax L.length cx) Y) ∧ Hid (Below v3.heap.size v3 wr)) (fun i _ => L.length + 1 - (intOf i).toNat)
    case atStart => exact ⟨1, L, Nat.le_refl _, Or.inr rfl, rfl, Same.refl _ _ _, RX, B6⟩
    case round =>
      obtain ⟨j, Y, hj1, hj, rfl, HSM, HR, hbw⟩ := hrel
      have hYl : Hid (Y.length = L.length) := HSM.out.len
      by_cases hlt : j < L.length
      · obtain ⟨i, hi⟩ : ∃ i, i + 1 = j := ⟨j - 1, by omega⟩
        have hji : (j : Int) < (L.length : Int) := by omega
        have hj0 : (0 : Int) ≤ (j : Int) := by omega
        have hk0 : (0 : Int) ≤ (i : Int) := by omega
        have hk1 : (i : Int) < (L.length : Int) := by omega
        have hkw : IntKind.i64.wrap ((j : Int) - 1) = (i : Int) := (IntWalk.i64_in _ (by omega)).trans (by omega)
        have hjY : j < Y.length := by rw [hYl.out]; exact hlt
        have hiY : i < Y.length := by omega
        rcases HR.out.cases with ⟨e1, e2⟩ | ⟨g, c', e1, hbg, hgl⟩
        · rw [e2] at hjY; exact absurd hjY (by simp)
        have hax : ax = some ⟨g, 0, none⟩ := by injection e1
        subst hax
        have hR : Row wr v3.heap.size (.slice (some ⟨g, 0, none⟩) Y.length cx) Y := by rw [hYl.out]; exact HR.out
        obtain ⟨s0, s1, f0, f1⟩ := hR.cells j hjY
        obtain ⟨t0, t1, q0, q1⟩ := hR.cells i hiY
        have hij : i ≠ j := by omega
        have hset1 := (hR.both j hjY Y[i])
        have hset2 := Row.both (L := Y.set j Y[i]) (by rw [List.length_set]; exact hset1) i (by rw [List.length_set]; exact hiY) Y[j]
        rw [List.length_set, hYl.out] at hset2
        have hw1 : IntKind.i64.wrap ((l1 : Int) + (j : Int)) = (l1 : Int) + (j : Int) := IntWalk.i64_in _ (by omega)
        obtain ⟨P, hP⟩ : ∃ P, Y[j] = P := ⟨_, rfl⟩
        obtain ⟨Q, hQ⟩ : ∃ Q, Y[i] = Q := ⟨_, rfl⟩
        have hSW2 : Hid (P.2 ≠ Q.2 → Same n S L ((Y.set j Q).set i P)) := fun hc => HSM.out.swap2 hi hjY hiY hP hQ hc
        rw [hP] at s0 s1 hset2
        rw [hQ] at t0 t1 hset2
        have HS2 := Lib.hid hset2
        have HI := Lib.hid hi
        have HRY := Lib.hid HR.out
        clear hset1 hset2 hP hQ hR e1 hi hjY hiY
        by_cases hc : P.2 = Q.2
        · have e1 : (P.2.toList == Q.2.toList) = true := by rw [hc]; simp
          have e2 : (P.2.toList != Q.2.toList) = false := by rw [hc]; simp
          clear hc f0 f1 q0 q1
          go_wp2
          go_quiet (fail)
          all_goals go_wp2
          all_goals
            exact ⟨⟨j + 1, Y, by omega, Or.inl (by omega), by go_num, HSM, by first | exact HRY | exact HRY.out.on (below_drewN0 (Below.refl _ _) _), by first | exact hbw | exact below_drewS hbw.out _⟩, by simp [intOf]; omega⟩
        · have e1 : (P.2.toList == Q.2.toList) = false := neq_list0 hc
          have e2 : (P.2.toList != Q.2.toList) = true := by rw [bne, e1]; rfl
          have HSW := Lib.hid (hSW2.out hc)
          obtain ⟨t, ht⟩ : ∃ t : Nat, (l1 + j) % 2 = t := ⟨_, rfl⟩
          have ht2 : t < 2 := by omega
          have ht3 : ((l1 : Int) + (j : Int)) % 2 = (t : Int) := by omega
          have ht4 : ((l1 : Int) + (j : Int)).tmod 2 = (t : Int) := by rw [← ht]; exact (Int.ofNat_tmod (l1 + j) 2).symm
          clear hc hSW2 ht
          by_cases h0 : t = 0
          · have z1 : ((t : Int) == 0) = true := by rw [beq_iff_eq]; omega
            have z2 : (t == 0) = true := by rw [beq_iff_eq]; exact h0
            clear h0
            go_wp2
            go_quiet (fail)
            all_goals
              obtain ⟨wq, hwq⟩ : ∃ wq, wr.drewN nq = wq := ⟨_, rfl⟩
              have HS3 : Hid (Row ((((wq.setCell ⟨g, j * 2, none⟩ (.int .i64 Q.1)).setCell ⟨g, j * 2 + 1, none⟩ (.string Q.2)).setCell ⟨g, i * 2, none⟩ (.int .i64 P.1)).setCell ⟨g, i * 2 + 1, none⟩ (.string P.2)) v3.heap.size (.slice (some ⟨g, 0, none⟩) L.length cx) ((Y.set j Q).set i P)) := by rw [← hwq]; exact HS2.out
              have hbq : Hid (Below v3.heap.size v3 wq) := by rw [← hwq]; exact below_drewS hbw.out _
              replace s0 : wq.cell? ⟨g, j * 2, none⟩ = some (.int .i64 P.1) := by rw [← hwq]; exact s0
              replace s1 : wq.cell? ⟨g, j * 2 + 1, none⟩ = some (.string P.2) := by rw [← hwq]; exact s1
              replace t0 : wq.cell? ⟨g, i * 2, none⟩ = some (.int .i64 Q.1) := by rw [← hwq]; exact t0
              replace t1 : wq.cell? ⟨g, i * 2 + 1, none⟩ = some (.string Q.2) := by rw [← hwq]; exact t1
              replace f0 : wq.frozen? ⟨g, j * 2, none⟩ = false := by rw [← hwq]; exact f0
              replace f1 : wq.frozen? ⟨g, j * 2 + 1, none⟩ = false := by rw [← hwq]; exact f1
              replace q0 : wq.frozen? ⟨g, i * 2, none⟩ = false := by rw [← hwq]; exact q0
              replace q1 : wq.frozen? ⟨g, i * 2 + 1, none⟩ = false := by rw [← hwq]; exact q1
              replace hgl : g < wq.heap.size := by rw [← hwq]; exact hgl
              rw [hwq]
              clear hwq HS2 HRY
              go_wp2
              exact ⟨⟨j + 1, (Y.set j Q).set i P, by omega, Or.inl (by omega), by go_num, HSW, (by first | exact HS3 | exact HS3.out.alloc _ | (simp only [World.setCell_alloc_past, hgl]; exact HS3.out.alloc _)), (by first | exact (((((hbq.out.setCell (by dsimp only; omega) _).setCell (by dsimp only; omega) _).setCell (by dsimp only; omega) _).setCell (by dsimp only; omega) _).alloc (by simp; omega) _) | (go_grown))⟩, by simp [intOf]; omega⟩
          · have z1 : ((t : Int) == 0) = false := by rw [beq_eq_false_iff_ne]; omega
            have z2 : (t == 0) = false := by rw [beq_eq_false_iff_ne]; exact h0
            clear h0 f0 f1 q0 q1
            go_wp2
            go_quiet (fail)
            all_goals go_wp2
            all_goals
              exact ⟨⟨j + 1, Y, by omega, Or.inl (by omega), by go_num, HSM, by first | exact HRY | exact HRY.out.on (below_drewN0 (Below.refl _ _) _), by first | exact hbw | exact below_drewS hbw.out _⟩, by simp [intOf]; omega⟩
      · have hji : ¬ (j : Int) < (L.length : Int) := by omega
        obtain ⟨hrun, hBY, _⟩ := HSRT.out Y HSM.out
        have HRUN := Lib.hid hrun
        have HFY := Lib.hid hBY.fits
        have hY60 := hBY.2.2
        have HRX : Hid (Lts wr ax L.length (nI Y) (nC Y)) := by
          obtain ⟨a9, c9, e9, _, l9⟩ := HR.out.form
          injection e9 with q1 q2 q3
          rw [q1, ← hYl.out]; exact l9
        have hrun2 := HRUN.out
        rw [hYl.out] at hrun2
        have hfy2 := HFY.out
        rw [hYl.out] at hfy2
        have CRX : Hid (∀ W, Strs W a n S → Lts W ax L.length (nI Y) (nC Y) → Calls Try.prog 8 #[.agg #[.int .i64 b, .int .i64 p, .slice a n c], .slice ax L.length cx] W fun e w' => ∃ v, e = .returned v ∧ Row w' W.heap.size v A ∧ Below W.heap.size W w') := fun W h1 h2 => by
          have := soRun_any W b p a n c S h1 PL.out.pf hn2 ax L.length cx (nI Y) (nC Y) h2 hfy2 hm2
          rw [hrun2] at this
          exact this
        have X7 := Lib.hid (X.out.on hbw.out)
        have PL7 := Lib.hid (PL.out.on hbw.out)
        have R17 := Lib.hid (R1.out.on hbw.out)
        have BL7 := Lib.hid (step BL.out hbw.out)
        clear hrun hrun2 hfy2 hBY HRUN HFY HR HSM hbw HSRT X PL R1 BL hYl
        obtain ⟨⟨d0, d1, d2⟩, g0, g1, g2⟩ := X7.out
        have lx := X7.out.lt
        have KL : Below wr.heap.size wr wr := Below.refl _ _
        have s0 : wr.cell? ⟨u.heap.size, 0, none⟩ = some (.int .i64 b) ∧ wr.cell? ⟨u.heap.size, 1, none⟩ = some (.int .i64 p) ∧ wr.cell? ⟨u.heap.size, 2, none⟩ = some (.slice a n c) := ⟨d0, d1, d2⟩
        go_wp2_with fail
        go_region_held3 (fun w' => w'.cell? ⟨u.heap.size, 0, none⟩ = some (.int .i64 b) ∧ w'.cell? ⟨u.heap.size, 1, none⟩ = some (.int .i64 p) ∧ w'.cell? ⟨u.heap.size, 2, none⟩ = some (.slice a n c)) (first | exact s0 | exact s7 | exact s8) (first
          | (have hh := T7; clear hh; go_at_call 8; refine (soRun_any _ b p a n c S ((PL7.out.ps.on KL).on (by go_grown)) PL7.out.pf hn2 a7 T.length c7 (nI T) (nC T) (T7.out.on (by go_grown)) HBS.out.fits (by omega)).mono ?_; rw [HSO.out]; rintro e w8 ⟨v8, rfl, r8, k8⟩; have R8 := Lib.hid r8; have KL : Below wr.heap.size wr w8 := (by exact sstep (sstep KL (by go_grown)) k8); have s8 := held_three s0 KL lx)
          | (go_at_call 9; refine (CSO.out _ ((PL7.out.ls.on KL).on (by go_grown))).mono ?_; rintro e w7 ⟨v7, rfl, r7, k7⟩; obtain ⟨a7, c7, rfl, _, t7⟩ := r7.form; have T7 := Lib.hid t7; have KL : Below wr.heap.size wr w7 := (by exact sstep (sstep KL (by go_grown)) k7); have s7 := held_three s0 KL lx))
        all_goals
          have PL8 := Lib.hid (PL7.out.on KL)
          have HRX8 := Lib.hid (HRX.out.on KL)
          have R18 := Lib.hid (R17.out.on KL)
          have BL8 := Lib.hid (step BL7.out KL)
          have lx8 := Nat.lt_of_lt_of_le lx KL.size
          obtain ⟨dd0, dd1, dd2⟩ := s8
          clear s0 s7 d0 d1 d2 g0 g1 g2 lx T7 t7 r7 r8 k7 k8 KL
          go_wp2_with fail
          refine (CRX.out _ (PL8.out.ps.on (by go_grown)) (HRX8.out.on (by go_grown))).mono ?_
          rintro e w9 ⟨v9, rfl, r9, k9⟩
          have kA : Below w8.heap.size w8 w9 := (by first | exact k9 | exact sstep (by go_grown) k9)
          have R9 := Lib.hid r9
          have R19 := Lib.hid (R18.out.on kA)
          have R89 := Lib.hid (R8.out.on kA)
          have BL9 := Lib.hid (step BL8.out kA)
          clear k9 kA r9 dd0 dd1 dd2
          go_wp2_with fail
          refine (soBatch_row _ _ _ _ _ _ R9.out R19.out hq1).mono ?_
          rintro e wA ⟨rfl, kB⟩
          have R1A := Lib.hid (R19.out.on kB)
          have R8A := Lib.hid (R89.out.on kB)
          have BLA := Lib.hid (step BL9.out kB)
          clear kB
          go_wp2_with fail
          refine (soBatch_row _ _ _ _ _ _ R8A.out R1A.out hq1).mono ?_
          rintro e wB ⟨rfl, kC⟩
          have BLB := Lib.hid (step BLA.out kC)
          clear kC
          go_wp2
          go_ret
          exact ⟨rfl, BLB.out⟩

set_option maxRecDepth 100000 in
theorem lifted (os : Os) (started : os.Started) (H : Type) (enc : TypeId × Value → H) :
    ReturnsInHanded {} Try.checked os 3 .any (Rows.fnRunAnySpec.pre6 enc Try.prog Try.f3 Rows.fnRunAnyRow.domain false) (Rows.fnRunAnySpec.post enc Try.prog Try.f3 false true false false) := by
  refine returnsInHanded_of_change (C := Try.checked) own started (by kernel_rfl) Try.func3
    (ChangeSpec.witness6 (enc := enc) (C := Try.checked) false ⟨#[], #[.slice none 0 0, .slice none 0 0], []⟩ 8 (by kernel_rfl) (by kernel_rfl) (by kernel_rfl) (by kernel_rfl)) ?_
  intro W base args ds gs before hval0 hW hcnd _
  have hval : ∀ (j : Nat) t v, Try.f3.params[j]? = some t → args[j]? = some v → Value.okWide Try.prog W .any base t v := hval0
  have hW' := hW
  obtain ⟨p, q, hA0, hV, rfl, hfz, hnd⟩ := hW
  have hA : DataW.TrodAll enc Try.prog W 0 (fun _ => true) true Try.f3.params.toList args.toList ds p := hA0
  rw [Try.params3] at hA hval
  obtain ⟨v0, vs0, d0, ds0, p0, q0, hargs, rfl, rfl, h0, r0⟩ := trodAll_cons hA
  obtain ⟨v1, vs1, d1, ds1, p1, q1, rfl, rfl, rfl, h1, r1⟩ := trodAll_cons r0
  obtain ⟨rfl, rfl, rfl⟩ := trodAll_nil r1
  obtain rfl : args = #[v0, v1] := by cases args; simp_all
  obtain ⟨rfl, rfl⟩ := trodVars_none hV
  have g0 := h0
  have lt0 : ∀ x ∈ p0, x.block < W.heap.size := by obtain ⟨m, hm⟩ := g0; exact DataW.trod_lt m _ _ _ hm
  have g1 := h1
  have lt1 : ∀ x ∈ p1, x.block < W.heap.size := by obtain ⟨m, hm⟩ := g1; exact DataW.trod_lt m _ _ _ hm
  obtain ⟨a0, l0, k0, rfl⟩ := okWide_slice Try.underlying22 (hval 0 22 v0 rfl rfl)
  obtain ⟨z0, w0⟩ : ∃ zs, IsRow .u8 W a0 l0 k0 zs := by
    obtain ⟨fuel, hf⟩ := h0
    rcases open_ints Try.underlying22 Try.underlying5 (by kernel_rfl) hf with ⟨hcs, _⟩ | ⟨x, l, c, zs, hcs, _, hl, hm, hz, _, hcell, hwz⟩
    · simp [Value.cells] at hcs
      obtain ⟨rfl, rfl, rfl⟩ := hcs
      exact ⟨[], .inl ⟨rfl, rfl, rfl, rfl⟩⟩
    · simp [Value.cells] at hcs
      obtain ⟨rfl, rfl, rfl⟩ := hcs
      exact ⟨zs, .inr ⟨_, rfl, hl, hm, by simpa using hz, hcell, hwz⟩⟩
  obtain ⟨a1, l1, k1, rfl⟩ := okWide_slice Try.underlying22 (hval 1 22 v1 rfl rfl)
  obtain ⟨z1, w1⟩ : ∃ zs, IsRow .u8 W a1 l1 k1 zs := by
    obtain ⟨fuel, hf⟩ := h1
    rcases open_ints Try.underlying22 Try.underlying5 (by kernel_rfl) hf with ⟨hcs, _⟩ | ⟨x, l, c, zs, hcs, _, hl, hm, hz, _, hcell, hwz⟩
    · simp [Value.cells] at hcs
      obtain ⟨rfl, rfl, rfl⟩ := hcs
      exact ⟨[], .inl ⟨rfl, rfl, rfl, rfl⟩⟩
    · simp [Value.cells] at hcs
      obtain ⟨rfl, rfl, rfl⟩ := hcs
      exact ⟨zs, .inr ⟨_, rfl, hl, hm, by simpa using hz, hcell, hwz⟩⟩
  clear hA0 hval0
  refine (walk W a0 l0 k0 z0 w0 a1 l1 k1 z1 w1).mono fun e W' ⟨he, bel⟩ => ?_
  subst he
  exact ⟨_, rfl, _, _, _, [], _, [], hW', trodAll_mk1 (shut_bool Try.underlying4 _), (trodAll_cons_mk (Below.trod laidOut (by kernel_rfl) (of_decide_eq_true (by kernel_rfl)) g0 bel lt0) (trodAll_cons_mk (Below.trod laidOut (by kernel_rfl) (of_decide_eq_true (by kernel_rfl)) g1 bel lt1) trodAll_mk0)), rfl, bel.frame _, fun h => by cases h⟩

theorem proved : Rows.FnRunAnySaid :=
  OpenClaim.holds_of_wide 3 Try.f3 rfl rfl rfl rfl rfl rfl rfl ⟨rfl, rfl, rfl, rfl, rfl⟩ rfl rfl rfl rfl rfl (by kernel_rfl) Try.func3 (by kernel_rfl)
    (of_decide_eq_true (by kernel_rfl)) (by unfold Func.isWrapper; first | (rw [if_pos (by decide +kernel)]; kernel_rfl) | (rw [if_neg (by decide +kernel)]; exact ⟨rfl, rfl⟩))
    (fun os started H enc _ => lifted os started H enc)
#print axioms proved
end Go.Proofs.Ytekfjheaffkakaa.fnRunAny
