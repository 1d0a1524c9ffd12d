/-
  For every slice of bytes, laws.FnRunPlan returns true.
-/
import Derived.Test.YtbcoklognedffaaRows
import Derived.Test.YtbcoklognedffaaDrawX
import Derived.Test.YtbcoklognedffaaRadN
import Derived.Test.YtbcoklognedffaaStabA
import Derived.Test.YtbcoklognedffaaSo
import Derived.Test.YtbcoklognedffaaCat
import Derived.Test.YtbcoklognedffaaSmpM
import Derived.WalkKit
import Derived.ProofKit
import Derived.OpenShut
import Derived.ShutString
import Derived.ChangeOld
import Derived.Below
import Derived.Handy
import Derived.Lib.Hide
namespace Go.Proofs.Ytbcoklognedffaa.fnRunPlan
open Go.ChangeShapes Go.WideShapes Go.ChangeAt Go.RowKit
open Go.ChangeMaps (open_string shut_string)
open Go.PlainAid (bt get_bt bt_nonneg bt_le)
set_option linter.unusedVariables false

theorem own : ownKnob Try.prog.godebug = none := by kernel_rfl
theorem laidOut : laidOutB Try.prog = true := by kernel_rfl

set_option maxHeartbeats 40000000 in
set_option maxRecDepth 100000 in
theorem walk (w : World) (a0 : Option Addr) (l0 k0 : Nat) (z0 : List Int) (w0 : IsRow .u8 w a0 l0 k0 z0) :
    Calls Try.prog 4 #[.slice a0 l0 k0] w fun e w' => e = .returned (.bool true) ∧ Below w.heap.size w w' := by
  by_cases hl : 1048576 < l0
  · go_enter Try.func4, Try.ntmps4
    go_wp2
    go_ret
    exact ⟨rfl, Below.refl _ _⟩
  go_enter Try.func4, Try.ntmps4
  go_wp2_with fail
  refine (DrawRunPlan_any a0 l0 k0 z0 w w0).mono ?_
  rintro e u ⟨b, p, a, n, c, S, a2, m, c2, I, C, rfl, hpl, bl, hcp⟩
  have HCP := Lib.hid hcp
  clear hcp
  obtain ⟨L, hmL, hpl2⟩ := hpl.list
  subst hmL
  clear hpl
  have hpl := hpl2
  clear hpl2
  have ba := below_alloc0 u (.cells #[.int .i64 b, .int .i64 p, .slice a n c] 25)
  have PL := Lib.hid (hpl.on ba)
  have X := Lib.hid (tri_made u (.int .i64 b) (.int .i64 p) (.slice a n c) 25)
  have BL := Lib.hid (step bl ba)
  obtain ⟨v0, hv0⟩ : ∃ v0, u.alloc (.cells #[.int .i64 b, .int .i64 p, .slice a n c] 25) = v0 := ⟨_, rfl⟩
  rw [hv0] at PL X BL
  have HV0 := Lib.hid hv0
  have hn := PL.out.pn
  have hm := PL.out.ln
  have hn2 : n ≤ 1048576 := by omega
  have hm2 : L.length ≤ 1048576 := by omega
  clear hpl bl ba hv0
  cases hok : runOk b p n S L.length (nI L) (nC L)
  · have HOK := Lib.hid hok
    have hl1 : runList b p n S L.length (nI L) (nC L) = [] := by unfold runList; rw [hok, if_neg (by decide)]
    have hl2 : runRest b p n S L.length (nI L) (nC L) = [] := by unfold runRest; rw [hok, if_neg (by decide)]
    have HL1 := Lib.hid hl1
    have HL2 := Lib.hid hl2
    have hq1 : ([] : List (Int × ByteArray)).length ≤ 1048576 := by simp
    have hq2 := hq1
    clear hok hl1 hl2
    obtain ⟨⟨d0, d1, d2⟩, g0, g1, g2⟩ := X.out
    have lx := X.out.lt
    go_wp2_with fail
    rw [HV0.out]
    refine (impl_RunPlan _ b p a n c S PL.out.ps PL.out.pf hn2 a2 L.length c2 (nI L) (nC L) PL.out.ls PL.out.lf hm2).mono ?_
    rw [HOK.out]
    rw [HL1.out]
    rw [HL2.out]
    rintro e v1 ⟨p1, p2, rfl, r1, r2, _, k1⟩
    obtain ⟨a4, c4, rfl, _, _⟩ := r1.form
    obtain ⟨a5, c5, rfl, _, _⟩ := r2.form
    clear d0 d1 d2 g0 g1 g2 lx
    replace BL := Lib.hid (step BL.out k1)
    replace PL := Lib.hid (PL.out.on k1)
    replace X := Lib.hid (X.out.on k1)
    have R1 := Lib.hid (r1)
    have R2 := Lib.hid (r2)
    clear k1
    clear r1 r2
    obtain ⟨⟨d0, d1, d2⟩, g0, g1, g2⟩ := X.out
    have lx := X.out.lt
    go_wp2_with fail
    refine (spec_RunPlan _ b p a n c S PL.out.ps PL.out.pf hn2 a2 L.length c2 (nI L) (nC L) PL.out.ls PL.out.lf hm2).mono ?_
    rw [HOK.out]
    rw [HL1.out]
    rw [HL2.out]
    rintro e v2 ⟨p3, p4, rfl, r3, r4, _, k2⟩
    obtain ⟨a6, c6, rfl, _, _⟩ := r3.form
    obtain ⟨a7, c7, rfl, _, _⟩ := r4.form
    clear d0 d1 d2 g0 g1 g2 lx
    replace BL := Lib.hid (step BL.out k2)
    replace PL := Lib.hid (PL.out.on k2)
    replace X := Lib.hid (X.out.on k2)
    replace R1 := Lib.hid (R1.out.on k2)
    replace R2 := Lib.hid (R2.out.on k2)
    have R3 := Lib.hid (r3)
    have R4 := Lib.hid (r4)
    clear k2
    clear r3 r4
    obtain ⟨⟨d0, d1, d2⟩, g0, g1, g2⟩ := X.out
    have lx := X.out.lt
    go_wp2_with fail
    refine (soBatch_row _ _ _ _ _ _ R1.out R3.out hq1).mono ?_
    rintro e v3 ⟨rfl, k3⟩
    clear d0 d1 d2 g0 g1 g2 lx
    replace BL := Lib.hid (step BL.out k3)
    replace PL := Lib.hid (PL.out.on k3)
    replace X := Lib.hid (X.out.on k3)
    replace R1 := Lib.hid (R1.out.on k3)
    replace R2 := Lib.hid (R2.out.on k3)
    replace R3 := Lib.hid (R3.out.on k3)
    replace R4 := Lib.hid (R4.out.on k3)
    clear k3
    obtain ⟨⟨d0, d1, d2⟩, g0, g1, g2⟩ := X.out
    have lx := X.out.lt
    go_wp2_with fail
    refine (soBatch_row _ _ _ _ _ _ R2.out R4.out hq2).mono ?_
    rintro e v4 ⟨rfl, k4⟩
    clear d0 d1 d2 g0 g1 g2 lx
    replace BL := Lib.hid (step BL.out k4)
    replace PL := Lib.hid (PL.out.on k4)
    replace X := Lib.hid (X.out.on k4)
    replace R1 := Lib.hid (R1.out.on k4)
    replace R2 := Lib.hid (R2.out.on k4)
    replace R3 := Lib.hid (R3.out.on k4)
    replace R4 := Lib.hid (R4.out.on k4)
    clear k4
    obtain ⟨⟨d0, d1, d2⟩, g0, g1, g2⟩ := X.out
    have lx := X.out.lt
    go_wp2_with fail
    refine (soBatch_row _ _ _ _ _ _ R1.out R3.out hq1).mono ?_
    rintro e v5 ⟨rfl, k5⟩
    clear d0 d1 d2 g0 g1 g2 lx
    replace BL := Lib.hid (step BL.out k5)
    replace PL := Lib.hid (PL.out.on k5)
    replace X := Lib.hid (X.out.on k5)
    replace R1 := Lib.hid (R1.out.on k5)
    replace R2 := Lib.hid (R2.out.on k5)
    replace R3 := Lib.hid (R3.out.on k5)
    replace R4 := Lib.hid (R4.out.on k5)
    clear k5
    obtain ⟨⟨d0, d1, d2⟩, g0, g1, g2⟩ := X.out
    have lx := X.out.lt
    go_wp2_with fail
    refine (soBatch_row _ _ _ _ _ _ R2.out R4.out hq2).mono ?_
    rintro e v6 ⟨rfl, k6⟩
    clear d0 d1 d2 g0 g1 g2 lx
    replace BL := Lib.hid (step BL.out k6)
    replace PL := Lib.hid (PL.out.on k6)
    replace X := Lib.hid (X.out.on k6)
    replace R1 := Lib.hid (R1.out.on k6)
    replace R2 := Lib.hid (R2.out.on k6)
    replace R3 := Lib.hid (R3.out.on k6)
    replace R4 := Lib.hid (R4.out.on k6)
    clear k6
    obtain ⟨⟨d0, d1, d2⟩, g0, g1, g2⟩ := X.out
    have lx := X.out.lt
    go_wp2
    go_ret
    exact ⟨rfl, BL.out⟩
  · have HOK := Lib.hid hok
    obtain ⟨hp, hb⟩ := runOk_yes hok
    have hbl := (batchL_list L).1 hb
    have h60 := hbl.2.2
    have hpm := srt_perm n S L.length (nI L) (nC L)
    rw [lst_nI] at hpm
    have hpl := hpm.length_eq
    rw [List.length_append] at hpl
    have HBS := Lib.hid ((hbl.perm hpm.symm).left)
    have hbs := HBS.out
    have hrk : runOk b p n S (srt n S L).length (nI (srt n S L)) (nC (srt n S L)) = true := by unfold runOk; rw [hp, (batchL_list _).2 hbs]; rfl
    have HR9 := Lib.hid ((runList_srt hrk).trans (by rw [lst_nI, srt_idem]))
    have HIO := Lib.hid ((inOrder_yes hrk).trans (decide_eq_true (ord_srt n S L)))
    have HSTB := Lib.hid (fun i hi hc => srt_stable (n := n) (S := S) (L := L) hbl (i := i) hi hc)
    have hl1 := runList_srt hok
    have hl2 := runRest_filter hok
    rw [lst_nI] at hl1 hl2
    have HL1 := Lib.hid hl1
    have HL2 := Lib.hid hl2
    have HBL := Lib.hid hbl
    have HPM := Lib.hid hpm
    obtain ⟨A, hA⟩ : ∃ R, srt n S L = R := ⟨_, rfl⟩
    obtain ⟨B, hB⟩ : ∃ R, (L.filter fun y => !hasR n S y) = R := ⟨_, rfl⟩
    rw [hA] at HBS HR9 HIO HSTB HL1 HPM hpl
    rw [hB] at HL2 HPM hpl
    have hq1 : A.length ≤ 1048576 := by omega
    have hq2 : B.length ≤ 1048576 := by omega
    have hA60 : A.length ≤ 60 := by omega
    have hB60 : B.length ≤ 60 := by omega
    have HPL := Lib.hid hpl
    clear hok hp hb hbl hpm hbs hrk hl1 hl2 hA hB hpl
    obtain ⟨⟨d0, d1, d2⟩, g0, g1, g2⟩ := X.out
    have lx := X.out.lt
    go_wp2_with fail
    rw [HV0.out]
    refine (impl_RunPlan _ b p a n c S PL.out.ps PL.out.pf hn2 a2 L.length c2 (nI L) (nC L) PL.out.ls PL.out.lf hm2).mono ?_
    rw [HOK.out]
    rw [HL1.out]
    rw [HL2.out]
    rintro e v1 ⟨p1, p2, rfl, r1, r2, _, k1⟩
    obtain ⟨a4, c4, rfl, _, _⟩ := r1.form
    obtain ⟨a5, c5, rfl, _, _⟩ := r2.form
    clear d0 d1 d2 g0 g1 g2 lx
    replace BL := Lib.hid (step BL.out k1)
    replace PL := Lib.hid (PL.out.on k1)
    replace X := Lib.hid (X.out.on k1)
    have R1 := Lib.hid (r1)
    have R2 := Lib.hid (r2)
    clear k1
    clear r1 r2
    obtain ⟨⟨d0, d1, d2⟩, g0, g1, g2⟩ := X.out
    have lx := X.out.lt
    go_wp2_with fail
    refine (spec_RunPlan _ b p a n c S PL.out.ps PL.out.pf hn2 a2 L.length c2 (nI L) (nC L) PL.out.ls PL.out.lf hm2).mono ?_
    rw [HOK.out]
    rw [HL1.out]
    rw [HL2.out]
    rintro e v2 ⟨p3, p4, rfl, r3, r4, _, k2⟩
    obtain ⟨a6, c6, rfl, _, _⟩ := r3.form
    obtain ⟨a7, c7, rfl, _, _⟩ := r4.form
    clear d0 d1 d2 g0 g1 g2 lx
    replace BL := Lib.hid (step BL.out k2)
    replace PL := Lib.hid (PL.out.on k2)
    replace X := Lib.hid (X.out.on k2)
    replace R1 := Lib.hid (R1.out.on k2)
    replace R2 := Lib.hid (R2.out.on k2)
    have R3 := Lib.hid (r3)
    have R4 := Lib.hid (r4)
    clear k2
    clear r3 r4
    obtain ⟨⟨d0, d1, d2⟩, g0, g1, g2⟩ := X.out
    have lx := X.out.lt
    go_wp2_with fail
    refine (soBatch_row _ _ _ _ _ _ R1.out R3.out hq1).mono ?_
    rintro e v3 ⟨rfl, k3⟩
    clear d0 d1 d2 g0 g1 g2 lx
    replace BL := Lib.hid (step BL.out k3)
    replace PL := Lib.hid (PL.out.on k3)
    replace X := Lib.hid (X.out.on k3)
    replace R1 := Lib.hid (R1.out.on k3)
    replace R2 := Lib.hid (R2.out.on k3)
    replace R3 := Lib.hid (R3.out.on k3)
    replace R4 := Lib.hid (R4.out.on k3)
    clear k3
    obtain ⟨⟨d0, d1, d2⟩, g0, g1, g2⟩ := X.out
    have lx := X.out.lt
    go_wp2_with fail
    refine (soBatch_row _ _ _ _ _ _ R2.out R4.out hq2).mono ?_
    rintro e v4 ⟨rfl, k4⟩
    clear d0 d1 d2 g0 g1 g2 lx
    replace BL := Lib.hid (step BL.out k4)
    replace PL := Lib.hid (PL.out.on k4)
    replace X := Lib.hid (X.out.on k4)
    replace R1 := Lib.hid (R1.out.on k4)
    replace R2 := Lib.hid (R2.out.on k4)
    replace R3 := Lib.hid (R3.out.on k4)
    replace R4 := Lib.hid (R4.out.on k4)
    clear k4
    clear R3 R4
    obtain ⟨⟨d0, d1, d2⟩, g0, g1, g2⟩ := X.out
    have lx := X.out.lt
    go_wp2
    go_loopw [11] (fun i wr => ∃ (j : Nat), 1 ≤ j ∧ (j ≤ A.length ∨ j = 1) ∧ i = .int .i64 j ∧ Hid (Below v4.heap.size v4 wr)) (fun i _ => A.length + 1 - (intOf i).toNat)
    case atStart => exact ⟨1, Nat.le_refl _, Or.inr rfl, rfl, Below.refl _ _⟩
    case round =>
      obtain ⟨j, hj1, hj, rfl, hbw⟩ := hrel
      have X2 := Lib.hid (X.out.on hbw.out)
      have PL2 := Lib.hid (PL.out.on hbw.out)
      have R1b := Lib.hid (R1.out.on hbw.out)
      have R2b := Lib.hid (R2.out.on hbw.out)
      clear d0 d1 d2 g0 g1 g2 lx
      by_cases hlt : j < A.length
      · obtain ⟨i, hi⟩ : ∃ i, j = i + 1 := ⟨j - 1, by omega⟩
        have hji : (j : Int) < (A.length : Int) := by omega
        have hj0 : (0 : Int) ≤ (j : Int) := by omega
        have hk0 : (0 : Int) ≤ (i : Int) := by omega
        have hk1 : (i : Int) < (A.length : Int) := by omega
        have hil : i < A.length := by omega
        have hkw : IntKind.i64.wrap ((j : Int) - 1) = (i : Int) := (IntWalk.i64_in _ (by omega)).trans (by omega)
        have HS2 : Hid (nC A j = nC A i → ∃ k1 k2 : Nat, k1 < k2 ∧ k2 < L.length ∧ M.findLetter L.length (nI L) (nC L) (nI A i) = (k1 : Int) ∧ M.findLetter L.length (nI L) (nC L) (nI A j) = (k2 : Int)) := by
          subst hi
          exact HSTB.out i hlt
        clear hi
        have hl1 : Lts wr a4 A.length (nI A) (nC A) := by
          obtain ⟨a9, c9, e9, _, l9⟩ := R1b.out.form
          injection e9 with q1 q2 q3 <;> (subst q1; exact l9)
        obtain ⟨bb, oo, ha, t0, t1⟩ := hl1 j hlt
        obtain ⟨bb', oo', ha', t2, t3⟩ := hl1 i hil
        subst ha
        obtain ⟨rfl, rfl, _⟩ := Addr.mk.inj (Option.some.inj ha')
        clear ha'
        have hLs := Lib.hid PL2.out.ls
        have hLf := Lib.hid PL2.out.lf
        by_cases hce : nC A j = nC A i
        · obtain ⟨k1, k2, hk, hk2, q1, q2⟩ := HS2.out hce
          have Q1 := Lib.hid q1
          have Q2 := Lib.hid q2
          have hcs : ((nC A j).toList == (nC A i).toList) = true := by rw [hce]; simp
          have hnl : ¬ ((k2 : Int) < (k1 : Int)) := by omega
          have hkk : (k1 : Int) < (k2 : Int) := by omega
          clear q1 q2 hl1
          rw [hce] at t1
          go_wp2_with fail
          go_region_held3 (fun w' => w'.cell? ⟨bb, oo + j * 2, none⟩ = some (.int .i64 (nI A j)) ∧ w'.cell? ⟨bb, oo + j * 2 + 1, none⟩ = some (.string (nC A i)) ∧ w'.cell? ⟨bb, oo + i * 2, none⟩ = some (.int .i64 (nI A i)) ∧ w'.cell? ⟨bb, oo + i * 2 + 1, none⟩ = some (.string (nC A i))) (go_keep) (first
            | (go_at_call 18; have hK7 := K7; clear hK7; refine (soPlace_any _ a2 L.length c2 (nI L) (nC L) ((hLs.out.on K7).on (by go_grown)) hLf.out (nI A i)).mono ?_; rw [Q1.out]; rintro e w8 ⟨rfl, k8⟩; have K8 : Below wr.heap.size wr w8 := (by exact sstep (sstep K7 (by go_grown)) k8); have s0 := (K8.cell (p := ⟨bb, oo + j * 2, none⟩) hlb).trans t0; have s1 := (K8.cell (p := ⟨bb, oo + j * 2 + 1, none⟩) hlb).trans t1; have s2 := (K8.cell (p := ⟨bb, oo + i * 2, none⟩) hlb).trans t2; have s3 := (K8.cell (p := ⟨bb, oo + i * 2 + 1, none⟩) hlb).trans t3)
            | (go_at_call 18; refine (soPlace_any _ a2 L.length c2 (nI L) (nC L) (hLs.out.on (by go_grown)) hLf.out (nI A j)).mono ?_; rw [Q2.out]; rintro e w7 ⟨rfl, k7⟩; have K7 : Below wr.heap.size wr w7 := (by exact sstep (by go_grown) k7); have hlb : bb < wr.heap.size := World.block_lt_of_cell? _ _ t0; have u0 := (k7.cell (p := ⟨bb, oo + j * 2, none⟩) hlb).trans t0; have u1 := (k7.cell (p := ⟨bb, oo + j * 2 + 1, none⟩) hlb).trans t1; have u2 := (k7.cell (p := ⟨bb, oo + i * 2, none⟩) hlb).trans t2; have u3 := (k7.cell (p := ⟨bb, oo + i * 2 + 1, none⟩) hlb).trans t3))
          have B9 := Lib.hid (step hbw.out K8)
          clear k7 k8 K7 K8 u0 u1 u2 u3 s0 s1 s2 s3 t0 t1 t2 t3 hcs hce hkw
          go_wp2
          go_roundw
          case rel => exact ⟨j + 1, by omega, Or.inl (by omega), by go_num, by first | exact B9.out | exact below_drewS B9.out _⟩
          case measure => simp [intOf]; omega
        · have hcs : ((nC A j).toList == (nC A i).toList) = false := by
            rw [beq_eq_false_iff_ne]
            exact fun e => hce (toList_inj e)
          clear hl1
          go_wp2
          go_quiet (fail)
          go_wp2
          go_roundw
          case rel => exact ⟨j + 1, by omega, Or.inl (by omega), by go_num, below_drewS hbw.out _⟩
          case measure => simp [intOf]; omega
      · have LA : Hid (Lts wr a4 A.length (nI A) (nC A)) := by
          obtain ⟨a9, c9, e9, _, l9⟩ := R1b.out.form
          injection e9 with q1 q2 q3 <;> (subst q1; exact l9)
        have LB : Hid (Lts wr a5 B.length (nI B) (nC B)) := by
          obtain ⟨a9, c9, e9, _, l9⟩ := R2b.out.form
          injection e9 with q1 q2 q3 <;> (subst q1; exact l9)
        go_wp2_with (at_builtin; refine wpList_append_lts _ rfl _ _ rfl wr.heap.size (.slice (some ⟨wr.heap.size, 0, none⟩) 0 0) [] rfl (one_row wr) a4 A.length c4 (nI A) (nC A) rfl (LA.out.on (by go_grown)) (by simp; omega) (by simp) ?_)
        intro x1 w1 r1 gr1 ho1
        rw [lst_nI] at r1
        have K1 : Below wr.heap.size wr w1 := (below_alloc0 wr _).grown gr1 (by simp) (fun q e => by simp [Value.ownBlock] at e; omega)
        clear gr1 ho1
        go_wp2_with (at_builtin; refine wpList_append_lts _ rfl _ _ rfl wr.heap.size x1 A rfl r1 a5 B.length c5 (nI B) (nC B) rfl (LB.out.on K1) (by omega) K1.size ?_)
        intro x2 w2 r2 gr2 ho2
        rw [lst_nI] at r2
        have K2 : Below wr.heap.size wr w2 := K1.grown gr2 K1.size (fun q e => (r1.lt q e).1)
        obtain ⟨AB, hAB⟩ : ∃ R, A ++ B = R := ⟨_, rfl⟩
        have HPM2 : Hid (AB.Perm L) := by rw [← hAB]; exact HPM.out
        rw [hAB] at r2
        clear hAB HPM
        obtain ⟨a9, c9, e9, _, l9⟩ := r2.form
        subst e9
        have L9 := Lib.hid l9
        have X3 := Lib.hid (X2.out.on K2)
        have PL3 := Lib.hid (PL2.out.on K2)
        have R3 := Lib.hid (R1b.out.on K2)
        have LA3 := Lib.hid (LA.out.on K2)
        have B3 := Lib.hid (step hbw.out K2)
        clear r1 r2 gr2 ho2 K1 K2 l9 X2 PL2 R1b R2b LA LB
        obtain ⟨⟨d0, d1, d2⟩, g0, g1, g2⟩ := X3.out
        have lx := X3.out.lt
        go_wp2_with fail
        refine (impl_InOrder w2 b p a n c S PL3.out.ps PL3.out.pf hn2 a4 A.length c4 (nI A) (nC A) LA3.out HBS.out.fits).mono ?_
        rw [HIO.out]
        rintro e w3 ⟨rfl, k3⟩
        have L10 := Lib.hid (L9.out.on k3)
        have X4 := Lib.hid (X3.out.on k3)
        have PL4 := Lib.hid (PL3.out.on k3)
        have R4 := Lib.hid (R3.out.on k3)
        have LA4 := Lib.hid (LA3.out.on k3)
        have B4 := Lib.hid (step B3.out k3)
        clear k3 L9 X3 PL3 R3 LA3 B3 d0 d1 d2 g0 g1 g2 lx
        go_wp2_with fail
        refine (soAll_perm w3 a9 a2 c9 c2 AB L L10.out PL4.out.ls HBL.out HPM2.out).mono ?_
        rintro e w4 ⟨rfl, k4⟩
        have X5 := Lib.hid (X4.out.on k4)
        have PL5 := Lib.hid (PL4.out.on k4)
        have R5 := Lib.hid (R4.out.on k4)
        have LA5 := Lib.hid (LA4.out.on k4)
        have B5 := Lib.hid (step B4.out k4)
        clear k4 L10 X4 PL4 R4 LA4 B4
        obtain ⟨⟨d0, d1, d2⟩, g0, g1, g2⟩ := X5.out
        have lx := X5.out.lt
        go_wp2_with fail
        refine (soRun_any w4 b p a n c S PL5.out.ps PL5.out.pf hn2 a4 A.length c4 (nI A) (nC A) LA5.out HBS.out.fits hq1).mono ?_
        rw [HR9.out]
        rintro e w5 ⟨v, rfl, r5, k5⟩
        obtain ⟨a8, c8, rfl, _, _⟩ := r5.form
        have R8 := Lib.hid r5
        have R6 := Lib.hid (R5.out.on k5)
        have B6 := Lib.hid (step B5.out k5)
        clear r5 k5 X5 PL5 R5 LA5 B5 d0 d1 d2 g0 g1 g2 lx
        go_wp2_with fail
        refine (soBatch_row w5 _ _ _ _ A R8.out R6.out hq1).mono ?_
        rintro e w6 ⟨rfl, k6⟩
        go_wp2
        go_ret
        exact ⟨rfl, sstep (step BL.out B6.out) k6⟩

set_option maxRecDepth 100000 in
theorem lifted (os : Os) (started : os.Started) (H : Type) (enc : TypeId × Value → H) :
    ReturnsInHanded {} Try.checked os 4 .any (Rows.fnRunPlanSpec.pre6 enc Try.prog Try.f4 Rows.fnRunPlanRow.domain false) (Rows.fnRunPlanSpec.post enc Try.prog Try.f4 false true false false) := by
  refine returnsInHanded_of_change (C := Try.checked) own started (by kernel_rfl) Try.func4
    (ChangeSpec.witness6 (enc := enc) (C := Try.checked) false ⟨#[], #[.slice none 0 0], []⟩ 8 (by kernel_rfl) (by kernel_rfl) (by kernel_rfl) (by kernel_rfl)) ?_
  intro W base args ds gs before hval0 hW hcnd _
  have hval : ∀ (j : Nat) t v, Try.f4.params[j]? = some t → args[j]? = some v → Value.okWide Try.prog W .any base t v := hval0
  have hW' := hW
  obtain ⟨p, q, hA0, hV, rfl, hfz, hnd⟩ := hW
  have hA : DataW.TrodAll enc Try.prog W 0 (fun _ => true) true Try.f4.params.toList args.toList ds p := hA0
  rw [Try.params4] at hA hval
  obtain ⟨v0, vs0, d0, ds0, p0, q0, hargs, rfl, rfl, h0, r0⟩ := trodAll_cons hA
  obtain ⟨rfl, rfl, rfl⟩ := trodAll_nil r0
  obtain rfl : args = #[v0] := by cases args; simp_all
  obtain ⟨rfl, rfl⟩ := trodVars_none hV
  have g0 := h0
  have lt0 : ∀ x ∈ p0, x.block < W.heap.size := by obtain ⟨m, hm⟩ := g0; exact DataW.trod_lt m _ _ _ hm
  obtain ⟨a0, l0, k0, rfl⟩ := okWide_slice Try.underlying22 (hval 0 22 v0 rfl rfl)
  obtain ⟨z0, w0⟩ : ∃ zs, IsRow .u8 W a0 l0 k0 zs := by
    obtain ⟨fuel, hf⟩ := h0
    rcases open_ints Try.underlying22 Try.underlying5 (by kernel_rfl) hf with ⟨hcs, _⟩ | ⟨x, l, c, zs, hcs, _, hl, hm, hz, _, hcell, hwz⟩
    · simp [Value.cells] at hcs
      obtain ⟨rfl, rfl, rfl⟩ := hcs
      exact ⟨[], .inl ⟨rfl, rfl, rfl, rfl⟩⟩
    · simp [Value.cells] at hcs
      obtain ⟨rfl, rfl, rfl⟩ := hcs
      exact ⟨zs, .inr ⟨_, rfl, hl, hm, by simpa using hz, hcell, hwz⟩⟩
  clear hA0 hval0
  refine (walk W a0 l0 k0 z0 w0).mono fun e W' ⟨he, bel⟩ => ?_
  subst he
  exact ⟨_, rfl, _, _, _, [], _, [], hW', trodAll_mk1 (shut_bool Try.underlying4 _), (trodAll_cons_mk (Below.trod laidOut (by kernel_rfl) (of_decide_eq_true (by kernel_rfl)) g0 bel lt0) trodAll_mk0), rfl, bel.frame _, fun h => by cases h⟩

theorem proved : Rows.FnRunPlanSaid :=
  OpenClaim.holds_of_wide 4 Try.f4 rfl rfl rfl rfl rfl rfl rfl ⟨rfl, rfl, rfl, rfl, rfl⟩ rfl rfl rfl rfl rfl (by kernel_rfl) Try.func4 (by kernel_rfl)
    (of_decide_eq_true (by kernel_rfl)) (by unfold Func.isWrapper; first | (rw [if_pos (by decide +kernel)]; kernel_rfl) | (rw [if_neg (by decide +kernel)]; exact ⟨rfl, rfl⟩))
    (fun os started H enc _ => lifted os started H enc)
#print axioms proved
end Go.Proofs.Ytbcoklognedffaa.fnRunPlan
