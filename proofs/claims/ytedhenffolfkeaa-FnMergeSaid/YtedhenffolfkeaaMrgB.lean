/-
  MergeBatches in the model of the document: letter after letter.
-/
import Derived.Test.YtedhenffolfkeaaMrgA
import Derived.BigQuiet
namespace Go.Proofs.Ytedhenffolfkeaa
open Go.RowKit
set_option linter.unusedVariables false

theorem asc_congr {C D : Nat → ByteArray} : ∀ {m : Nat}, (∀ i, i < m → C i = D i) → M.asc C m = M.asc D m
  | 0, _ => rfl
  | 1, _ => rfl
  | m + 2, h => by
    have ih := asc_congr (C := C) (D := D) (m := m + 1) fun i hi => h i (by omega)
    show (M.asc C (m + 1) && !M.less (C (m + 1)) (C m)) = (M.asc D (m + 1) && !M.less (D (m + 1)) (D m))
    rw [ih, h (m + 1) (by omega), h m (by omega)]
set_option maxHeartbeats 4000000 in
set_option maxRecDepth 100000 in
theorem spec_MergeBatches (w : World) (a : Option Addr) (n c : Nat) (I : Nat → Int) (C : Nat → ByteArray) (h : Lts w a n I C) (hf : Fits n I C) (hn : n ≤ 1048576) (hcn : n ≤ c) (a2 : Option Addr) (m c2 : Nat) (J : Nat → Int) (D : Nat → ByteArray) (h2 : Lts w a2 m J D) (hf2 : Fits m J D) (hm : m ≤ 1048576) (hcm : m ≤ c2) :
    Calls Try.prog 22 #[.slice a n c, .slice a2 m c2] w (RowRes w (M.mrgOk n I C m J D) (M.mrgL n I C m J D)) := by
  obtain ⟨ok, hok0⟩ : ∃ ok, M.mrgOk n I C m J D = ok := ⟨_, rfl⟩
  obtain ⟨LL, hLL0⟩ : ∃ LL, M.mrgL n I C m J D = LL := ⟨_, rfl⟩
  rw [hok0, hLL0]
  have HOK0 := Lib.hid hok0
  have HLL0 := Lib.hid hLL0
  clear hok0 hLL0
  have HL := Lib.hid h
  have HF := Lib.hid hf
  have HL2 := Lib.hid h2
  have HF2 := Lib.hid hf2
  have BA := Lib.hid (sstep (below_alloc0 w (.cells #[] 29)) (below_alloc0 (w.alloc (.cells #[] 29)) (.cells #[] 29)))
  have RO := Lib.hid ((one_row w).alloc (.cells #[] 29))
  have RA := Lib.hid (one_row (w.alloc (.cells #[] 29)))
  have hz1 : (w.alloc (.cells #[] 29)).heap.size = w.heap.size + 1 := by simp
  rw [hz1] at RA
  have hl1 := Lib.hid (M.lst_length I C n)
  clear h hf h2 hf2 hz1
  go_enter Try.func22, Try.ntmps22
  go_wp2_with (at_builtin; refine wpList_append_lts _ rfl _ _ rfl (w.heap.size + 1) (.slice (some ⟨w.heap.size + 1, 0, none⟩) 0 0) [] rfl RA.out a n c I C rfl (HL.out.on BA.out) (by simp; omega) (by simp) ?_)
  intro v1 w1 r1 gr1 ho1
  try rw [List.nil_append] at r1
  have RO1 : Hid (Row w1 w.heap.size (.slice (some ⟨w.heap.size, 0, none⟩) 0 0) []) := Row.kept RO.out gr1 (fun b hb e => by
    simp [Value.ownBlock] at hb e
    omega)
  have BA1 : Hid (Below w.heap.size w w1) := BA.out.grown gr1 (by simp; omega) (fun q e => by simp [Value.ownBlock] at e; omega)
  have RA1 := Lib.hid r1
  have z1 := BA1.out.size
  have z1' : w.heap.size + 1 ≤ w1.heap.size := by have := (Only.of_grown gr1).size; simp at this; omega
  clear r1 gr1 ho1 RO BA RA
  go_wp2_with (at_builtin; refine wpList_append_lts _ rfl _ _ rfl (w.heap.size + 1) v1 (M.lst I C n) rfl RA1.out a2 m c2 J D rfl (HL2.out.on BA1.out) (by rw [hl1.out]; omega) z1' ?_)
  intro v2 w2 r2 gr2 ho2
  have RO2 : Hid (Row w2 w.heap.size (.slice (some ⟨w.heap.size, 0, none⟩) 0 0) []) := Row.kept RO1.out gr2 (fun b hb e => by
    have := (RA1.out.lt b e).1
    simp [Value.ownBlock] at hb
    omega)
  have BA2 : Hid (Below w.heap.size w w2) := BA1.out.grown gr2 z1 (fun q e => by have := (RA1.out.lt q e).1; omega)
  obtain ⟨X, hX⟩ : ∃ X, M.lst I C n ++ M.lst J D m = X := ⟨_, rfl⟩
  have hlen : X.length = n + m := by rw [← hX, cat_len]
  rw [hX] at r2
  obtain ⟨aX, cX, rfl, _, hlX⟩ := r2.form
  rw [hlen] at hlX
  have LX := Lib.hid hlX
  have HX := Lib.hid hX
  have HLEN := Lib.hid hlen
  have z2 := BA2.out.size
  have HL' := Lib.hid (HL.out.on BA2.out)
  have HL2' := Lib.hid (HL2.out.on BA2.out)
  clear r2 gr2 ho2 RO1 BA1 RA1 hlX hX hlen z1 z1'
  rw [HLEN.out]
  cases hv : M.sorted n I C
  · have hno : M.mrgOk n I C m J D = false := by unfold M.mrgOk; rw [hv]; rfl
    have HN := Lib.hid (HLL0.out.symm.trans (mrgL_no hno))
    have HV := Lib.hid hv
    obtain rfl : ok = false := HOK0.out.symm.trans hno
    clear hv hno
    go_wp2_with fail
    refine (spec_SortedBatch w2 a n c I C HL'.out HF.out hn).mono ?_
    rw [HV.out]
    rintro e w3 ⟨rfl, b3⟩
    have RO3 := Lib.hid (RO2.out.on b3)
    have B3 := Lib.hid (sstep BA2.out b3)
    clear b3
    go_wp2
    go_ret2
    exact ⟨_, rfl, by rw [HN.out]; exact RO3.out, B3.out⟩
  · have HV := Lib.hid hv
    cases hv2 : M.sorted m J D
    · have hno : M.mrgOk n I C m J D = false := by unfold M.mrgOk; rw [hv, hv2]; rfl
      have HN := Lib.hid (HLL0.out.symm.trans (mrgL_no hno))
      have HV2 := Lib.hid hv2
      obtain rfl : ok = false := HOK0.out.symm.trans hno
      clear hv hv2 hno
      go_wp2_with fail
      refine (spec_SortedBatch w2 a n c I C HL'.out HF.out hn).mono ?_
      rw [HV.out]
      rintro e w3 ⟨rfl, b3⟩
      have RO3 := Lib.hid (RO2.out.on b3)
      have L23 := Lib.hid (HL2'.out.on b3)
      have B3 := Lib.hid (sstep BA2.out b3)
      clear b3
      go_wp2_with fail
      refine (spec_SortedBatch w3 a2 m c2 J D L23.out HF2.out hm).mono ?_
      rw [HV2.out]
      rintro e w4 ⟨rfl, b4⟩
      have RO4 := Lib.hid (RO3.out.on b4)
      have B4 := Lib.hid (sstep B3.out b4)
      clear b4
      go_wp2
      go_ret2
      exact ⟨_, rfl, by rw [HN.out]; exact RO4.out, B4.out⟩
    · have HV2 := Lib.hid hv2
      have hnb : n ≤ 60 := by
        unfold M.sorted at hv; rw [Bool.and_eq_true] at hv; exact (M.batch_yes hv.1).1
      have hmb : m ≤ 60 := by
        unfold M.sorted at hv2; rw [Bool.and_eq_true] at hv2; exact (M.batch_yes hv2.1).1
      have hA : M.asc (nC (M.lst I C n)) (M.lst I C n).length = true := by
        unfold M.sorted at hv; rw [Bool.and_eq_true] at hv
        rw [M.lst_length, ← hv.2]
        exact asc_congr fun i hi => (lst_at hi).2
      have hB : M.asc (nC (M.lst J D m)) (M.lst J D m).length = true := by
        unfold M.sorted at hv2; rw [Bool.and_eq_true] at hv2
        rw [M.lst_length, ← hv2.2]
        exact asc_congr fun i hi => (lst_at hi).2
      have hok : M.mrgOk n I C m J D = M.batch (n + m) (nI X) (nC X) := by unfold M.mrgOk; rw [hv, hv2, HX.out]; rfl
      have HFX : Hid (Fits (n + m) (nI X) (nC X)) := by have := fits_cat HF.out HF2.out; rw [HX.out] at this; exact this
      have HOK := Lib.hid hok
      clear hv hv2 hok
      cases hb : M.batch (n + m) (nI X) (nC X)
      · have hno : M.mrgOk n I C m J D = false := HOK.out.trans hb
        have HN := Lib.hid (HLL0.out.symm.trans (mrgL_no hno))
        have HBX := Lib.hid hb
        obtain rfl : ok = false := HOK0.out.symm.trans hno
        clear hb hno hA hB
        go_wp2_with fail
        refine (spec_SortedBatch w2 a n c I C HL'.out HF.out hn).mono ?_
        rw [HV.out]
        rintro e w3 ⟨rfl, b3⟩
        have RO3 := Lib.hid (RO2.out.on b3)
        have L23 := Lib.hid (HL2'.out.on b3)
        have LX3 := Lib.hid (LX.out.on b3)
        have B3 := Lib.hid (sstep BA2.out b3)
        clear b3
        go_wp2_with fail
        refine (spec_SortedBatch w3 a2 m c2 J D L23.out HF2.out hm).mono ?_
        rw [HV2.out]
        rintro e w4 ⟨rfl, b4⟩
        have RO4 := Lib.hid (RO3.out.on b4)
        have LX4 := Lib.hid (LX3.out.on b4)
        have B4 := Lib.hid (sstep B3.out b4)
        clear b4
        go_wp2_with fail
        refine (spec_BatchValid w4 aX (n + m) cX (nI X) (nC X) LX4.out HFX.out (by omega)).mono ?_
        rw [HBX.out]
        rintro e w5 ⟨rfl, b5⟩
        have RO5 := Lib.hid (RO4.out.on b5)
        have B5 := Lib.hid (sstep B4.out b5)
        clear b5
        go_wp2
        go_ret2
        exact ⟨_, rfl, by rw [HN.out]; exact RO5.out, B5.out⟩
      · have hyes : M.mrgOk n I C m J D = true := HOK.out.trans hb
        have HN := Lib.hid (HLL0.out.symm.trans (mrgL_yes hyes))
        have HBX := Lib.hid hb
        have hbl : BatchL (M.lst I C n ++ M.lst J D m) := by rw [HX.out]; exact (batch_list HLEN.out).1 hb
        obtain ⟨pos, hms, hend⟩ := MS.start hA hB hbl
        have HMS := Lib.hid hms
        have HEND := Lib.hid hend
        have HNA := Lib.hid (M.lst_length I C n)
        have HNB := Lib.hid (M.lst_length J D m)
        have HLA : Hid (∀ W, Lts W a n I C → Lts W a n (nI (M.lst I C n)) (nC (M.lst I C n))) := fun W hW => hW.congr fun i hi => ⟨(lst_at hi).1.symm, (lst_at hi).2.symm⟩
        have HLB : Hid (∀ W, Lts W a2 m J D → Lts W a2 m (nI (M.lst J D m)) (nC (M.lst J D m))) := fun W hW => hW.congr fun i hi => ⟨(lst_at hi).1.symm, (lst_at hi).2.symm⟩
        obtain rfl : ok = true := HOK0.out.symm.trans hyes
        clear hb hyes hA hB hbl hms hend
        go_wp2_with fail
        refine (spec_SortedBatch w2 a n c I C HL'.out HF.out hn).mono ?_
        rw [HV.out]
        rintro e w3 ⟨rfl, b3⟩
        have RO3 := Lib.hid (RO2.out.on b3)
        have L23 := Lib.hid (HL2'.out.on b3)
        have LX3 := Lib.hid (LX.out.on b3)
        have B3 := Lib.hid (sstep BA2.out b3)
        clear b3
        go_wp2_with fail
        refine (spec_SortedBatch w3 a2 m c2 J D L23.out HF2.out hm).mono ?_
        rw [HV2.out]
        rintro e w4 ⟨rfl, b4⟩
        have RO4 := Lib.hid (RO3.out.on b4)
        have LX4 := Lib.hid (LX3.out.on b4)
        have B4 := Lib.hid (sstep B3.out b4)
        clear b4
        go_wp2_with fail
        refine (spec_BatchValid w4 aX (n + m) cX (nI X) (nC X) LX4.out HFX.out (by omega)).mono ?_
        rw [HBX.out]
        rintro e w5 ⟨rfl, b5⟩
        have RO5 := Lib.hid (RO4.out.on b5)
        have L15 := Lib.hid (HLA.out _ HL.out)
        have L25 := Lib.hid (HLB.out _ HL2.out)
        have B5 := Lib.hid (sstep B4.out b5)
        obtain ⟨XA, hXA⟩ : ∃ XA, M.lst I C n = XA := ⟨_, rfl⟩
        obtain ⟨XB, hXB⟩ : ∃ XB, M.lst J D m = XB := ⟨_, rfl⟩
        rw [hXA, hXB] at HMS HEND HN
        rw [hXA] at HNA L15
        rw [hXB] at HNB L25
        clear b5 hXA hXB RO2 RO3 RO4 L23 LX LX3 LX4 HL HL2 HL' HL2' BA2 B3 B4 HLA HLB HX HOK HF HF2 HV HV2 HBX HFX HLEN hl1
        go_wp2
        go_loopw [0, 1, 6] (fun va vb vo wr => ∃ (A B R : List (Int × ByteArray)) (nA nB nR : Nat) (pa pb : Option Addr) (ca cb : Nat), va = .slice pa nA ca ∧ vb = .slice pb nB cb ∧ nA ≤ ca ∧ nB ≤ cb ∧ nA ≤ 60 ∧ nB ≤ 60 ∧ nR + nA + nB ≤ 120 ∧ Hid (A.length = nA) ∧ Hid (B.length = nB) ∧ Hid (R.length = nR) ∧ Hid (MS pos (XA ++ XB) A B R) ∧ Hid (Lts w pa nA (nI A) (nC A)) ∧ Hid (Lts w pb nB (nI B) (nC B)) ∧ Hid (Row wr w.heap.size vo R) ∧ Hid (Below w.heap.size w wr)) (fun va vb _ _ => lenV va + lenV vb)
        case atStart => exact ⟨XA, XB, [], n, m, 0, a, a2, c, c2, rfl, rfl, hcn, hcm, hnb, hmb, by omega, HNA, HNB, rfl, HMS, L15, L25, RO5, B5⟩
        case round =>
          obtain ⟨A, B, R, nA, nB, nR, pa, pb, ca, cb, rfl, rfl, hca, hcb, hna, hnb', hnr, hA, hB, hR, hms, hLa, hLb, hrow, hbw⟩ := hrel
          obtain ⟨av, cv, ev, _, _⟩ := hrow.out.form
          rw [hR.out] at ev
          subst ev
          cases A with
          | nil =>
            obtain rfl : nA = 0 := hA.out.symm
            cases B with
            | nil =>
              obtain rfl : nB = 0 := hB.out.symm
              have hfin := HEND.out R hms.out
              have HF := Lib.hid (HN.out.trans hfin.symm)
              clear hfin
              go_wp2
              go_ret2
              exact ⟨_, rfl, by rw [HF.out]; exact hrow.out, hbw.out⟩
            | cons y B =>
              obtain ⟨yi, ys⟩ := y
              obtain ⟨bb, ob, b', rfl, hWb, hsb⟩ := left_tail pb (yi, ys) B nB cb (by have := hB.out; simpa using this) hcb w hLb.out
              obtain ⟨cb0, cb1, _⟩ := hWb wr (hLb.out.on hbw.out)
              have HTB := Lib.hid (hWb w hLb.out).2.2
              have hB0 : (0 : Int) < (nB : Int) := by have := hB.out; simp at this; omega
              have hB9 : 0 < nB := by omega
              have hB1 : ((nB : Int) == 0) = false := by rw [beq_eq_false_iff_ne]; omega
              have MT := Lib.hid (hms.out.takeB (Or.inl rfl))
              have hN1 : Hid (B.length = nB - 1) := by have := hB.out; simp at this; rw [Hid]; omega
              have hR1 : Hid ((R ++ [(yi, ys)]).length = nR + 1) := by have := hR.out; rw [Hid, List.length_append, this]; rfl
              have hp0 : 0 < nB := by omega
              have hRl : R.length ≤ 1048576 := by have := hR.out; omega
              clear hms
              have HSL := Lib.hid hsb
              clear hsb
              clear hWb
              go_wp2_with fail
              go_quiet (fail)
              have hbq : Below wr.heap.size wr (wr.drewN nq) := ⟨rfl, rfl, rfl, Nat.le_refl _, fun _ _ => rfl⟩
              have HRq := Lib.hid (hrow.out.on hbq)
              have HBq := Lib.hid (sstep hbw.out hbq)
              have q0 : (wr.drewN nq).cell? _ = _ := cb0
              have q1 : (wr.drewN nq).cell? _ = _ := cb1
              clear hbq cb0 cb1
              generalize wr.drewN nq = wd at HRq HBq q0 q1 ⊢
              have hzd := HBq.out.size
              have hsl := HSL.out
              go_wp2_with (at_builtin; refine wpList_append_letter _ rfl _ _ rfl w.heap.size (.slice av nR cv) R rfl (HRq.out.alloc _) _ yi ys rfl ?_ hRl (by simp; omega) ?_)
              · simp [go_sem]
              intro v' w' r' g' o'
              have R' := Lib.hid r'
              have B' : Hid (Below w.heap.size w w') := (HBq.out.alloc hzd _).grown g' (by simp; omega) (fun q e => (HRq.out.lt q e).1)
              clear r' g' o' q0 q1
              go_wp2
              go_roundw
              case rel => exact ⟨[], B, R ++ [(yi, ys)], 0, nB - 1, nR + 1, pa, b', ca, cb - 1, rfl, rfl, hca, by omega, by omega, by omega, by omega, hA, hN1, hR1, MT, hLa, HTB, R', B'⟩
              case measure => simp [lenV]; omega
          | cons x A =>
            obtain ⟨xi, xs⟩ := x
            cases B with
            | nil =>
              obtain rfl : nB = 0 := hB.out.symm
              obtain ⟨ba, oa, a', rfl, hWa, hsa⟩ := left_tail pa (xi, xs) A nA ca (by have := hA.out; simpa using this) hca w hLa.out
              obtain ⟨ca0, ca1, _⟩ := hWa wr (hLa.out.on hbw.out)
              have HTA := Lib.hid (hWa w hLa.out).2.2
              have hA0 : (0 : Int) < (nA : Int) := by have := hA.out; simp at this; omega
              have hA9 : 0 < nA := by omega
              have MT := Lib.hid (hms.out.takeA (Or.inl rfl))
              have hN1 : Hid (A.length = nA - 1) := by have := hA.out; simp at this; rw [Hid]; omega
              have hR1 : Hid ((R ++ [(xi, xs)]).length = nR + 1) := by have := hR.out; rw [Hid, List.length_append, this]; rfl
              have hp0 : 0 < nA := by omega
              have hRl : R.length ≤ 1048576 := by have := hR.out; omega
              clear hms
              have HSL := Lib.hid hsa
              clear hsa
              clear hWa
              go_wp2_with fail
              go_quiet (fail)
              have hbq : Below wr.heap.size wr (wr.drewN nq) := ⟨rfl, rfl, rfl, Nat.le_refl _, fun _ _ => rfl⟩
              have HRq := Lib.hid (hrow.out.on hbq)
              have HBq := Lib.hid (sstep hbw.out hbq)
              have q0 : (wr.drewN nq).cell? _ = _ := ca0
              have q1 : (wr.drewN nq).cell? _ = _ := ca1
              clear hbq ca0 ca1
              generalize wr.drewN nq = wd at HRq HBq q0 q1 ⊢
              have hzd := HBq.out.size
              have hsl := HSL.out
              go_wp2_with (at_builtin; refine wpList_append_letter _ rfl _ _ rfl w.heap.size (.slice av nR cv) R rfl (HRq.out.alloc _) _ xi xs rfl ?_ hRl (by simp; omega) ?_)
              · simp [go_sem]
              intro v' w' r' g' o'
              have R' := Lib.hid r'
              have B' : Hid (Below w.heap.size w w') := (HBq.out.alloc hzd _).grown g' (by simp; omega) (fun q e => (HRq.out.lt q e).1)
              clear r' g' o' q0 q1
              go_wp2
              go_roundw
              case rel => exact ⟨A, [], R ++ [(xi, xs)], nA - 1, 0, nR + 1, a', pb, ca - 1, cb, rfl, rfl, by omega, hcb, by omega, by omega, by omega, hN1, hB, hR1, MT, HTA, hLb, R', B'⟩
              case measure => simp [lenV]; omega
            | cons y B =>
              obtain ⟨yi, ys⟩ := y
              cases hlv : ltL (yi, ys) (xi, xs) with
              | false =>
                rcases M.less_no (show M.less ys xs = false from hlv) with hl1 | ⟨hl1, hl2⟩
                · skip
                  obtain ⟨ba, oa, a', rfl, hWa, hsa⟩ := left_tail pa (xi, xs) A nA ca (by have := hA.out; simpa using this) hca w hLa.out
                  obtain ⟨ca0, ca1, _⟩ := hWa wr (hLa.out.on hbw.out)
                  have HTA := Lib.hid (hWa w hLa.out).2.2
                  have hA0 : (0 : Int) < (nA : Int) := by have := hA.out; simp at this; omega
                  have hA9 : 0 < nA := by omega
                  obtain ⟨bb, ob, b', rfl, hWb, hsb⟩ := left_tail pb (yi, ys) B nB cb (by have := hB.out; simpa using this) hcb w hLb.out
                  obtain ⟨cb0, cb1, _⟩ := hWb wr (hLb.out.on hbw.out)
                  have HTB := Lib.hid (hWb w hLb.out).2.2
                  have hB0 : (0 : Int) < (nB : Int) := by have := hB.out; simp at this; omega
                  have hB9 : 0 < nB := by omega
                  have hB1 : ((nB : Int) == 0) = false := by rw [beq_eq_false_iff_ne]; omega
                  have MT := Lib.hid (hms.out.takeA (Or.inr ⟨_, _, rfl, hlv⟩))
                  have hN1 : Hid (A.length = nA - 1) := by have := hA.out; simp at this; rw [Hid]; omega
                  have hR1 : Hid ((R ++ [(xi, xs)]).length = nR + 1) := by have := hR.out; rw [Hid, List.length_append, this]; rfl
                  have hp0 : 0 < nA := by omega
                  have hRl : R.length ≤ 1048576 := by have := hR.out; omega
                  clear hms hlv
                  have HSL := Lib.hid hsa
                  clear hsa hsb
                  clear hWa hWb
                  go_wp2_with fail
                  go_quiet (fail)
                  have hbq : Below wr.heap.size wr (wr.drewN nq) := ⟨rfl, rfl, rfl, Nat.le_refl _, fun _ _ => rfl⟩
                  have HRq := Lib.hid (hrow.out.on hbq)
                  have HBq := Lib.hid (sstep hbw.out hbq)
                  have q0 : (wr.drewN nq).cell? _ = _ := ca0
                  have q1 : (wr.drewN nq).cell? _ = _ := ca1
                  clear hbq ca0 ca1 cb0 cb1
                  generalize wr.drewN nq = wd at HRq HBq q0 q1 ⊢
                  have hzd := HBq.out.size
                  have hsl := HSL.out
                  go_wp2_with (at_builtin; refine wpList_append_letter _ rfl _ _ rfl w.heap.size (.slice av nR cv) R rfl (HRq.out.alloc _) _ xi xs rfl ?_ hRl (by simp; omega) ?_)
                  · simp [go_sem]
                  intro v' w' r' g' o'
                  have R' := Lib.hid r'
                  have B' : Hid (Below w.heap.size w w') := (HBq.out.alloc hzd _).grown g' (by simp; omega) (fun q e => (HRq.out.lt q e).1)
                  clear r' g' o' q0 q1
                  go_wp2
                  go_roundw
                  case rel => exact ⟨A, (yi, ys) :: B, R ++ [(xi, xs)], nA - 1, nB, nR + 1, a', _, ca - 1, cb, rfl, rfl, by omega, hcb, by omega, by omega, by omega, hN1, hB, hR1, MT, HTA, hLb, R', B'⟩
                  case measure => simp [lenV]; omega
                · skip
                  obtain ⟨ba, oa, a', rfl, hWa, hsa⟩ := left_tail pa (xi, xs) A nA ca (by have := hA.out; simpa using this) hca w hLa.out
                  obtain ⟨ca0, ca1, _⟩ := hWa wr (hLa.out.on hbw.out)
                  have HTA := Lib.hid (hWa w hLa.out).2.2
                  have hA0 : (0 : Int) < (nA : Int) := by have := hA.out; simp at this; omega
                  have hA9 : 0 < nA := by omega
                  obtain ⟨bb, ob, b', rfl, hWb, hsb⟩ := left_tail pb (yi, ys) B nB cb (by have := hB.out; simpa using this) hcb w hLb.out
                  obtain ⟨cb0, cb1, _⟩ := hWb wr (hLb.out.on hbw.out)
                  have HTB := Lib.hid (hWb w hLb.out).2.2
                  have hB0 : (0 : Int) < (nB : Int) := by have := hB.out; simp at this; omega
                  have hB9 : 0 < nB := by omega
                  have hB1 : ((nB : Int) == 0) = false := by rw [beq_eq_false_iff_ne]; omega
                  have MT := Lib.hid (hms.out.takeA (Or.inr ⟨_, _, rfl, hlv⟩))
                  have hN1 : Hid (A.length = nA - 1) := by have := hA.out; simp at this; rw [Hid]; omega
                  have hR1 : Hid ((R ++ [(xi, xs)]).length = nR + 1) := by have := hR.out; rw [Hid, List.length_append, this]; rfl
                  have hp0 : 0 < nA := by omega
                  have hRl : R.length ≤ 1048576 := by have := hR.out; omega
                  clear hms hlv
                  have HSL := Lib.hid hsa
                  clear hsa hsb
                  clear hWa hWb
                  go_wp2_with fail
                  go_quiet (fail)
                  have hbq : Below wr.heap.size wr (wr.drewN nq) := ⟨rfl, rfl, rfl, Nat.le_refl _, fun _ _ => rfl⟩
                  have HRq := Lib.hid (hrow.out.on hbq)
                  have HBq := Lib.hid (sstep hbw.out hbq)
                  have q0 : (wr.drewN nq).cell? _ = _ := ca0
                  have q1 : (wr.drewN nq).cell? _ = _ := ca1
                  clear hbq ca0 ca1 cb0 cb1
                  generalize wr.drewN nq = wd at HRq HBq q0 q1 ⊢
                  have hzd := HBq.out.size
                  have hsl := HSL.out
                  go_wp2_with (at_builtin; refine wpList_append_letter _ rfl _ _ rfl w.heap.size (.slice av nR cv) R rfl (HRq.out.alloc _) _ xi xs rfl ?_ hRl (by simp; omega) ?_)
                  · simp [go_sem]
                  intro v' w' r' g' o'
                  have R' := Lib.hid r'
                  have B' : Hid (Below w.heap.size w w') := (HBq.out.alloc hzd _).grown g' (by simp; omega) (fun q e => (HRq.out.lt q e).1)
                  clear r' g' o' q0 q1
                  go_wp2
                  go_roundw
                  case rel => exact ⟨A, (yi, ys) :: B, R ++ [(xi, xs)], nA - 1, nB, nR + 1, a', _, ca - 1, cb, rfl, rfl, by omega, hcb, by omega, by omega, by omega, hN1, hB, hR1, MT, HTA, hLb, R', B'⟩
                  case measure => simp [lenV]; omega
              | true =>
                obtain ⟨hl1, hl2⟩ := M.less_yes (show M.less ys xs = true from hlv)
                obtain ⟨ba, oa, a', rfl, hWa, hsa⟩ := left_tail pa (xi, xs) A nA ca (by have := hA.out; simpa using this) hca w hLa.out
                obtain ⟨ca0, ca1, _⟩ := hWa wr (hLa.out.on hbw.out)
                have HTA := Lib.hid (hWa w hLa.out).2.2
                have hA0 : (0 : Int) < (nA : Int) := by have := hA.out; simp at this; omega
                have hA9 : 0 < nA := by omega
                obtain ⟨bb, ob, b', rfl, hWb, hsb⟩ := left_tail pb (yi, ys) B nB cb (by have := hB.out; simpa using this) hcb w hLb.out
                obtain ⟨cb0, cb1, _⟩ := hWb wr (hLb.out.on hbw.out)
                have HTB := Lib.hid (hWb w hLb.out).2.2
                have hB0 : (0 : Int) < (nB : Int) := by have := hB.out; simp at this; omega
                have hB9 : 0 < nB := by omega
                have hB1 : ((nB : Int) == 0) = false := by rw [beq_eq_false_iff_ne]; omega
                have MT := Lib.hid (hms.out.takeB (Or.inr ⟨_, _, rfl, hlv⟩))
                have hN1 : Hid (B.length = nB - 1) := by have := hB.out; simp at this; rw [Hid]; omega
                have hR1 : Hid ((R ++ [(yi, ys)]).length = nR + 1) := by have := hR.out; rw [Hid, List.length_append, this]; rfl
                have hp0 : 0 < nB := by omega
                have hRl : R.length ≤ 1048576 := by have := hR.out; omega
                clear hms hlv
                have HSL := Lib.hid hsb
                clear hsa hsb
                clear hWa hWb
                go_wp2_with fail
                go_quiet (fail)
                have hbq : Below wr.heap.size wr (wr.drewN nq) := ⟨rfl, rfl, rfl, Nat.le_refl _, fun _ _ => rfl⟩
                have HRq := Lib.hid (hrow.out.on hbq)
                have HBq := Lib.hid (sstep hbw.out hbq)
                have q0 : (wr.drewN nq).cell? _ = _ := cb0
                have q1 : (wr.drewN nq).cell? _ = _ := cb1
                clear hbq ca0 ca1 cb0 cb1
                generalize wr.drewN nq = wd at HRq HBq q0 q1 ⊢
                have hzd := HBq.out.size
                have hsl := HSL.out
                go_wp2_with (at_builtin; refine wpList_append_letter _ rfl _ _ rfl w.heap.size (.slice av nR cv) R rfl (HRq.out.alloc _) _ yi ys rfl ?_ hRl (by simp; omega) ?_)
                · simp [go_sem]
                intro v' w' r' g' o'
                have R' := Lib.hid r'
                have B' : Hid (Below w.heap.size w w') := (HBq.out.alloc hzd _).grown g' (by simp; omega) (fun q e => (HRq.out.lt q e).1)
                clear r' g' o' q0 q1
                go_wp2
                go_roundw
                case rel => exact ⟨(xi, xs) :: A, B, R ++ [(yi, ys)], nA, nB - 1, nR + 1, _, b', ca, cb - 1, rfl, rfl, hca, by omega, by omega, by omega, by omega, hA, hN1, hR1, MT, hLa, HTB, R', B'⟩
                case measure => simp [lenV]; omega
end Go.Proofs.Ytedhenffolfkeaa
