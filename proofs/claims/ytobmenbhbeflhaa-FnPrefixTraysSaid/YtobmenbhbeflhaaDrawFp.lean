/-
  Drawn letters, a size of trays and a number of digits: DrawFillByPrefix (by gen_drawfp.py).
-/
import Derived.Test.YtobmenbhbeflhaaDrawT
import Derived.Test.YtobmenbhbeflhaaSrtB
namespace Go.Proofs.Ytobmenbhbeflhaa
open Go.RowKit
set_option linter.unusedVariables false

/-- Letters, a size and a number of digits that the law may read. -/
def LetsTwo (w : World) (e : Ending) (w' : World) : Prop := ∃ (v : Value) (L : List (Int × ByteArray)) (B : Nat) (s d : Int), e = .returned (.tuple #[v, .int .i64 s, .int .i64 d]) ∧ Row w' B v L ∧ L.length ≤ 61 ∧ Small 30 L ∧ (-1 ≤ s ∧ s ≤ 9223372036854775807) ∧ (-1 ≤ d ∧ d ≤ 9223372036854775807) ∧ Below w.heap.size w w'
/-- Letters behind a reader. -/
structure FpS (w wx : World) (r : Nat) (v : Value) (L : List (Int × ByteArray)) (B N : Nat) : Prop where
  row : Row wx B v L
  len : L.length ≤ 61
  sm : Small 30 L
  rb : r < B
  wr : w.heap.size ≤ r
  rd : Rd wx r N
  bl : Below w.heap.size w wx
set_option maxHeartbeats 4000000 in
set_option maxRecDepth 100000 in
theorem DrawFillByPrefix_any (a : Option Addr) (l k : Nat) (z : List Int) (w : World) (h : IsRow .u8 w a l k z) :
    Calls Try.prog 5 #[.slice a l k] w (LetsTwo w) := by
  go_enter Try.func5, Try.ntmps5
  go_wp2_with fail
  refine (open_any a l k z w h).mono ?_
  rintro e w1 ⟨r, rfl, rd1, b1, hwr⟩
  go_wp2_with fail
  refine (l2Open_any _ r _ rd1 (by omega)).mono ?_
  rintro e w2 ⟨base, v0, L0, rfl, hrb, R2, l2, S2, rd2, b2⟩
  have B2 := Lib.hid (b1.trans (b2.mono hwr))
  have R2 := Lib.hid R2
  have S2 := Lib.hid S2
  have RD2 := Lib.hid rd2
  have hr2 := rd2.lt
  clear b1 b2 rd1 rd2 h
  go_wp2_with fail
  refine (pick_sg _ _ _ r _ (Sg.start RD2.out) (by omega) (by omega) (by omega)).mono ?_
  rintro e w3 ⟨t, rfl, t0, t1, sg3⟩
  have B3 := Lib.hid (B2.out.trans ((sg3.below_r hr2).mono hwr))
  have R3 := Lib.hid (R2.out.sg sg3 hrb)
  have RD3 := Lib.hid sg3.1
  clear sg3 B2 R2 RD2 hr2
  obtain ⟨N, hN⟩ : ∃ N : Nat, N = 1000 := ⟨_, rfl⟩
  have hNb : N ≤ 1000 := by omega
  cases e0 : (t == 0)
  · have hfp : FpS w w3 r v0 L0 base N := ⟨R3.out, l2, S2.out, hrb, hwr, RD3.out.mono (by omega) (by omega), B3.out⟩
    clear R3 S2 RD3 B3 hN
    have HF := Lib.hid hfp
    clear hfp
    go_wp2_with fail
    refine (l5Number_any _ _ r _ (Sg.start HF.out.rd) (by omega)).mono ?_
    rintro e wm ⟨s, rfl, hs, sgm⟩
    have hsb : -1 ≤ s ∧ s ≤ 9223372036854775807 := by
      rcases hs with hs | hs
      · exact (show ∀ y ∈ [(0 : Int), 20, 21, -1, 9223372036854775807], -1 ≤ y ∧ y ≤ 9223372036854775807 from by decide) s hs
      · omega
    have hrm := HF.out.rd.lt
    have HM : Hid (FpS w wm r v0 L0 base (N + 2)) := ⟨HF.out.row.sg sgm HF.out.rb, HF.out.len, HF.out.sm, HF.out.rb, HF.out.wr, sgm.1, HF.out.bl.trans ((sgm.below_r hrm).mono HF.out.wr)⟩
    clear HF sgm hs hrm
    go_wp2_with fail
    refine (pick_sg _ _ _ r _ (Sg.start HM.out.rd) (by omega) (by omega) (by omega)).mono ?_
    rintro e wn ⟨q, rfl, q0, q1, sgn⟩
    have hrm := HM.out.rd.lt
    have HN2 : Hid (FpS w wn r v0 L0 base (N + 2 + 1)) := ⟨HM.out.row.sg sgn HM.out.rb, HM.out.len, HM.out.sm, HM.out.rb, HM.out.wr, sgn.1, HM.out.bl.trans ((sgn.below_r hrm).mono HM.out.wr)⟩
    clear HM sgn hrm
    obtain ⟨av, cv, hvv, _, _⟩ := HN2.out.row.form
    cases eq : (q == 0)
    · go_wp2_with fail
      refine (pick_sg _ _ _ r _ (Sg.start HN2.out.rd) (by omega) (by omega) (by omega)).mono ?_
      rintro e wo ⟨d, rfl, d0, d1, sgo⟩
      have hrm := HN2.out.rd.lt
      have RO := Lib.hid (HN2.out.row.sg sgo HN2.out.rb)
      have BO := Lib.hid (HN2.out.bl.trans ((sgo.below_r hrm).mono HN2.out.wr))
      rw [hvv] at RO
      clear sgo hvv
      go_wp2
      go_ret3
      exact ⟨_, L0, base, _, _, rfl, RO.out, HN2.out.len, HN2.out.sm, hsb, by omega, BO.out⟩
    · go_wp2_with fail
      refine (num_sg _ [-1, 8, 9223372036854775807] wn.heap.size _ r _ ((Sg.start HN2.out.rd).alloc _) (by omega) (by decide) (by decide) (by have := HN2.out.rd.lt; omega) (cells_int [-1, 8, 9223372036854775807] _ wn)).mono ?_
      rintro e wo ⟨d, rfl, hd, sgo⟩
      have hdb := (show ∀ y ∈ [(-1 : Int), 8, 9223372036854775807], -1 ≤ y ∧ y ≤ 9223372036854775807 from by decide) d hd
      have hrm := HN2.out.rd.lt
      have RO := Lib.hid (HN2.out.row.sg sgo HN2.out.rb)
      have BO := Lib.hid (HN2.out.bl.trans ((sgo.below_r hrm).mono HN2.out.wr))
      rw [hvv] at RO
      clear sgo hd hvv
      go_wp2
      go_ret3
      exact ⟨_, L0, base, _, _, rfl, RO.out, HN2.out.len, HN2.out.sm, hsb, hdb, BO.out⟩
  · obtain ⟨a2, c2, hv2, hlc, hl⟩ := R3.out.form
    subst hv2
    have HFI : Hid (Fits L0.length (nI L0) (nC L0)) := fun i hi => by
      have := S2.out.at i hi
      rw [nI_at hi, nC_at hi]
      exact ⟨by omega, by unfold maxLen; omega⟩
    have HL := Lib.hid hl
    have HBV := Lib.hid (spec_BatchValid w3 a2 L0.length c2 (nI L0) (nC L0) hl HFI.out (by omega))
    have HSB := Lib.hid (fun W (h : Lts W a2 L0.length (nI L0) (nC L0)) => spec_SortBatch W a2 L0.length c2 (nI L0) (nC L0) h HFI.out (by omega))
    rw [lst_nI] at HSB
    obtain ⟨bt, hbt⟩ : ∃ bt, M.batch L0.length (nI L0) (nC L0) = bt := ⟨_, rfl⟩
    rw [hbt] at HBV HSB
    clear hl hlc hbt
    go_wp2_with fail
    refine HBV.out.mono ?_
    rintro e w4 ⟨rfl, b4⟩
    have B4 := Lib.hid (sstep B3.out b4)
    have R4 := Lib.hid (R3.out.on b4)
    have RD4 := Lib.hid (RD3.out.below b4)
    have HL4 := Lib.hid (HL.out.on b4)
    clear b4 B3 R3 RD3 HL HBV
    cases bt
    · obtain ⟨v, hv⟩ : ∃ v, Value.slice a2 L0.length c2 = v := ⟨_, rfl⟩
      obtain ⟨L, hL⟩ : ∃ L, L0 = L := ⟨_, rfl⟩
      obtain ⟨B, hB⟩ : ∃ B, base = B := ⟨_, rfl⟩
      have hfp : FpS w w4 r v L B N := by rw [← hv, ← hL, ← hB]; exact ⟨R4.out, l2, S2.out, hrb, hwr, RD4.out.mono (by omega) (by omega), B4.out⟩
      rw [hv]
      clear R4 S2 RD4 B4 hN HL4 HSB hv hL hB HFI
      have HF := Lib.hid hfp
      clear hfp
      go_wp2_with fail
      refine (l5Number_any _ _ r _ (Sg.start HF.out.rd) (by omega)).mono ?_
      rintro e wm ⟨s, rfl, hs, sgm⟩
      have hsb : -1 ≤ s ∧ s ≤ 9223372036854775807 := by
        rcases hs with hs | hs
        · exact (show ∀ y ∈ [(0 : Int), 20, 21, -1, 9223372036854775807], -1 ≤ y ∧ y ≤ 9223372036854775807 from by decide) s hs
        · omega
      have hrm := HF.out.rd.lt
      have HM : Hid (FpS w wm r v L B (N + 2)) := ⟨HF.out.row.sg sgm HF.out.rb, HF.out.len, HF.out.sm, HF.out.rb, HF.out.wr, sgm.1, HF.out.bl.trans ((sgm.below_r hrm).mono HF.out.wr)⟩
      clear HF sgm hs hrm
      go_wp2_with fail
      refine (pick_sg _ _ _ r _ (Sg.start HM.out.rd) (by omega) (by omega) (by omega)).mono ?_
      rintro e wn ⟨q, rfl, q0, q1, sgn⟩
      have hrm := HM.out.rd.lt
      have HN2 : Hid (FpS w wn r v L B (N + 2 + 1)) := ⟨HM.out.row.sg sgn HM.out.rb, HM.out.len, HM.out.sm, HM.out.rb, HM.out.wr, sgn.1, HM.out.bl.trans ((sgn.below_r hrm).mono HM.out.wr)⟩
      clear HM sgn hrm
      obtain ⟨av, cv, hvv, _, _⟩ := HN2.out.row.form
      cases eq : (q == 0)
      · go_wp2_with fail
        refine (pick_sg _ _ _ r _ (Sg.start HN2.out.rd) (by omega) (by omega) (by omega)).mono ?_
        rintro e wo ⟨d, rfl, d0, d1, sgo⟩
        have hrm := HN2.out.rd.lt
        have RO := Lib.hid (HN2.out.row.sg sgo HN2.out.rb)
        have BO := Lib.hid (HN2.out.bl.trans ((sgo.below_r hrm).mono HN2.out.wr))
        rw [hvv] at RO
        clear sgo hvv
        go_wp2
        go_ret3
        exact ⟨_, L, B, _, _, rfl, RO.out, HN2.out.len, HN2.out.sm, hsb, by omega, BO.out⟩
      · go_wp2_with fail
        refine (num_sg _ [-1, 8, 9223372036854775807] wn.heap.size _ r _ ((Sg.start HN2.out.rd).alloc _) (by omega) (by decide) (by decide) (by have := HN2.out.rd.lt; omega) (cells_int [-1, 8, 9223372036854775807] _ wn)).mono ?_
        rintro e wo ⟨d, rfl, hd, sgo⟩
        have hdb := (show ∀ y ∈ [(-1 : Int), 8, 9223372036854775807], -1 ≤ y ∧ y ≤ 9223372036854775807 from by decide) d hd
        have hrm := HN2.out.rd.lt
        have RO := Lib.hid (HN2.out.row.sg sgo HN2.out.rb)
        have BO := Lib.hid (HN2.out.bl.trans ((sgo.below_r hrm).mono HN2.out.wr))
        rw [hvv] at RO
        clear sgo hd hvv
        go_wp2
        go_ret3
        exact ⟨_, L, B, _, _, rfl, RO.out, HN2.out.len, HN2.out.sm, hsb, hdb, BO.out⟩
    · go_wp2_with fail
      refine (HSB.out _ HL4.out).mono ?_
      rintro e w5 ⟨v, L, rfl, r5, hp, b5⟩
      have hP := hp rfl
      obtain ⟨B, hB⟩ : ∃ B, w4.heap.size = B := ⟨_, rfl⟩
      rw [hB] at r5
      have hfp : FpS w w5 r v L B N := ⟨r5, by rw [hP.length_eq]; exact l2, S2.out.perm hP, by rw [← hB]; exact RD4.out.lt, hwr, (RD4.out.below b5).mono (by omega) (by omega), sstep B4.out b5⟩
      clear R4 S2 RD4 B4 hN HL4 HSB HFI r5 hp hP b5 hB
      have HF := Lib.hid hfp
      clear hfp
      go_wp2_with fail
      refine (l5Number_any _ _ r _ (Sg.start HF.out.rd) (by omega)).mono ?_
      rintro e wm ⟨s, rfl, hs, sgm⟩
      have hsb : -1 ≤ s ∧ s ≤ 9223372036854775807 := by
        rcases hs with hs | hs
        · exact (show ∀ y ∈ [(0 : Int), 20, 21, -1, 9223372036854775807], -1 ≤ y ∧ y ≤ 9223372036854775807 from by decide) s hs
        · omega
      have hrm := HF.out.rd.lt
      have HM : Hid (FpS w wm r v L B (N + 2)) := ⟨HF.out.row.sg sgm HF.out.rb, HF.out.len, HF.out.sm, HF.out.rb, HF.out.wr, sgm.1, HF.out.bl.trans ((sgm.below_r hrm).mono HF.out.wr)⟩
      clear HF sgm hs hrm
      go_wp2_with fail
      refine (pick_sg _ _ _ r _ (Sg.start HM.out.rd) (by omega) (by omega) (by omega)).mono ?_
      rintro e wn ⟨q, rfl, q0, q1, sgn⟩
      have hrm := HM.out.rd.lt
      have HN2 : Hid (FpS w wn r v L B (N + 2 + 1)) := ⟨HM.out.row.sg sgn HM.out.rb, HM.out.len, HM.out.sm, HM.out.rb, HM.out.wr, sgn.1, HM.out.bl.trans ((sgn.below_r hrm).mono HM.out.wr)⟩
      clear HM sgn hrm
      obtain ⟨av, cv, hvv, _, _⟩ := HN2.out.row.form
      cases eq : (q == 0)
      · go_wp2_with fail
        refine (pick_sg _ _ _ r _ (Sg.start HN2.out.rd) (by omega) (by omega) (by omega)).mono ?_
        rintro e wo ⟨d, rfl, d0, d1, sgo⟩
        have hrm := HN2.out.rd.lt
        have RO := Lib.hid (HN2.out.row.sg sgo HN2.out.rb)
        have BO := Lib.hid (HN2.out.bl.trans ((sgo.below_r hrm).mono HN2.out.wr))
        rw [hvv] at RO
        clear sgo hvv
        go_wp2
        go_ret3
        exact ⟨_, L, B, _, _, rfl, RO.out, HN2.out.len, HN2.out.sm, hsb, by omega, BO.out⟩
      · go_wp2_with fail
        refine (num_sg _ [-1, 8, 9223372036854775807] wn.heap.size _ r _ ((Sg.start HN2.out.rd).alloc _) (by omega) (by decide) (by decide) (by have := HN2.out.rd.lt; omega) (cells_int [-1, 8, 9223372036854775807] _ wn)).mono ?_
        rintro e wo ⟨d, rfl, hd, sgo⟩
        have hdb := (show ∀ y ∈ [(-1 : Int), 8, 9223372036854775807], -1 ≤ y ∧ y ≤ 9223372036854775807 from by decide) d hd
        have hrm := HN2.out.rd.lt
        have RO := Lib.hid (HN2.out.row.sg sgo HN2.out.rb)
        have BO := Lib.hid (HN2.out.bl.trans ((sgo.below_r hrm).mono HN2.out.wr))
        rw [hvv] at RO
        clear sgo hd hvv
        go_wp2
        go_ret3
        exact ⟨_, L, B, _, _, rfl, RO.out, HN2.out.len, HN2.out.sm, hsb, hdb, BO.out⟩
end Go.Proofs.Ytobmenbhbeflhaa
