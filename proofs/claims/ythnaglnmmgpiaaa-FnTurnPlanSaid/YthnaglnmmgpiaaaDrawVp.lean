/-
  Drawn plans that are valid (by gen_drawvp.py), and the draws of PlanValid, FormatPlan and TurnPlan.
-/
import Derived.Test.YthnaglnmmgpiaaaDrawQ
import Derived.Test.YthnaglnmmgpiaaaDrawVa
import Derived.Test.YthnaglnmmgpiaaaDrawR
namespace Go.Proofs.Ythnaglnmmgpiaaa
open Go.RowKit
open Go.PlainAid (bt get_bt bt_nonneg bt_le)
set_option linter.unusedVariables false

/-- Codes of which no two are the same. -/
def CodesOk (L : List ByteArray) : Prop := (∀ x ∈ L, M.code x = true) ∧ L.Pairwise (· ≠ ·)
theorem codesOk_nil : CodesOk [] := ⟨(fun _ h => by cases h), List.Pairwise.nil⟩
theorem codesOk_more {L : List ByteArray} (h : CodesOk L) {s : ByteArray} (hs : M.code s = true) (hn : ∀ j, j < L.length → sC L j ≠ s) : CodesOk (L ++ [s]) := by
  refine ⟨fun x hx => ?_, List.pairwise_append.2 ⟨h.2, List.pairwise_singleton _ _, fun x hx y hy => ?_⟩⟩
  · rcases List.mem_append.1 hx with hx | hx
    · exact h.1 x hx
    · rw [List.mem_singleton.1 hx]; exact hs
  · obtain ⟨j, hj, e⟩ := List.getElem_of_mem hx
    have := hn j hj
    rw [sC_at hj, e] at this
    rw [List.mem_singleton.1 hy]; exact this
theorem CodesOk.small {L : List ByteArray} (h : CodesOk L) : SmallS 7 L := fun x hx => by
  have := (M.code_yes (h.1 x hx)).2
  omega
theorem CodesOk.diff {L : List ByteArray} (h : CodesOk L) : M.diffTo (sC L) L.length = true := (M.diffTo_iff _ _).2 fun i hi => by
  refine ⟨by rw [sC_at hi]; exact h.1 _ (List.getElem_mem hi), fun k hk => ?_⟩
  rw [sC_at hi, sC_at (by omega)]
  exact List.pairwise_iff_getElem.1 h.2 k i (by omega) hi hk
theorem codesOk_plan {L : List ByteArray} (h : CodesOk L) {b p : Int} (hf : M.fits b p L.length = true) : M.plan b p L.length (sC L) = true := by rw [M.plan_fit hf]; exact h.diff
theorem plan_fits : ∀ b ∈ [(4 : Int), 3, 5, 2, 10], ∀ n : Nat, 1 ≤ n → n ≤ 12 → M.fits b (max (M.leastPasses (n : Int) b) 1) n = true := by
  have h : ∀ b ∈ [(4 : Int), 3, 5, 2, 10], ∀ n : Fin 13, 1 ≤ n.val → M.fits b (max (M.leastPasses (n.val : Int) b) 1) n.val = true := by decide
  exact fun b hb n h1 h2 => h b hb ⟨n, by omega⟩ h1
def SRowOk (W : World) (base m r N : Nat) (e : Ending) (w' : World) : Prop := ∃ (v : Value) (L : List ByteArray), e = .returned v ∧ SRow w' base v L ∧ 1 ≤ L.length ∧ L.length ≤ m ∧ CodesOk L ∧ Sg W w' r N
def PlanOk (W : World) (base r N : Nat) (e : Ending) (w' : World) : Prop := ∃ (b p : Int) (v : Value) (L : List ByteArray), e = .returned (.agg #[.int .i64 b, .int .i64 p, v]) ∧ (2 ≤ b ∧ b ≤ 10) ∧ (1 ≤ p ∧ p ≤ 4) ∧ SRow w' base v L ∧ 1 ≤ L.length ∧ L.length ≤ 12 ∧ CodesOk L ∧ M.plan b p L.length (sC L) = true ∧ Sg W w' r N
set_option maxHeartbeats 2000000 in
theorem l3Order_ok (w : World) (r N : Nat) (h : Rd w r N) (hN : N ≤ 80000) :
    Calls Try.prog 47 #[.pointer (some ⟨r, 0, none⟩), .int .i64 12] w (SRowOk w w.heap.size 12 r (N + 200)) := by
  have hr := h.lt
  have SE := Lib.hid (sone_empty w)
  have SG := Lib.hid ((Sg.start h).alloc (.cells #[] 9))
  have RD := Lib.hid SG.out.1
  clear h
  go_enter Try.func47, Try.ntmps47
  go_wp2_with fail
  refine (pick_sg _ _ _ r _ (Sg.start RD.out) (by omega) (by omega) (by omega)).mono ?_
  rintro e w1 ⟨n, rfl, n0, n1, sg1⟩
  obtain ⟨n, rfl⟩ := Int.eq_ofNat_of_zero_le n0
  have hn : n < 12 := by omega
  have R1 := Lib.hid (SE.out.sg sg1 hr)
  have S1 := Lib.hid (SG.out.trans sg1)
  clear sg1 SE SG RD
  go_wp2
  go_loopw [5, 6] (fun u i wr => ∃ (k : Nat) (L : List ByteArray), i = .int .i64 k ∧ L.length + k ≤ 12 ∧ (L.length = 0 → 0 < k) ∧ k ≤ n + 1 ∧ Hid (CodesOk L) ∧ Hid (SRow wr w.heap.size u L) ∧ Hid (Sg w wr r (N + 1 + 10 * (n + 1 - k)))) (fun _ i _ => (intOf i).toNat)
  case atStart => exact ⟨n + 1, [], by simp; omega, by simp; omega, fun _ => by omega, Nat.le_refl _, codesOk_nil, R1, by rw [show n + 1 - (n + 1) = 0 from by omega]; exact S1.out⟩
  case round =>
    obtain ⟨k, L, rfl, hk, hz, hkn, hsm, hrow, hsg⟩ := hrel
    by_cases h0 : 0 < k
    · have hk0 : (0 : Int) < (k : Int) := by omega
      obtain ⟨a, c, hv, hlc, _⟩ := hrow.out.form
      cases hv
      go_wp2_with fail
      refine (l1Some_ok _ _ r _ (Sg.start hsg.out.1) (by omega)).mono ?_
      rintro e w3 ⟨s, rfl, s0, s1, sg3⟩
      have hcs := s0.code s1
      have R3 := Lib.hid (hrow.out.sg sg3 hr)
      have S3 := Lib.hid (hsg.out.trans sg3)
      clear sg3 hsg
      obtain ⟨a', c', hv', _, hst⟩ := R3.out.form
      cases hv'
      have hrk := M.rank_bd (sC L) s L.length
      have hSR := Lib.hid (spec_l3Rank w3 a L.length c (sC L) hst (by omega) s)
      obtain ⟨q, hq⟩ : ∃ q, M.rankTo (sC L) s L.length = q := ⟨_, rfl⟩
      have HQ := Lib.hid hq
      rw [hq] at hrk hSR
      clear hq hst
      by_cases hneg : q < 0
      · go_wp2_with (first
          | (go_at_call 61; refine (hSR.out).mono ?_; rintro e w5 ⟨rfl, rfl⟩)
          | (at_builtin; refine wpList_append_string _ rfl _ _ rfl w.heap.size _ _ rfl (R3.out.alloc _) _ s rfl ?_ (by omega) (by have := S3.out.2.size; simp; omega) ?_))
        · simp [go_sem]
        · intro v' w4 hr4 hg4 ho4
          have S4 := Lib.hid ((S3.out.alloc _).sgrown (R3.out.alloc _) (Nat.le_refl _) hr hg4)
          have R4 := Lib.hid hr4
          clear hr4 hg4 ho4 R3 S3
          go_wp2
          go_roundw
          case rel => exact ⟨k - 1, L ++ [s], by go_num, by simp; omega, (fun h => by simp at h), by omega, codesOk_more hsm.out hcs (M.rank_none (by have := HQ.out; omega)), R4, S4.out.mono (by omega) (by omega)⟩
          case measure => simp [intOf]; omega
      · have hL0 : L.length ≠ 0 := by
          intro e
          have : q = -1 := by rw [← HQ.out, e]; rfl
          omega
        go_wp2_with fail
        refine (hSR.out).mono ?_
        rintro e w5 ⟨rfl, rfl⟩
        go_wp2
        go_roundw
        case rel => exact ⟨k - 1, L, by go_num, by omega, (fun h => absurd h hL0), by omega, hsm, R3, S3.out.mono (by omega) (by omega)⟩
        case measure => simp [intOf]; omega
    · obtain rfl : k = 0 := by omega
      go_wp2
      go_ret
      exact ⟨_, _, rfl, hrow, by omega, by omega, hsm.out, hsg.out.mono (by omega) (by omega)⟩

set_option maxHeartbeats 2000000 in
theorem l3Some_ok (w : World) (r N : Nat) (h : Rd w r N) (hN : N ≤ 70000) :
    Calls Try.prog 28 #[.pointer (some ⟨r, 0, none⟩)] w (PlanOk w (w.heap.size + 1) r (N + 300)) := by
  have hr := h.lt
  have SG := Lib.hid (((Sg.start h).alloc (.cells #[.int .i64 0, .int .i64 0, .slice none 0 0] 25)).alloc (.cells #[.int .i64 4, .int .i64 3, .int .i64 5, .int .i64 2, .int .i64 10] 3))
  have BX := Lib.hid ((tri_made w (.int .i64 0) (.int .i64 0) (.slice none 0 0) 25).alloc (.cells #[.int .i64 4, .int .i64 3, .int .i64 5, .int .i64 2, .int .i64 10] 3))
  have hc := cells_int [4, 3, 5, 2, 10] 3 (w.alloc (.cells #[.int .i64 0, .int .i64 0, .slice none 0 0] 25))
  simp only [World.size_alloc] at hc
  have HC := Lib.hid hc
  clear h hc
  go_enter Try.func28, Try.ntmps28
  go_wp2_with fail
  refine (num_sg _ [4, 3, 5, 2, 10] (w.heap.size + 1) _ r _ (Sg.start SG.out.1) (by omega) (by decide) (by decide) (by omega) HC.out).mono ?_
  rintro e w1 ⟨b, rfl, hm, sg1⟩
  have hv := (show ∀ x ∈ [(4 : Int), 3, 5, 2, 10], 2 ≤ x ∧ x ≤ 10 from by decide) b hm
  have HFITS := Lib.hid (plan_fits b hm)
  have S1 := Lib.hid (SG.out.trans sg1)
  have B1 := Lib.hid (BX.out.sg sg1 (by omega))
  have z1 := sg1.2.size
  simp only [World.size_alloc] at z1
  clear hm sg1 SG BX HC
  go_wp2_with fail
  refine (l3Order_ok _ r _ S1.out.1 (by omega)).mono ?_
  rintro e w2 ⟨v, L, rfl, hrow, l1, l2, hsm, sg2⟩
  have S2 := Lib.hid (S1.out.trans sg2)
  have B2 := Lib.hid (B1.out.sg sg2 (by omega))
  have R2 := Lib.hid hrow
  clear sg2 S1 B1 hrow
  obtain ⟨a, c, hvv, _, _⟩ := R2.out.form
  cases hvv
  have hlp := M.leastPasses_bd (L.length : Int) b
  obtain ⟨q, hq⟩ : ∃ q, M.leastPasses (L.length : Int) b = q := ⟨_, rfl⟩
  have HQ := Lib.hid hq
  have HVALID : Hid (M.plan b (max q 1) L.length (sC L) = true) := by rw [← hq]; exact codesOk_plan hsm (HFITS.out L.length l1 l2)
  rw [hq] at hlp
  clear hq
  go_wp2_with fail
  refine (spec_LeastPasses _ (L.length : Int) b).mono ?_
  rw [HQ.out]
  rintro e w3 ⟨rfl, rfl⟩
  have hlt := B2.out.lt
  obtain ⟨⟨d0, d1, d2⟩, g0, g1, g2⟩ := B2.out
  by_cases hq1 : q < 1
  · have HV1 : Hid (M.plan b 1 L.length (sC L) = true) := by have := HVALID.out; rwa [show max q 1 = 1 by omega] at this
    go_wp2
    refine bodyPost_ret (v := .agg #[.int .i64 b, .int .i64 1, .slice a L.length c]) (by simp [results, Try.results28, go_sem, d0, d1, d2]) rfl ?_
    refine ⟨b, 1, _, L, rfl, hv, by omega, ?_, l1, l2, hsm, HV1.out, (S2.out.three (Nat.le_refl _) hr _ _ _).mono (by omega) (by omega)⟩
    exact (SRow.three R2.out (fun k hk => by have := (R2.out.lt k hk).1; omega) _ _ _).base (by omega)
  · have HV1 : Hid (M.plan b q L.length (sC L) = true) := by have := HVALID.out; rwa [show max q 1 = q by omega] at this
    go_wp2
    refine bodyPost_ret (v := .agg #[.int .i64 b, .int .i64 q, .slice a L.length c]) (by simp [results, Try.results28, go_sem, d0, d1, d2]) rfl ?_
    refine ⟨b, q, _, L, rfl, hv, by omega, ?_, l1, l2, hsm, HV1.out, (S2.out.three (Nat.le_refl _) hr _ _ _).mono (by omega) (by omega)⟩
    exact (SRow.three R2.out (fun k hk => by have := (R2.out.lt k hk).1; omega) _ _ _).base (by omega)

/-- A drawn plan. -/
def PlanOne (w : World) (e : Ending) (w' : World) : Prop := ∃ (b p : Int) (a : Option Addr) (c : Nat) (L : List ByteArray) (B : Nat), e = .returned (.agg #[.int .i64 b, .int .i64 p, .slice a L.length c]) ∧ (-9223372036854775808 ≤ b ∧ b ≤ 9223372036854775807) ∧ (0 ≤ p ∧ p ≤ 5) ∧ SRow w' B (.slice a L.length c) L ∧ L.length ≤ 13 ∧ SmallS 30 L ∧ w.heap.size < B ∧ Below w.heap.size w w'
set_option maxHeartbeats 4000000 in
theorem DrawPlanValid_any (a : Option Addr) (l k : Nat) (z : List Int) (w : World) (h : IsRow .u8 w a l k z) :
    Calls Try.prog 23 #[.slice a l k] w (PlanOne w) := by
  have h' := Lib.hid (h.below (below_alloc0 w (.cells #[.int .i64 0, .int .i64 0, .slice none 0 0] 25)))
  have BY0 := Lib.hid (tri_made w (.int .i64 0) (.int .i64 0) (.slice none 0 0) 25)
  clear h
  go_enter Try.func23, Try.ntmps23
  go_wp2_with fail
  refine (open_any _ _ _ _ _ h'.out).mono ?_
  rintro e w1 ⟨r, rfl, rd1, bl1, hr1⟩
  have BY1 := Lib.hid (BY0.out.on bl1)
  have B1 : Hid (Below w.heap.size w w1) := sstep (below_alloc0 w _) bl1
  have hrw : w.heap.size < r := by simp at hr1; omega
  have RD1 := Lib.hid rd1
  have hrl := rd1.lt
  clear BY0 h' rd1 bl1 hr1
  go_wp2_with fail
  refine (l3Some_any _ r _ RD1.out (by omega)).mono ?_
  rintro e w2 ⟨b, p, v, L, rfl, hb, hp, hrow, l1, l2, hsm, sg2⟩
  obtain ⟨a2, c2, hv, _, _⟩ := hrow.form
  cases hv
  have z2 := sg2.2.size
  have o2 : Only w1 w2 (fun k => k = r) := sg2.only
  have B2 := Lib.hid (B1.out.trans (o2.below (B := w.heap.size) (fun k hk hk2 => by omega) (by have := B1.out.size; omega)))
  have BY2 := Lib.hid (BY1.out.only o2 (by omega))
  have RD2 := Lib.hid sg2.1
  have R2 := Lib.hid hrow
  have HSM := Lib.hid hsm
  clear hrow hsm sg2 o2 BY1 B1 RD1
  go_wp2_with fail
  refine (l3Bad_any _ r _ (w1.heap.size + 1) b p _ c2 L RD2.out (by omega) R2.out (by omega) l1 l2 HSM.out (by omega) hp).mono ?_
  rintro e w9 ⟨b', p', a', c', L', rfl, hb', hp', R9, l9, S9, rd9, o9, _⟩
  have Y9 := Lib.hid (BY2.out.only o9 (fun e => by
    rcases e with e | e
    · omega
    · have := (R2.out.lt _ e).1; omega))
  have B9 := Lib.hid (B2.out.trans (o9.below (B := w.heap.size) (fun k hk hk2 e => by
    rcases e with e | e
    · omega
    · have := (R2.out.lt _ e).1; omega) (by omega)))
  have R9' := Lib.hid R9
  have z9 := o9.size
  clear o9 rd9 R9 BY2 B2 R2 RD2
  obtain ⟨⟨ee0, ee1, ee2⟩, ff0, ff1, ff2⟩ := Y9.out
  have lty := Y9.out.lt
  have hown : Hid (∀ k, (Value.slice a' L'.length c').ownBlock = some k → k ≠ w.heap.size) := fun k hk => by have := (R9'.out.lt k hk).1; omega
  go_wp2
  refine bodyPost_ret (v := .agg #[.int .i64 b', .int .i64 p', .slice a' L'.length c']) (by simp [results, Try.results23, go_sem, ee0, ee1, ee2]) rfl ?_
  exact ⟨b', p', a', c', L', _, rfl, hb', hp', SRow.three R9'.out hown.out _ _ _, l9, S9, by omega, ((B9.out.setCell (by dsimp only; omega) _).setCell (by dsimp only; omega) _).setCell (by dsimp only; omega) _⟩
set_option maxHeartbeats 2000000 in
theorem DrawTurnPlan_any (a : Option Addr) (l k : Nat) (z : List Int) (w : World) (h : IsRow .u8 w a l k z) :
    Calls Try.prog 6 #[.slice a l k] w (PlanOne w) := by
  have h' := Lib.hid (h.below (below_alloc0 w (.cells #[.int .i64 0, .int .i64 0, .slice none 0 0] 25)))
  have BY0 := Lib.hid (tri_made w (.int .i64 0) (.int .i64 0) (.slice none 0 0) 25)
  clear h
  go_enter Try.func6, Try.ntmps6
  go_wp2_with fail
  refine (DrawPlanValid_any _ _ _ _ _ h'.out).mono ?_
  rintro e w1 ⟨b, p, a1, c1, L, B, rfl, hb, hp, R1, l1, S1, hB, b1⟩
  have Y1 := Lib.hid (BY0.out.on b1)
  have B1 : Hid (Below w.heap.size w w1) := sstep (below_alloc0 w _) b1
  have R1' := Lib.hid R1
  have z1 := b1.size
  simp at hB z1
  clear b1 R1 BY0 h'
  obtain ⟨⟨ee0, ee1, ee2⟩, ff0, ff1, ff2⟩ := Y1.out
  have lty := Y1.out.lt
  have hown : Hid (∀ k, (Value.slice a1 L.length c1).ownBlock = some k → k ≠ w.heap.size) := fun k hk => by have := (R1'.out.lt k hk).1; omega
  go_wp2
  refine bodyPost_ret (v := .agg #[.int .i64 b, .int .i64 p, .slice a1 L.length c1]) (by simp [results, Try.results6, go_sem, ee0, ee1, ee2]) rfl ?_
  exact ⟨b, p, a1, c1, L, B, rfl, hb, hp, SRow.three R1'.out hown.out _ _ _, l1, S1, by omega, ((B1.out.setCell (by dsimp only; omega) _).setCell (by dsimp only; omega) _).setCell (by dsimp only; omega) _⟩
end Go.Proofs.Ythnaglnmmgpiaaa
