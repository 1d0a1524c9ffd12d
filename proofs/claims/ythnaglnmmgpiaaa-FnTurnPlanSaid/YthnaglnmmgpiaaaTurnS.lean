/-
  TurnPlan in the model of the document.
-/
import Derived.Test.YthnaglnmmgpiaaaMgN8
import Derived.Maps.AppendAt
import Derived.Deep.AppendLies
namespace Go.Proofs.Ythnaglnmmgpiaaa
open Go.RowKit
set_option linter.unusedVariables false

theorem sst_succ (S : Nat → ByteArray) (k : Nat) : sst S (k + 1) = sst S k ++ [S k] := by simp [sst, List.range_succ]
theorem Tri.only {w w' : World} {b : Nat} {x y z : Value} {T : Nat → Prop} (h : Tri w b x y z) (ho : Only w w' T) (hn : ¬ T b) : Tri w' b x y z := by
  have hlt := h.lt
  have hb := ho.block b hlt hn
  obtain ⟨⟨h0, h1, h2⟩, f0, f1, f2⟩ := h
  have k := fun o => World.cell?_of_block (a := ⟨b, o, none⟩) hb
  have q := fun o => World.frozen?_of_block (a := ⟨b, o, none⟩) hb
  exact ⟨⟨(k 0).trans h0, (k 1).trans h1, (k 2).trans h2⟩, (q 0).trans f0, (q 1).trans f1, (q 2).trans f2⟩
theorem Tri.put2 {w : World} {b : Nat} {x y z : Value} (h : Tri w b x y z) (u : Value) : Tri (w.setCell ⟨b, 2, none⟩ u) b x y u := by
  have hlt := h.lt
  obtain ⟨⟨h0, h1, h2⟩, f0, f1, f2⟩ := h
  refine ⟨⟨?_, ?_, ?_⟩, ?_, ?_, ?_⟩ <;> simp [go_sem, h0, h1, h2, f0, f1, f2]

set_option maxHeartbeats 4000000 in
set_option maxRecDepth 100000 in
theorem spec_TurnPlan (w : World) (b p : Int) (a : Option Addr) (n c : Nat) (S : Nat → ByteArray) (h : Strs w a n S) (hf : SFits n S) (hn : n ≤ 1048576) :
    Calls Try.prog 8 #[.agg #[.int .i64 b, .int .i64 p, .slice a n c]] w (PlanOut w (M.plan b p n S) (tB (M.plan b p n S) b) (tB (M.plan b p n S) p) (tL (M.plan b p n S) n S)) := by
  have HL := Lib.hid ((h.on (below_alloc0 w (.cells #[.int .i64 b, .int .i64 p, .slice a n c] 25))).on (below_alloc0 _ (.cells #[.int .i64 0, .int .i64 0, .slice none 0 0] 25)))
  have HF := Lib.hid hf
  have BX := Lib.hid (two_boxes w (.int .i64 b) (.int .i64 p) (.slice a n c)).1
  have BY := Lib.hid (two_boxes w (.int .i64 b) (.int .i64 p) (.slice a n c)).2
  cases hv : M.plan b p n S
  · have HV := Lib.hid hv
    clear hv h hf
    go_enter Try.func8, Try.ntmps8
    go_wp2_with fail
    refine (spec_PlanValid _ b p a n c S HL.out HF.out hn).mono ?_
    rw [HV.out]
    rintro e w1 ⟨rfl, hb1⟩
    have B1 : Below w.heap.size w w1 := sstep (sstep (below_alloc0 w _) (below_alloc0 _ _)) hb1
    obtain ⟨⟨e0, e1, e2⟩, f0, f1, f2⟩ := BY.out.on hb1
    have hy := (BY.out.on hb1).lt
    go_wp2
    refine bodyPost_ret (v := .tuple #[.agg #[.int .i64 0, .int .i64 0, .slice none 0 0], .bool false]) (by simp [results, Try.results8, go_sem, e0, e1, e2]) rfl ?_
    exact ⟨_, rfl, SRow.nil _ _, by go_grown⟩
  · have HV := Lib.hid hv
    have hfit := M.fits_yes (M.plan_yes hv).1
    have h1 : 1 ≤ n := by omega
    have h60 : n ≤ 60 := by omega
    obtain ⟨ba, oa, rfl, _⟩ := h 0 h1
    obtain ⟨i0, hi, hz0, hz1, hz2⟩ := info_parts info_string
    have hba : ba < w.heap.size := h.lt rfl h1
    clear hv hfit h hf
    go_enter Try.func8, Try.ntmps8
    go_wp2_with fail
    refine (spec_PlanValid _ b p _ n c S HL.out HF.out hn).mono ?_
    rw [HV.out]
    rintro e w1 ⟨rfl, hb1⟩
    have HL1 := Lib.hid (HL.out.on hb1)
    replace BX := Lib.hid (BX.out.on hb1)
    replace BY := Lib.hid (BY.out.on hb1)
    have B1 : Hid (Below w.heap.size w w1) := sstep (sstep (below_alloc0 w _) (below_alloc0 _ _)) hb1
    clear hb1 HL
    obtain ⟨⟨d0, d1, d2⟩, g0, g1, g2⟩ := BX.out
    have hx := BX.out.lt
    have hy := BY.out.lt
    go_wp2
    go_loopw [5] (fun i wr => ∃ (k : Nat) (v : Value), k ≤ n ∧ i = .int .i64 ((n : Int) - 1 - k) ∧ Hid (Tri wr w1.heap.size (.int .i64 b) (.int .i64 p) v) ∧ Hid (SRow wr (w1.heap.size + 1) v (sst (fun t => S (n - 1 - t)) k)) ∧ Hid (Below w1.heap.size w1 wr) ∧ w1.heap.size < wr.heap.size) (fun i _ => (intOf i + 1).toNat)
    case atStart =>
      refine ⟨0, .slice none 0 0, Nat.zero_le _, by go_num, ?_, SRow.nil _ _, below_alloc0 _ _, by simp⟩
      refine ⟨⟨?_, ?_, ?_⟩, ?_, ?_, ?_⟩ <;> simp [go_sem]
    case round =>
      obtain ⟨k, v, hk, rfl, ht, hr, hb, hz⟩ := hrel
      have BX2 := Lib.hid (BX.out.on hb.out)
      have BY2 := Lib.hid (BY.out.on hb.out)
      obtain ⟨⟨t0, t1, t2⟩, u0, u1, u2⟩ := ht.out
      clear d0 d1 d2 g0 g1 g2
      obtain ⟨⟨d0, d1, d2⟩, g0, g1, g2⟩ := BX2.out
      by_cases hlt : k < n
      · have hj : (n : Int) - 1 - k = ((n - 1 - k : Nat) : Int) := by omega
        obtain ⟨m, hm⟩ : ∃ m, n - 1 - k = m := ⟨_, rfl⟩
        rw [hm] at hj
        rw [hj]
        have hmn : m < n := by omega
        obtain ⟨b', o', e', c1⟩ := (HL1.out.on hb.out) m hmn
        cases e'
        obtain ⟨y, hyy⟩ : ∃ y, S m = y := ⟨_, rfl⟩
        rw [hyy] at c1
        have HYY : Hid (sst (fun t => S (n - 1 - t)) k ++ [y] = sst (fun t => S (n - 1 - t)) (k + 1)) := by
          rw [Hid, sst_succ, hm, hyy]
        have HM := Lib.hid hm
        obtain ⟨a2, cc, rfl, hlc, _⟩ := hr.out.form
        have hll := sst_length (fun t => S (n - 1 - t)) k
        obtain ⟨LL, hLL⟩ : ∃ LL, sst (fun t => S (n - 1 - t)) k = LL := ⟨_, rfl⟩
        rw [hLL] at hr HYY hll t2 ht
        rw [hll] at t2 ht hr
        have HR2 : Hid (wr.ownsRow (w1.heap.size + 1) 9 1 (.slice a2 k cc) k (scells LL)) := by
          have := hr.out
          unfold SRow at this
          rw [hll] at this
          exact this
        have HRow : Hid (∀ q, (Value.slice a2 k cc).ownBlock = some q → w1.heap.size + 1 ≤ q ∧ q < wr.heap.size) := fun q hq => hr.out.lt q hq
        have HLEN := Lib.hid hll
        have hw1 : w1.heap.size ≠ wr.heap.size := by omega
        have hw0 : w.heap.size ≠ wr.heap.size := by omega
        have hba2 : ba ≠ wr.heap.size := by omega
        clear hm hj hyy hLL hll hlc
        go_wp2
        go_region_law (refine step_append_lies _ (by rfl) _ _ 23 (by rfl) (w1.heap.size + 1) 9 i0 _ 1 16 Try.underlying23 hi hz0 hz1 hz2 rfl (by decide) _ k (scells LL) (by rfl) (World.ownsRow.alloc (show _ from HR2.out) _) ⟨wr.heap.size, 0, none⟩ 1 1 [.string y] (by rfl) rfl (by intro j u hu; match j, hu with | 0, hu => (simp at hu; first | (subst hu; simp [Addr.add]) | skip)) (by intro u hu; simp at hu; subst hu; rfl) (by decide) (by unfold maxLen; omega) (by first | omega | simp) (by first | (simp; done) | (simp; omega)) (wr.heap.size + 1) (by simp) ?_; intro g' cap w3 hown hgrow hat hlt3; have o3 : Only wr w3 (fun q => (Value.slice a2 k cc).ownBlock = some q) := (by refine Only.trans ?_ ((Only.of_grown hgrow).mono (T := fun q => (Value.slice a2 k cc).ownBlock = some q) (fun x _ e => e.symm)) (fun _ _ h => h); exact Only.new (by first | exact ((Below.refl _ _).alloc (Nat.le_refl _) _).drew | exact ((Below.refl _ _).drew.alloc (Nat.le_refl _) _) | go_grown)); have T3 := Lib.hid (ht.out.only o3 (fun e => by have := (HRow.out _ e).1; omega)); obtain ⟨⟨s0, s1, s2⟩, v0, v1, v2⟩ := T3.out; have HO := Lib.hid hown; have O3 := Lib.hid o3; have HA : Hid ((Value.slice a2 k cc).ownBlock = some g' ∨ g' = wr.heap.size + 1) := hat; clear hown hgrow o3 hat)
        all_goals
          have hg1 : w1.heap.size + 1 ≤ g' := by
            rcases HA.out with e | e
            · exact (HRow.out _ e).1
            · omega
          have HRW : SRow w3 (w1.heap.size + 1) (.slice (some ⟨g', 0, none⟩) (k + 1) cap) (LL ++ [y]) := by
            unfold SRow
            rw [scells_append, List.length_append, HLEN.out]
            exact HO.out
          have HR4 : Hid (SRow (w3.setCell ⟨w1.heap.size, 2, none⟩ (.slice (some ⟨g', 0, none⟩) (k + 1) cap)) (w1.heap.size + 1) (.slice (some ⟨g', 0, none⟩) (k + 1) cap) (sst (fun t => S (n - 1 - t)) (k + 1))) := by
            rw [← HYY.out]
            exact HRW.set (fun q hq => by have e : g' = q := by simpa [Value.ownBlock] using hq
                                          show q ≠ w1.heap.size
                                          omega) _
          have HT4 := Lib.hid (T3.out.put2 (.slice (some ⟨g', 0, none⟩) (k + 1) cap))
          have HB3 : Hid (Below w1.heap.size w1 w3) := hb.out.trans (O3.out.below (B := w1.heap.size) (fun q hq _ e => by have := (HRow.out _ e).1; omega) (by omega))
          have HB4 : Hid (Below w1.heap.size w1 (w3.setCell ⟨w1.heap.size, 2, none⟩ (.slice (some ⟨g', 0, none⟩) (k + 1) cap))) := HB3.out.setCell (Nat.le_refl _) _
          have z3 := O3.out.size
          clear t0 t1 t2 u0 u1 u2 d0 d1 d2 g0 g1 g2 s0 s1 s2 v0 v1 v2
          go_wp2
          go_roundw
          case rel => exact ⟨k + 1, _, by omega, by have := HM.out; go_num, HT4, HR4, HB4, by simp; omega⟩
          case measure => first | (simp [intOf]; done) | (simp [intOf]; omega)
      · obtain rfl : k = n := by omega
        obtain ⟨⟨e0, e1, e2⟩, f0, f1, f2⟩ := BY2.out
        have hj1 : (k : Int) - 1 - k = -1 := by omega
        rw [hj1]
        clear hj1
        have hy2 := BY2.out.lt
        have B2 : Below w.heap.size w wr := sstep B1.out hb.out
        obtain ⟨a2, cc, rfl, hlc, _⟩ := hr.out.form
        rw [sst_length] at hr t2
        clear ht hlc
        have hvy : ∀ q, (Value.slice a2 k cc).ownBlock = some q → q ≠ w.heap.size + 1 := fun q hq => by have := (hr.out.lt q hq).1; omega
        go_wp2
        refine bodyPost_ret (v := .tuple #[.agg #[.int .i64 b, .int .i64 p, .slice a2 k cc], .bool true]) (by simp [results, Try.results8, go_sem, e0, e1, e2]) rfl ?_
        refine ⟨_, rfl, ?_, by go_grown⟩
        refine SRow.base ?_ (show w.heap.size ≤ w1.heap.size + 1 by omega)
        exact ((hr.out.set hvy _).set hvy _).set hvy _
end Go.Proofs.Ythnaglnmmgpiaaa
