/-
  ParsePlan, in the program and in the model of the document.
-/
import Derived.Test.YtjabpidmfgcamaaDoorPlnO
import Derived.Test.YtjabpidmfgcamaaDoorBatP
namespace Go.Proofs.YtjabpidmfgcamaaDoor
open Go.RowKit
open Go.PlainAid (bt get_bt bt_nonneg bt_le)
set_option linter.unusedVariables false

def planPOut (W : World) (ok : Bool) (b p : Int) (L : List ByteArray) (e : Ending) (w' : World) : Prop := ∃ a c, e = .returned (.tuple #[.agg #[.int .i64 b, .int .i64 p, .slice a L.length c], .bool ok]) ∧ ORow w' W.heap.size (.slice a L.length c) L ∧ Below W.heap.size W w'
theorem planP_no {W w' : World} {ok : Bool} {b p : Int} {L : List ByteArray} (h : ok = false ∧ b = 0 ∧ p = 0 ∧ L = []) (hb : Below W.heap.size W w') : planPOut W ok b p L (.returned (.tuple #[.agg #[.int .i64 0, .int .i64 0, .slice none 0 0], .bool false])) w' := by
  obtain ⟨rfl, rfl, rfl, rfl⟩ := h
  exact ⟨none, 0, rfl, ORow.nil _ _, hb⟩
theorem planP_yes {W w' : World} {ok : Bool} {b p x y : Int} {L R : List ByteArray} {a : Option Addr} {n c : Nat} (h : ok = true ∧ b = x ∧ p = y ∧ L = R) (hn : R.length = n) (hr : ORow w' W.heap.size (.slice a n c) R) (hb : Below W.heap.size W w') : planPOut W ok b p L (.returned (.tuple #[.agg #[.int .i64 x, .int .i64 y, .slice a n c], .bool true])) w' := by
  obtain ⟨rfl, rfl, rfl, rfl⟩ := h
  subst hn
  exact ⟨a, c, rfl, hr, hb⟩
theorem ORow.set3 {w : World} {base B : Nat} {v x y z : Value} {L : List ByteArray} (h : ORow w base v L) (hne : ∀ b, v.ownBlock = some b → b ≠ B) : ORow (((w.setCell ⟨B, 0, none⟩ x).setCell ⟨B, 1, none⟩ y).setCell ⟨B, 2, none⟩ z) base v L := ((h.set hne _).set hne _).set hne _
/-- The rest of a row of strings, from the third on. -/
theorem strs_tail2 (g n c : Nat) (h1 : 2 ≤ n) (h2 : n ≤ c) :
    ∃ a' : Option Addr, (∀ w, (Instr.slice 23 (.slice (some ⟨g, 0, none⟩) n c) (some (.int .i64 2)) none none).run Tryd.prog w = .ok (.slice a' (n - 2) (c - 2)) w) ∧ (3 ≤ n → a' = some ⟨g, 2, none⟩) := by
  have he : Tryd.prog.underlying 23 = some (.slice (Tryd.prog.elem 23)) := by kernel_rfl
  have hz : ∀ w, (sizeOf (Tryd.prog.elem 23)).run Tryd.prog w = .ok 1 w := fun w => by kernel_rfl
  by_cases hc : c = 2
  · refine ⟨some ⟨g, 0, none⟩, fun w => ?_, fun h => absurd h (by omega)⟩
    rw [run_slice_l w _ _ _ _ he .i64 2 (by omega) (by omega), hz]
    simp [sliced, Result.andThen, hc]
  · refine ⟨some ⟨g, 2, none⟩, fun w => ?_, fun _ => rfl⟩
    rw [run_slice_l w _ _ _ _ he .i64 2 (by omega) (by omega), hz]
    simp [sliced, Result.andThen, Addr.add, hc]
theorem oat_tail {w : World} {g n c base : Nat} {P : List ByteArray} {a' : Option Addr} (h : OAt w g 0 P) (hn : P.length = n) (hb : base ≤ g) (hg : g < w.heap.size) (ha : 3 ≤ n → a' = some ⟨g, 2, none⟩) (h2 : 3 ≤ n) : ORow w base (.slice a' (n - 2) (c - 2)) (P.drop 2) := by
  rw [ha h2]
  refine Or.inr ⟨g, 2, c - 2, by rw [List.length_drop, hn], hb, hg, fun i hi => ?_⟩
  rw [List.length_drop] at hi
  have := h (2 + i) (by omega)
  rw [Nat.zero_add] at this
  rw [List.getElem_drop]
  exact this
theorem srow_oat {w : World} {base : Nat} {v : Value} {P : List ByteArray} (h : SRow w base v P) (h0 : 0 < P.length) : ∃ g c, v = .slice (some ⟨g, 0, none⟩) P.length c ∧ P.length ≤ c ∧ base ≤ g ∧ g < w.heap.size ∧ OAt w g 0 P := by
  rcases h.cases with ⟨_, rfl⟩ | ⟨g, c, rfl, hb, hg, hc⟩
  · exact absurd h0 (by simp)
  · exact ⟨g, c, rfl, hc, hb, hg, fun i hi => by rw [Nat.zero_add]; exact h.cellAt i hi⟩
theorem split_oat (c : UInt8) (s : ByteArray) (w : World) (hM : MaxL w) (hs : s.size ≤ 1048576) :
    Calls Tryd.prog 20 #[.string s, .string ⟨#[c]⟩] w fun e w' => ∃ g, e = .returned (.slice (some ⟨g, 0, none⟩) (M.bparts c s).length (M.bparts c s).length) ∧ w.heap.size ≤ g ∧ g < w'.heap.size ∧ OAt w' g 0 (M.bparts c s) ∧ Below w.heap.size w w' := by
  obtain ⟨m, hm⟩ := hM
  have h1 := M.split_lib c s.size s (Nat.le_refl _)
  have h2 := M.bparts_count c s.size s (Nat.le_refl _)
  refine (Tryd.strings_Split s ⟨#[c]⟩ m w (by omega) hm (Nat.le_refl 1)).mono ?_
  rintro e w' ⟨rfl, rfl⟩
  rw [h1, h2]
  refine ⟨_, rfl, Nat.le_refl _, by simp, fun i hi => ?_, below_alloc0 w _⟩
  rw [Nat.zero_add]
  simp [go_sem, hi]

set_option maxHeartbeats 2000000 in
set_option maxRecDepth 100000 in
theorem spec_ParsePlan (t : ByteArray) (w : World) (ht : t.size ≤ 1048576) (ok : Bool) (b p : Int) (L : List ByteArray) (hi : PlanIs t ok b p L) :
    Calls Tryd.prog 11 #[.string t] w (planPOut w ok b p L) := by
  have HI := Lib.hid hi
  clear hi
  obtain ⟨P, hP⟩ : ∃ P, M.bparts 32 t = P := ⟨_, rfl⟩
  have HP := Lib.hid hP
  obtain ⟨n, hn⟩ : ∃ n, P.length = n := ⟨_, rfl⟩
  have HN := Lib.hid hn
  have n0 : 0 < n := by rw [← hn, ← hP]; exact M.bparts_pos 32 t
  have n1 : n ≤ 1048577 := by rw [← hn, ← hP]; have := M.bparts_len 32 t; omega
  have HSZ : Hid (∀ i, i < n → (sC P i).size ≤ 1048576) := fun i hi => by
    rw [sC_at (by omega)]
    have := M.bparts_mem (c := 32) (s := t) (p := P[i]'(by omega)) (by rw [hP]; exact List.getElem_mem _)
    omega
  have HC : Hid (∀ W : World, Calls Tryd.prog 26 #[.string t, .int .u8 32] W (SRowOut W P)) := fun W => by rw [← hP]; exact spec_l9Cut t 32 32 (by rfl) W ht
  have BY := Lib.hid (tri_made w (.int .i64 0) (.int .i64 0) (.slice none 0 0) 25)
  have B0 := Lib.hid (below_alloc0 w (.cells #[.int .i64 0, .int .i64 0, .slice none 0 0] 25))
  clear hP hn
  go_enter Tryd.func11, Tryd.ntmps11
  go_wp2_with fail
  refine (HC.out _).mono ?_
  rintro e w2 ⟨v, rfl, r2, hb2⟩
  obtain ⟨g, c, rfl, hnc, hbg, hgl, hat⟩ := srow_oat r2 (by rw [HN.out]; exact n0)
  rw [HN.out] at hnc ⊢
  replace BY := Lib.hid (BY.out.on hb2)
  have B2 := Lib.hid (sstep B0.out hb2)
  have z2 := hb2.size
  have hbg2 : w.heap.size < g := by simp at hbg; omega
  have HAT := Lib.hid hat
  clear r2 hb2 hat B0 hbg HC
  obtain ⟨⟨e0, e1, e2⟩, f0, f1, f2⟩ := BY.out
  have hy := BY.out.lt
  by_cases h3 : n < 3
  · have h3i : (n : Int) < 3 := by omega
    have HNO := Lib.hid (plan_no HI.out (plan_few (by rw [HP.out, HN.out]; exact h3)))
    have B2' := B2.out
    go_wp2
    refine bodyPost_ret (v := .tuple #[.agg #[.int .i64 0, .int .i64 0, .slice none 0 0], .bool false]) (by simp [results, Tryd.results11, go_sem, e0, e1, e2]) rfl ?_
    exact planP_no HNO.out (by go_grown)
  have h3i : ¬ (n : Int) < 3 := by omega
  obtain ⟨a', hsl, ha⟩ := strs_tail2 g n c (by omega) hnc
  have HA := Lib.hid ha
  have c0 : w2.cell? ⟨g, 0, none⟩ = some (.string (sC P 0)) := by rw [sC_at (by rw [HN.out]; omega)]; simpa using (HAT.out 0 (by rw [HN.out]; omega)).1
  have c1 : w2.cell? ⟨g, 1, none⟩ = some (.string (sC P 1)) := by rw [sC_at (by rw [HN.out]; omega)]; simpa using (HAT.out 1 (by rw [HN.out]; omega)).1
  have hs0 := HSZ.out 0 (by omega)
  have hs1 := HSZ.out 1 (by omega)
  have HOTH : Hid (∀ x y, NFit (sC P 0) x → NFit (sC P 1) y → ¬ PlanOf t x y (P.drop 2) → ∀ b p L, ¬ PlanOf t b p L) := fun x y hx hy h => by
    have := plan_other (t := t) (x := x) (y := y)
    rw [HP.out] at this
    exact this hx hy h
  obtain ⟨p0, hp0⟩ : ∃ p0, sC P 0 = p0 := ⟨_, rfl⟩
  obtain ⟨p1, hp1⟩ : ∃ p1, sC P 1 = p1 := ⟨_, rfl⟩
  rw [hp0] at c0 hs0 HOTH
  rw [hp1] at c1 hs1 HOTH
  have HR : Hid (ORow w2 (w.heap.size + 1) (.slice a' (n - 2) (c - 2)) (P.drop 2)) := oat_tail HAT.out HN.out (by omega) hgl ha (by omega)
  have HRL : Hid ((P.drop 2).length = n - 2) := by rw [Hid, List.length_drop, HN.out]
  have HFT : Hid (SFits (n - 2) (sC (P.drop 2))) := fun i hi => by
    rw [sC_at (by rw [HRL.out]; exact hi), List.getElem_drop]
    have := HSZ.out (2 + i) (by omega)
    rw [sC_at (by rw [HN.out]; omega)] at this
    unfold maxLen
    omega
  obtain ⟨m, hm⟩ : ∃ m, n - 2 = m := ⟨_, rfl⟩
  obtain ⟨R, hR⟩ : ∃ R, P.drop 2 = R := ⟨_, rfl⟩
  have hm1 : m ≤ 1048576 := by omega
  rw [hm] at hsl HR HRL HFT
  rw [hR] at HR HRL HFT HOTH
  clear hp0 hp1 ha hm hR
  go_wp2_with fail
  refine (spec_num p0 w2 hs0).mono ?_
  rintro e w3 ⟨x, y0, rfl, x0, x1, hx, rfl⟩
  have HX : Hid (NFit p0 x) := hx
  clear hx hs0
  go_wp2_with fail
  refine (spec_num p1 w2 hs1).mono ?_
  rintro e w3 ⟨y, y1, rfl, q0, q1, hyy, rfl⟩
  have HY : Hid (NFit p1 y) := hyy
  clear hyy hs1
  have BP := Lib.hid (tri_made w2 (.int .i64 x) (.int .i64 y) (.slice a' m (c - 2)) 25)
  have BZ := Lib.hid (below_alloc0 w2 (.cells #[.int .i64 x, .int .i64 y, .slice a' m (c - 2)] 25))
  obtain ⟨W4, hW4⟩ : ∃ W4, w2.alloc (.cells #[.int .i64 x, .int .i64 y, .slice a' m (c - 2)] 25) = W4 := ⟨_, rfl⟩
  rw [hW4] at BP BZ
  have HW4 := Lib.hid hW4
  have HFM : Hid (∀ W, Strs W a' m (sC R) → Calls Tryd.prog 6 #[.agg #[.int .i64 x, .int .i64 y, .slice a' m (c - 2)]] W fun e w' => e = .returned (.string (M.planText x y m (sC R))) ∧ Below W.heap.size W w') := fun W hs => spec_FormatPlan W x y a' m (c - 2) (sC R) hs HFT.out hm1
  have HSR : Hid (Strs W4 a' m (sC R)) := by
    obtain ⟨a2, c2, e, hs⟩ := HR.out.form
    rw [HRL.out] at e hs
    cases e
    exact hs.on BZ.out
  obtain ⟨u, hu⟩ : ∃ u, M.planText x y m (sC R) = u := ⟨_, rfl⟩
  have HU := Lib.hid hu
  rw [hu] at HFM
  clear hu hW4
  go_wp2_with fail
  rw [HW4.out]
  refine (HFM.out _ HSR.out).mono ?_
  rintro e w5 ⟨rfl, hb5⟩
  replace BP := Lib.hid (BP.out.on hb5)
  have B5 : Hid (Below w.heap.size w w5) := (sstep (sstep B2.out BZ.out) hb5)
  have BZ5 : Hid (Below w2.heap.size w2 w5) := sstep BZ.out hb5
  have BY5 := Lib.hid ((BY.out.on BZ.out).on hb5)
  clear e0 e1 e2 f0 f1 f2 c0 c1
  obtain ⟨⟨e0, e1, e2⟩, f0, f1, f2⟩ := BY5.out
  obtain ⟨⟨d0, d1, d2⟩, g0, g1, g2⟩ := BP.out
  have hy5 := BY5.out.lt
  have B5' := B5.out
  by_cases hut : u = t
  · have hee : (u.toList == t.toList) = true := by rw [hut]; simp
    have hne : (u.toList != t.toList) = false := by rw [bne, hee]; rfl
    have hv : M.plan x y m (sC R) = true := by
      cases e : M.plan x y m (sC R)
      · exfalso
        have h1 : u = ⟨#[]⟩ := by
          rw [← HU.out]
          unfold M.planText
          rw [e]
          rfl
        have h2 := M.bparts_len 32 t
        rw [HP.out, HN.out, ← hut, h1] at h2
        have h4 : (⟨#[]⟩ : ByteArray).size = 0 := rfl
        omega
      · rfl
    have HPO : PlanOf t x y R := ⟨by rw [HRL.out]; exact hv, by rw [HRL.out, HU.out, hut]⟩
    have HYES := Lib.hid (plan_same HI.out HPO)
    have HR5 := Lib.hid (HR.out.on BZ5.out)
    have HOW : Hid (∀ b, (Value.slice a' m (c - 2)).ownBlock = some b → b ≠ w.heap.size) := fun b e => by have := (HR.out.lt b e).1; omega
    clear hut hv HPO
    go_wp2
    refine bodyPost_ret (v := .tuple #[.agg #[.int .i64 x, .int .i64 y, .slice a' m (c - 2)], .bool true]) (by simp [results, Tryd.results11, go_sem, e0, e1, e2]) rfl ?_
    exact planP_yes HYES.out HRL.out ((HR5.out.lower (by omega)).set3 HOW.out) (by go_grown)
  · have hee := neq_txt hut
    have hne : (u.toList != t.toList) = true := by rw [bne, hee]; rfl
    have HNO := Lib.hid (plan_no HI.out (HOTH.out x y HX.out HY.out fun h => by
      have h1 := h.2
      rw [HRL.out, HU.out] at h1
      exact hut h1))
    clear hut
    go_wp2
    refine bodyPost_ret (v := .tuple #[.agg #[.int .i64 0, .int .i64 0, .slice none 0 0], .bool false]) (by simp [results, Tryd.results11, go_sem, e0, e1, e2]) rfl ?_
    exact planP_no HNO.out (by go_grown)

set_option maxHeartbeats 4000000 in
set_option maxRecDepth 100000 in
theorem impl_ParsePlan (t : ByteArray) (w : World) (hT : PowT w) (hM : MaxL w) (hE : ErrT w) (ht : t.size ≤ 1048576) (ok : Bool) (b p : Int) (L : List ByteArray) (hi : PlanIs t ok b p L) :
    Calls Tryd.prog 8 #[.string t] w (planPOut w ok b p L) := by
  have HI := Lib.hid hi
  clear hi
  obtain ⟨P, hP⟩ : ∃ P, M.bparts 32 t = P := ⟨_, rfl⟩
  have HP := Lib.hid hP
  obtain ⟨n, hn⟩ : ∃ n, P.length = n := ⟨_, rfl⟩
  have HN := Lib.hid hn
  have n1 : n ≤ 1048577 := by rw [← hn, ← hP]; have := M.bparts_len 32 t; omega
  have HSZ : Hid (∀ i, i < n → (sC P i).size ≤ 1048576) := fun i hi => by
    rw [sC_at (by omega)]
    have := M.bparts_mem (c := 32) (s := t) (p := P[i]'(by omega)) (by rw [hP]; exact List.getElem_mem _)
    omega
  have BY := Lib.hid (tri_made w (.int .i64 0) (.int .i64 0) (.slice none 0 0) 25)
  have B0 := Lib.hid (below_alloc0 w (.cells #[.int .i64 0, .int .i64 0, .slice none 0 0] 25))
  have HC := Lib.hid (split_oat 32 t (w.alloc (.cells #[.int .i64 0, .int .i64 0, .slice none 0 0] 25)) (hM.below B0.out) ht)
  rw [hP, hn] at HC
  have HPT := Lib.hid hT
  have HE := Lib.hid hE
  clear hP hn hT hM hE
  go_enter Tryd.func8, Tryd.ntmps8
  go_wp2_with fail
  refine HC.out.mono ?_
  rintro e w1 ⟨g, rfl, hbg, hgl, hat, hb1⟩
  replace BY := Lib.hid (BY.out.on hb1)
  have B1 := Lib.hid (sstep B0.out hb1)
  have z1 := hb1.size
  have hbg2 : w.heap.size < g := by simp at hbg; omega
  have HAT := Lib.hid hat
  clear hb1 hat B0 hbg HC
  obtain ⟨⟨e0, e1, e2⟩, f0, f1, f2⟩ := BY.out
  have hy := BY.out.lt
  by_cases h2 : n < 2
  · have h2i : (n : Int) < 2 := by omega
    have HNO := Lib.hid (plan_no HI.out (plan_few (by rw [HP.out, HN.out]; omega)))
    have B1' := B1.out
    go_wp2
    refine bodyPost_ret (v := .tuple #[.agg #[.int .i64 0, .int .i64 0, .slice none 0 0], .bool false]) (by simp [results, Tryd.results8, go_sem, e0, e1, e2]) rfl ?_
    exact planP_no HNO.out (by go_grown)
  have h2i : ¬ (n : Int) < 2 := by omega
  obtain ⟨a', hsl, ha⟩ := strs_tail2 g n n (by omega) (Nat.le_refl n)
  have c0 : w1.cell? ⟨g, 0, none⟩ = some (.string (sC P 0)) := by rw [sC_at (by rw [HN.out]; omega)]; simpa using (HAT.out 0 (by rw [HN.out]; omega)).1
  have c1 : w1.cell? ⟨g, 1, none⟩ = some (.string (sC P 1)) := by rw [sC_at (by rw [HN.out]; omega)]; simpa using (HAT.out 1 (by rw [HN.out]; omega)).1
  have hs0 := HSZ.out 0 (by omega)
  have hs1 := HSZ.out 1 (by omega)
  have HOTH : Hid (∀ x y, NFit (sC P 0) x → NFit (sC P 1) y → ¬ PlanOf t x y (P.drop 2) → ∀ b p L, ¬ PlanOf t b p L) := fun x y hx hy h => by
    have := plan_other (t := t) (x := x) (y := y)
    rw [HP.out] at this
    exact this hx hy h
  have HW0 : Hid ((∀ x, Lib.atoiAll (sC P 0).data.toList ≠ .ok x) → ∀ b p L, ¬ PlanOf t b p L) := fun h => plan_word0 (by rw [HP.out]; exact h)
  have HW1 : Hid ((∀ x, Lib.atoiAll (sC P 1).data.toList ≠ .ok x) → ∀ b p L, ¬ PlanOf t b p L) := fun h => plan_word1 (by rw [HP.out]; exact h)
  obtain ⟨p0, hp0⟩ : ∃ p0, sC P 0 = p0 := ⟨_, rfl⟩
  obtain ⟨p1, hp1⟩ : ∃ p1, sC P 1 = p1 := ⟨_, rfl⟩
  rw [hp0] at c0 hs0 HOTH HW0
  rw [hp1] at c1 hs1 HOTH HW1
  have HR : Hid (3 ≤ n → ORow w1 (w.heap.size + 1) (.slice a' (n - 2) (n - 2)) (P.drop 2)) := fun h3 => oat_tail HAT.out HN.out (by omega) hgl ha h3
  have HRL : Hid ((P.drop 2).length = n - 2) := by rw [Hid, List.length_drop, HN.out]
  have HFT : Hid (SFits (n - 2) (sC (P.drop 2))) := fun i hi => by
    rw [sC_at (by rw [HRL.out]; exact hi), List.getElem_drop]
    have := HSZ.out (2 + i) (by omega)
    rw [sC_at (by rw [HN.out]; omega)] at this
    unfold maxLen
    omega
  obtain ⟨m, hm⟩ : ∃ m, n - 2 = m := ⟨_, rfl⟩
  obtain ⟨R, hR⟩ : ∃ R, P.drop 2 = R := ⟨_, rfl⟩
  have hm1 : m ≤ 1048576 := by omega
  have hm3 : 1 ≤ m → 3 ≤ n := by omega
  rw [hm] at hsl HR HRL HFT
  rw [hR] at HR HRL HFT HOTH
  have HM3 := Lib.hid hm3
  have HE1 := Lib.hid (HE.out.below B1.out)
  clear hp0 hp1 ha hm hR hm3 HE
  go_wp2_with fail
  refine (atoi_any p0 w1 HE1.out hs0).mono ?_
  have FIN : Hid (∀ (w3 : World), Below w1.heap.size w1 w3 → Tri w3 w.heap.size (.int .i64 0) (.int .i64 0) (.slice none 0 0) ∧ Below w.heap.size w w3) := fun w3 hb => ⟨BY.out.on hb, sstep B1.out hb⟩
  rintro e w2 (⟨x, hx, rfl, hb2⟩ | ⟨x, tq, q, hx, rfl, hb2⟩)
  · have HX : Hid (NFit p0 x) := nfit_read hx
    obtain ⟨x0, x1⟩ := atoi_bd hx
    have z2 := hb2.size
    have d1 := (hb2.cell (p := ⟨g, 1, none⟩) hgl).trans c1
    have HE2 := Lib.hid (HE1.out.below hb2)
    have K2 := Lib.hid hb2
    clear hx hb2 c0 c1 e0 e1 e2 f0 f1 f2 hs0
    go_wp2_with fail
    refine (atoi_any p1 w2 HE2.out hs1).mono ?_
    rintro e w3 (⟨y, hyy, rfl, hb3⟩ | ⟨y, tq, q, hyy, rfl, hb3⟩)
    · have HY : Hid (NFit p1 y) := nfit_read hyy
      obtain ⟨q0, q1⟩ := atoi_bd hyy
      have K3 := Lib.hid (sstep K2.out hb3)
      clear hyy hb3 d1 hs1
      have BY3 := Lib.hid (FIN.out w3 K3.out).1
      have B3 := Lib.hid (FIN.out w3 K3.out).2
      have BP := Lib.hid (tri_made w3 (.int .i64 x) (.int .i64 y) (.slice a' m m) 25)
      have BZ := Lib.hid (below_alloc0 w3 (.cells #[.int .i64 x, .int .i64 y, .slice a' m m] 25))
      obtain ⟨W4, hW4⟩ : ∃ W4, w3.alloc (.cells #[.int .i64 x, .int .i64 y, .slice a' m m] 25) = W4 := ⟨_, rfl⟩
      rw [hW4] at BP BZ
      have HW4 := Lib.hid hW4
      have K4 := Lib.hid (sstep K3.out BZ.out)
      have B4 := Lib.hid (sstep B3.out BZ.out)
      have BY4 := Lib.hid (BY3.out.on BZ.out)
      have HSR : Hid (Strs W4 a' m (sC R)) := fun i hi => by
        obtain ⟨a2, c2, e, hs⟩ := (HR.out (HM3.out (by omega))).form
        rw [HRL.out] at e hs
        cases e
        exact hs.on K4.out i hi
      have HPT4 := Lib.hid (PowT.below HPT.out B4.out)
      clear hW4
      cases hv : M.plan x y m (sC R)
      · have HV := Lib.hid hv
        have HNO := Lib.hid (plan_no HI.out (HOTH.out x y HX.out HY.out fun h => by
          have h1 := h.1
          rw [HRL.out, HV.out] at h1
          cases h1))
        clear hv
        go_wp2_with fail
        rw [HW4.out]
        refine (impl_PlanValid W4 x y a' m m (sC R) HSR.out HFT.out hm1).mono ?_
        rw [HV.out]
        rintro e w5 ⟨rfl, hb5⟩
        have B5 := sstep B4.out hb5
        have BY5 := Lib.hid (BY4.out.on hb5)
        obtain ⟨⟨e0, e1, e2⟩, f0, f1, f2⟩ := BY5.out
        have hy5 := BY5.out.lt
        go_wp2
        refine bodyPost_ret (v := .tuple #[.agg #[.int .i64 0, .int .i64 0, .slice none 0 0], .bool false]) (by simp [results, Tryd.results8, go_sem, e0, e1, e2]) rfl ?_
        exact planP_no HNO.out (by go_grown)
      · have HV := Lib.hid hv
        have hmm := (plan_sizes hv).1
        have hm0 := M.fits_yes (M.plan_yes hv).1
        have HR3 := Lib.hid (HR.out (HM3.out (by omega)))
        obtain ⟨u, hu⟩ : ∃ u, M.planText x y m (sC R) = u := ⟨_, rfl⟩
        have HU := Lib.hid hu
        have HVC := Lib.hid (impl_PlanValid W4 x y a' m m (sC R) HSR.out HFT.out hm1)
        rw [hv] at HVC
        have HFM : Hid (∀ W, Below W4.heap.size W4 W → Calls Tryd.prog 5 #[.agg #[.int .i64 x, .int .i64 y, .slice a' m m]] W fun e w' => e = .returned (.string u) ∧ Below W.heap.size W w') := fun W hb => by
          have := impl_FormatPlan W x y a' m m (sC R) (PowT.below HPT4.out hb) (HSR.out.on hb) HFT.out hm1
          rw [hu] at this
          exact this
        clear hv hu hmm hm0
        have BP4 := BP
        obtain ⟨⟨d0, d1, d2⟩, g0, g1, g2⟩ := BP.out
        have hp4 := BP.out.lt
        by_cases hut : u = t
        · have hee : (u.toList == t.toList) = true := by rw [hut]; simp
          have hne : (u.toList != t.toList) = false := by rw [bne, hee]; rfl
          have HPO : PlanOf t x y R := ⟨by rw [HRL.out]; exact HV.out, by rw [HRL.out, HU.out, hut]⟩
          have HYES := Lib.hid (plan_same HI.out HPO)
          have HOW : Hid (∀ b, (Value.slice a' m m).ownBlock = some b → b ≠ w.heap.size) := fun b e => by have := (HR3.out.lt b e).1; omega
          clear hut HPO
          go_wp2_with fail
          rw [HW4.out]
          refine HVC.out.mono ?_
          rintro e w5 ⟨rfl, hb5⟩
          have BP5 := Lib.hid (BP4.out.on hb5)
          have K5 := Lib.hid hb5
          clear d0 d1 d2 g0 g1 g2 hb5
          obtain ⟨⟨d0, d1, d2⟩, g0, g1, g2⟩ := BP5.out
          have hp5 := BP5.out.lt
          go_wp2_with fail
          refine (HFM.out _ K5.out).mono ?_
          rintro e w6 ⟨rfl, hb6⟩
          have K6 := Lib.hid (sstep K5.out hb6)
          have BP6 := Lib.hid (BP4.out.on K6.out)
          have BY6 := Lib.hid (BY4.out.on K6.out)
          have B6 := sstep B4.out K6.out
          have HR6 := Lib.hid ((HR3.out.on K4.out).on K6.out)
          clear d0 d1 d2 g0 g1 g2 hb6
          obtain ⟨⟨d0, d1, d2⟩, g0, g1, g2⟩ := BP6.out
          obtain ⟨⟨e0, e1, e2⟩, f0, f1, f2⟩ := BY6.out
          have hy6 := BY6.out.lt
          go_wp2
          refine bodyPost_ret (v := .tuple #[.agg #[.int .i64 x, .int .i64 y, .slice a' m m], .bool true]) (by simp [results, Tryd.results8, go_sem, e0, e1, e2]) rfl ?_
          exact planP_yes HYES.out HRL.out ((HR6.out.lower (by omega)).set3 HOW.out) (by go_grown)
        · have hee := neq_txt hut
          have hne : (u.toList != t.toList) = true := by rw [bne, hee]; rfl
          have HNO := Lib.hid (plan_no HI.out (HOTH.out x y HX.out HY.out fun h => by
            have h1 := h.2
            rw [HRL.out, HU.out] at h1
            exact hut h1))
          clear hut
          go_wp2_with fail
          rw [HW4.out]
          refine HVC.out.mono ?_
          rintro e w5 ⟨rfl, hb5⟩
          have BP5 := Lib.hid (BP4.out.on hb5)
          have K5 := Lib.hid hb5
          clear d0 d1 d2 g0 g1 g2 hb5
          obtain ⟨⟨d0, d1, d2⟩, g0, g1, g2⟩ := BP5.out
          have hp5 := BP5.out.lt
          go_wp2_with fail
          refine (HFM.out _ K5.out).mono ?_
          rintro e w6 ⟨rfl, hb6⟩
          have K6 := Lib.hid (sstep K5.out hb6)
          have BY6 := Lib.hid (BY4.out.on K6.out)
          have B6 := sstep B4.out K6.out
          clear d0 d1 d2 g0 g1 g2 hb6
          obtain ⟨⟨e0, e1, e2⟩, f0, f1, f2⟩ := BY6.out
          have hy6 := BY6.out.lt
          go_wp2
          refine bodyPost_ret (v := .tuple #[.agg #[.int .i64 0, .int .i64 0, .slice none 0 0], .bool false]) (by simp [results, Tryd.results8, go_sem, e0, e1, e2]) rfl ?_
          exact planP_no HNO.out (by go_grown)
    · have HNO := Lib.hid (plan_no HI.out (HW1.out hyy))
      have K3 := Lib.hid (sstep K2.out hb3)
      have BY3 := Lib.hid (FIN.out w3 K3.out).1
      have B3 := (FIN.out w3 K3.out).2
      clear hyy hb3 d1 hs1
      obtain ⟨⟨e0, e1, e2⟩, f0, f1, f2⟩ := BY3.out
      have hy3 := BY3.out.lt
      go_wp2
      refine bodyPost_ret (v := .tuple #[.agg #[.int .i64 0, .int .i64 0, .slice none 0 0], .bool false]) (by simp [results, Tryd.results8, go_sem, e0, e1, e2]) rfl ?_
      exact planP_no HNO.out (by go_grown)
  · have HNO := Lib.hid (plan_no HI.out (HW0.out hx))
    have z2 := hb2.size
    have d1 := (hb2.cell (p := ⟨g, 1, none⟩) hgl).trans c1
    have HE2 := Lib.hid (HE1.out.below hb2)
    have K2 := Lib.hid hb2
    clear hx hb2 c0 c1 e0 e1 e2 f0 f1 f2 hs0
    go_wp2_with fail
    refine (atoi_any p1 w2 HE2.out hs1).mono ?_
    rintro e w3 (⟨y, hyy, rfl, hb3⟩ | ⟨y, tr, r, hyy, rfl, hb3⟩)
    all_goals
      have K3 := Lib.hid (sstep K2.out hb3)
      have BY3 := Lib.hid (FIN.out w3 K3.out).1
      have B3 := (FIN.out w3 K3.out).2
      clear hyy hb3 d1 hs1
      obtain ⟨⟨e0, e1, e2⟩, f0, f1, f2⟩ := BY3.out
      have hy3 := BY3.out.lt
      go_wp2
      refine bodyPost_ret (v := .tuple #[.agg #[.int .i64 0, .int .i64 0, .slice none 0 0], .bool false]) (by simp [results, Tryd.results8, go_sem, e0, e1, e2]) rfl ?_
      exact planP_no HNO.out (by go_grown)
end Go.Proofs.YtjabpidmfgcamaaDoor
