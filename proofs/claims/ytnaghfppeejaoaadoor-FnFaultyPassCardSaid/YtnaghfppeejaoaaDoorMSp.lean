/-
  Bins of a pass, in the model: l7Bins.
-/
import Derived.Test.YtnaghfppeejaoaaDoorPutA
import Derived.Test.YtnaghfppeejaoaaDoorIntS
import Derived.Deep.RegionHeld3
namespace Go.Proofs.YtnaghfppeejaoaaDoor
open Go.RowKit
open Go.PlainAid (bt get_bt bt_nonneg bt_le)
set_option linter.unusedVariables false

/-- The bins are those of a pass of a plan. -/
def binsAll (b p : Int) (n : Nat) (S : Nat → ByteArray) (N : Nat) (MM : Nat → List (Int × ByteArray)) (x : Int) : Bool := M.plan b p n S && binsOk b N MM && decide (0 ≤ x ∧ x ≤ p - 1)

set_option maxHeartbeats 1000000 in
theorem spec_l7Bins (w : World) (b p : Int) (a : Option Addr) (n c : Nat) (S : Nat → ByteArray) (h : Strs w a n S) (hf : SFits n S) (hn : n ≤ 1048576) (base : Nat) (v : Value) (N : Nat) (V : Nat → Value) (MM : Nat → List (Int × ByteArray)) (h2 : Mat w base v N V MM) (hN : N ≤ 1048576) (hl : (M.flat MM N).length ≤ 1048576) (hf2 : Fits (M.flat MM N).length (nI (M.flat MM N)) (nC (M.flat MM N))) (x : Int) :
    Calls Tryd.prog 59 #[.agg #[.int .i64 b, .int .i64 p, .slice a n c], v, .int .i64 x] w fun e w' => e = .returned (.bool (binsAll b p n S N MM x)) ∧ Below w.heap.size w w' := by
  have HL := Lib.hid (h.on (below_alloc0 w (.cells #[.int .i64 b, .int .i64 p, .slice a n c] 25)))
  have HM := Lib.hid (h2.on (below_alloc0 w (.cells #[.int .i64 b, .int .i64 p, .slice a n c] 25)))
  have bx := Lib.hid (tri_made w (.int .i64 b) (.int .i64 p) (.slice a n c) 25)
  have HF := Lib.hid hf
  have HF2 := Lib.hid hf2
  obtain ⟨u, c2, hv⟩ : ∃ u c, v = .slice u N c := by
    rcases h2.form with ⟨rfl, rfl⟩ | ⟨g, c, rfl, _⟩
    · exact ⟨_, _, rfl⟩
    · exact ⟨_, _, rfl⟩
  subst hv
  clear h hf h2 hf2
  obtain ⟨⟨t0, t1, t2⟩, _⟩ := bx.out
  unfold binsAll
  obtain ⟨dd, hdd⟩ : ∃ dd, decide (0 ≤ x ∧ x ≤ p - 1) = dd := ⟨_, rfl⟩
  have HDD := Lib.hid hdd
  rw [hdd]
  clear hdd
  cases hp : M.plan b p n S
  · go_enter Tryd.func59, Tryd.ntmps59
    go_wp2_with fail
    refine (spec_PlanValid _ b p a n c S HL.out HF.out hn).mono ?_
    rw [hp]
    rintro e w1 ⟨rfl, hb1⟩
    go_wp2
    go_ret
    exact ⟨rfl, sstep (by go_grown) hb1⟩
  · obtain ⟨s1, s2, s3, s4⟩ := M.plan_shape hp
    have HP := Lib.hid hp
    clear hp
    by_cases hNb : (N : Int) = b
    · have hbq : ((N : Int) == b) = true := by simpa using hNb
      have hok : Hid (binsOk b N MM = M.batch (M.flat MM N).length (nI (M.flat MM N)) (nC (M.flat MM N))) := by unfold Hid binsOk; rw [decide_eq_true hNb, Bool.true_and]
      rw [hok.out]
      obtain ⟨L, hL⟩ : ∃ L, M.flat MM N = L := ⟨_, rfl⟩
      have HC : Hid (∀ W, Below w.heap.size w W → Mat W base (.slice u N c2) N V MM → Calls Tryd.prog 74 #[.slice u N c2] W (RowOut W L)) := fun W _ hW => by
        rw [← hL]
        exact spec_l2Collect W base _ N V MM hW hN hl
      rw [hL] at hl HF2 ⊢
      have HNb := Lib.hid hNb
      clear hL hNb hok
      cases hb : M.batch L.length (nI L) (nC L)
      · have HB := Lib.hid hb
        clear hb
        go_enter Tryd.func59, Tryd.ntmps59
        go_wp2_with fail
        refine (spec_PlanValid _ b p a n c S HL.out HF.out hn).mono ?_
        rw [HP.out]
        rintro e w1 ⟨rfl, hb1⟩
        have B1 : Hid (Below w.heap.size w w1) := sstep (by go_grown) hb1
        have M1 := Lib.hid (HM.out.on hb1)
        have bx1 := Lib.hid (bx.out.on hb1)
        clear t0 t1 t2 hb1
        obtain ⟨⟨t0, t1, t2⟩, _⟩ := bx1.out
        go_wp2_with fail
        refine (HC.out _ B1.out M1.out).mono ?_
        rintro e w2 ⟨v1, rfl, r1, k1⟩
        obtain ⟨a1, c1, rfl, _, l1⟩ := r1.form
        clear t0 t1 t2
        go_wp2_with fail
        refine (spec_BatchValid _ a1 _ c1 _ _ l1 HF2.out hl).mono ?_
        rw [HB.out]
        rintro e w3 ⟨rfl, k2⟩
        have B3 : Hid (Below w.heap.size w w3) := sstep (sstep B1.out k1) k2
        clear r1 l1 k1 k2
        go_wp2
        go_ret
        exact ⟨rfl, B3.out⟩
      · have HB := Lib.hid hb
        clear hb
        go_enter Tryd.func59, Tryd.ntmps59
        go_wp2_with fail
        refine (spec_PlanValid _ b p a n c S HL.out HF.out hn).mono ?_
        rw [HP.out]
        rintro e w1 ⟨rfl, hb1⟩
        have B1 : Hid (Below w.heap.size w w1) := sstep (by go_grown) hb1
        have M1 := Lib.hid (HM.out.on hb1)
        have bx1 := Lib.hid (bx.out.on hb1)
        clear t0 t1 t2 hb1
        obtain ⟨⟨t0, t1, t2⟩, _⟩ := bx1.out
        go_wp2_with fail
        refine (HC.out _ B1.out M1.out).mono ?_
        rintro e w2 ⟨v1, rfl, r1, k1⟩
        obtain ⟨a1, c1, rfl, _, l1⟩ := r1.form
        clear t0 t1 t2
        go_wp2_with fail
        refine (spec_BatchValid _ a1 _ c1 _ _ l1 HF2.out hl).mono ?_
        rw [HB.out]
        rintro e w3 ⟨rfl, k2⟩
        have B3 : Hid (Below w.heap.size w w3) := sstep (sstep B1.out k1) k2
        obtain ⟨⟨t0, t1, t2⟩, _⟩ := (bx1.out.on k1).on k2
        clear r1 l1 k1 k2
        go_wp2_with fail
        refine (spec_l1In x 0 (p - 1) _).mono ?_
        rw [HDD.out]
        rintro e w4 ⟨rfl, rfl⟩
        go_wp2
        go_ret
        exact ⟨rfl, B3.out⟩
    · have hbq : ((N : Int) == b) = false := by simpa using hNb
      have hok : Hid (binsOk b N MM = false) := by unfold Hid binsOk; rw [decide_eq_false hNb, Bool.false_and]
      rw [hok.out]
      clear hNb hok
      go_enter Tryd.func59, Tryd.ntmps59
      go_wp2_with fail
      refine (spec_PlanValid _ b p a n c S HL.out HF.out hn).mono ?_
      rw [HP.out]
      rintro e w1 ⟨rfl, hb1⟩
      have B1 : Hid (Below w.heap.size w w1) := sstep (by go_grown) hb1
      have bx1 := Lib.hid (bx.out.on hb1)
      clear t0 t1 t2 hb1
      obtain ⟨⟨t0, t1, t2⟩, _⟩ := bx1.out
      go_wp2
      go_ret
      exact ⟨rfl, B1.out⟩
/-- A row of numbers, of its own. -/
def IdsOut (w : World) (L : List Int) (e : Ending) (w' : World) : Prop := ∃ v, e = .returned v ∧ IRow w' w.heap.size v L ∧ Below w.heap.size w w'
/-- The numbers of the letters in wrong bins, of the first bins. -/
def wids (b : Int) (n : Nat) (S : Nat → ByteArray) (x : Nat) (MM : Nat → List (Int × ByteArray)) (k : Nat) : List Int := (M.flat (wrongL b n S x MM) k).map Prod.fst
theorem flat_upto (F : Nat → List (Int × ByteArray)) : ∀ {N k : Nat}, k ≤ N → (M.flat F k).length ≤ (M.flat F N).length
  | 0, k, h => by obtain rfl : k = 0 := by omega
                  exact Nat.le_refl _
  | N + 1, k, h => by
    by_cases e : k = N + 1
    · subst e; exact Nat.le_refl _
    · have ih := flat_upto F (N := N) (k := k) (by omega)
      show _ ≤ (M.flat F N ++ F N).length
      rw [List.length_append]
      omega
theorem wids_len (b : Int) (n : Nat) (S : Nat → ByteArray) (x : Nat) (MM : Nat → List (Int × ByteArray)) {N k : Nat} (h : k ≤ N) : (wids b n S x MM k).length ≤ (M.flat MM N).length := by
  unfold wids
  rw [List.length_map]
  exact Nat.le_trans (flat_sub (fun k => List.length_filter_le _ _) k) (flat_upto MM h)
theorem wids_succ (b : Int) (n : Nat) (S : Nat → ByteArray) (x : Nat) (MM : Nat → List (Int × ByteArray)) (k : Nat) : wids b n S x MM (k + 1) = wids b n S x MM k ++ (M.sansF (rightB b n S x k) (MM k)).map Prod.fst := by
  unfold wids
  show (M.flat (wrongL b n S x MM) k ++ wrongL b n S x MM k).map _ = _
  rw [List.map_append]
  rfl

set_option maxHeartbeats 4000000 in
set_option maxRecDepth 100000 in
theorem spec_WrongLetters_yes (w : World) (b p : Int) (a : Option Addr) (n c : Nat) (S : Nat → ByteArray) (h : Strs w a n S) (hf : SFits n S) (hn : n ≤ 1048576) (base : Nat) (v : Value) (N : Nat) (V : Nat → Value) (MM : Nat → List (Int × ByteArray)) (h2 : Mat w base v N V MM) (hN : N ≤ 1048576) (hl : (M.flat MM N).length ≤ 1048576) (hf2 : Fits (M.flat MM N).length (nI (M.flat MM N)) (nC (M.flat MM N))) (y : Nat) (hok : binsAll b p n S N MM y = true) :
    Calls Tryd.prog 21 #[.agg #[.int .i64 b, .int .i64 p, .slice a n c], v, .int .i64 y] w (IdsOut w (wids b n S y MM N)) := by
  have hk := hok
  unfold binsAll at hk
  simp only [Bool.and_eq_true, decide_eq_true_eq] at hk
  obtain ⟨⟨hp, hbo⟩, hx0, hx1⟩ := hk
  obtain ⟨s1, s2, s3, s4⟩ := M.plan_shape hp
  have hq3 : y ≤ 3 := by omega
  unfold binsOk at hbo
  rw [Bool.and_eq_true] at hbo
  have h60 := ((batchL_list _).1 hbo.2).2.2
  have hlen : Hid (∀ i, i < N → (MM i).length ≤ 60) := fun i hi => Nat.le_trans (flat_le MM hi) h60
  have hwl : Hid (∀ k, k ≤ N → (wids b n S y MM k).length ≤ 60) := fun k hk => Nat.le_trans (wids_len b n S y MM hk) h60
  obtain ⟨u, c2, hv⟩ : ∃ u c, v = .slice u N c := by
    rcases h2.form with ⟨rfl, rfl⟩ | ⟨g, c, rfl, _⟩
    · exact ⟨_, _, rfl⟩
    · exact ⟨_, _, rfl⟩
  subst hv
  have HBINS := Lib.hid (fun W (hW : Below w.heap.size w W) => spec_l7Bins W b p a n c S (h.on hW) hf hn base _ N V MM (h2.on hW) hN hl hf2 y)
  rw [hok] at HBINS
  have HRB := Lib.hid (fun W (hW : Below w.heap.size w W) s => spec_l3Bin W b p a n c S (h.on hW) hn s y s1 s2 hq3)
  have HM := Lib.hid h2
  have bx := Lib.hid (tri_made w (.int .i64 b) (.int .i64 p) (.slice a n c) 25)
  have E0 := Lib.hid (one_irow (w.alloc (.cells #[.int .i64 b, .int .i64 p, .slice a n c] 25)))
  have B1 : Hid (Below w.heap.size w (w.alloc (.cells #[.int .i64 b, .int .i64 p, .slice a n c] 25))) := below_alloc0 w _
  have X1 := Lib.hid (bx.out.on (below_alloc0 (w.alloc (.cells #[.int .i64 b, .int .i64 p, .slice a n c] 25)) (.cells #[] 3)))
  have E1 : Hid (Below w.heap.size w ((w.alloc (.cells #[.int .i64 b, .int .i64 p, .slice a n c] 25)).alloc (.cells #[] 3))) := (below_alloc0 w _).alloc (by simp) _
  obtain ⟨w2, hw2⟩ : ∃ w2, (w.alloc (.cells #[.int .i64 b, .int .i64 p, .slice a n c] 25)).alloc (.cells #[] 3) = w2 := ⟨_, rfl⟩
  rw [hw2] at E0 X1 E1
  have hz2 : w2.heap.size = w.heap.size + 2 := by rw [← hw2]; simp
  have HW2 := Lib.hid hw2
  simp only [World.size_alloc] at E0
  clear h hf h2 hf2 hok hp hbo h60 hx0 hx1 hw2 bx hl
  go_enter Tryd.func21, Tryd.ntmps21
  go_wp2
  rw [HW2.out]
  go_loopw [7, 8] (fun q i wr => ∃ k : Nat, k ≤ N ∧ i = .int .i64 k ∧ Hid (IRow wr (w.heap.size + 1) q (wids b n S y MM k)) ∧ Hid (Below w.heap.size w wr) ∧ Hid (Tri wr w.heap.size (.int .i64 b) (.int .i64 p) (.slice a n c)) ∧ w.heap.size + 1 < wr.heap.size) (fun _ i _ => N - (intOf i).toNat)
  case atStart => exact ⟨0, Nat.zero_le _, rfl, E0.out, E1, X1, by omega⟩
  case round =>
    obtain ⟨k, hk, rfl, hrow, BW, hX, hz1⟩ := hrel
    have hbz := BW.out.size
    obtain ⟨⟨t0, t1, t2⟩, _⟩ := hX.out
    by_cases hlt : k < N
    · go_wp2_with fail
      refine (HBINS.out _ BW.out).mono ?_
      rintro e w3 ⟨rfl, k3⟩
      have hz3 := k3.size
      have R3 := Lib.hid (hrow.out.on k3)
      have D3 : Hid (Below w.heap.size w w3) := step BW.out k3
      have X3 := Lib.hid (hX.out.on k3)
      have hM3 := HM.out.on BW.out
      obtain ⟨a2, l, hVk, hlc, hlts⟩ := (HM.out.2.1 k hlt).form
      obtain ⟨G, c', e1, g0, g1⟩ := HM.out.cell hlt
      have hGw := World.block_lt_of_cell? _ _ g0
      have G0 : w3.cell? ⟨G, k, none⟩ = some (V k) := ((BW.out.trans (k3.mono (by have := BW.out.size; omega))).cell (p := ⟨G, k, none⟩) hGw).trans g0
      obtain ⟨L, hL⟩ : ∃ L, MM k = L := ⟨_, rfl⟩
      have HLs := Lib.hid hL
      have hl60 := hlen.out k hlt
      have hw60 := hwl.out k hk
      have hsucc := Lib.hid (wids_succ b n S y MM k)
      rw [hL] at hlts hlc hl60 hsucc
      obtain ⟨nl, hnl⟩ : ∃ nl, L.length = nl := ⟨_, rfl⟩
      have HNL := Lib.hid hnl
      rw [hL, hnl] at hVk
      rw [hnl] at hlts hl60 hlc
      cases e1
      rw [hVk] at G0
      have HLT := Lib.hid hlts
      have hki : (k : Int) < (N : Int) := by omega
      have hk0 : (0 : Int) ≤ (k : Int) := by omega
      have hbl : Hid (∀ g o, a2 = some ⟨g, o, none⟩ → 0 < nl → g < w.heap.size) := fun g o e h0 => hlts.lt e h0
      clear t0 t1 t2 k3 hM3 g0 g1 hlts hnl hL hVk
      go_wp2
      go_loopw [7, 9] (fun q i wr => ∃ j : Nat, j ≤ nl ∧ i = .int .i64 j ∧ Hid (IRow wr (w.heap.size + 1) q (wids b n S y MM k ++ (M.sansF (rightB b n S y k) (M.lst (nI L) (nC L) j)).map Prod.fst)) ∧ Hid (Below w.heap.size w wr) ∧ Hid (Tri wr w.heap.size (.int .i64 b) (.int .i64 p) (.slice a n c)) ∧ w.heap.size + 1 < wr.heap.size ∧ wr.cell? ⟨G, k, none⟩ = some (.slice a2 nl l)) (fun _ i _ => nl - (intOf i).toNat)
      case atStart => exact ⟨0, Nat.zero_le _, rfl, by have := R3.out; unfold Hid; simpa [M.lst, M.sansF] using this, D3, X3, by omega, G0⟩
      case round =>
        obtain ⟨j, hj, rfl, hrow2, BW2, hX2, hz4, G2⟩ := hrel
        have hbz2 := BW2.out.size
        by_cases hjl : j < nl
        · obtain ⟨b2, o2, e2, q0, q1⟩ := (HLT.out.on BW2.out) j hjl
          have hb2w := hbl.out _ _ e2 (by omega)
          subst e2
          have hji : (j : Int) < (nl : Int) := by omega
          have hj0 : (0 : Int) ≤ (j : Int) := by omega
          obtain ⟨⟨t0, t1, t2⟩, _⟩ := hX2.out
          have HC := Lib.hid (HRB.out wr BW2.out (nC L j))
          have hsl := M.sansF_le (rightB b n S y k) (nI L) (nC L) j
          obtain ⟨dd, hdd⟩ : ∃ dd, (if M.rankTo S (nC L j) n < 0 then -1 else M.rankBin b (M.rankTo S (nC L j) n) y) = dd := ⟨_, rfl⟩
          rw [hdd] at HC
          have hrb : rightB b n S y k (nC L j) = (dd == (k : Int)) := by unfold rightB dueBin; rw [hdd]
          have HDD := Lib.hid hdd
          have hGl : G < wr.heap.size := World.block_lt_of_cell? _ _ G2
          cases hr : rightB b n S y k (nC L j)
          · have hbq : (dd == (k : Int)) = false := by rw [← hrb, hr]
            have hbq2 : (dd != (k : Int)) = true := by simp only [bne, hbq]; rfl
            have HS2 := Lib.hid (M.filt_no (I := nI L) hr).2
            clear hr hrb hdd HC
            go_wp2
            go_region_with (first
              | (go_at_call 60; refine (HRB.out _ (by first | exact BW2.out | exact BW2.out.trans ⟨rfl, rfl, rfl, Nat.le_refl _, fun _ _ => rfl⟩) _).mono ?_; rw [HDD.out]; rintro e wb ⟨rfl, hbb⟩; have kk : Below wr.heap.size wr wb := (by first | exact hbb | exact Below.trans (⟨rfl, rfl, rfl, Nat.le_refl _, fun _ _ => rfl⟩ : Below wr.heap.size wr wr.drew) hbb); have K5 := Lib.hid kk; have hz5 := kk.size; clear hbb kk))
            all_goals
              clear q0 q1 t0 t1 t2
              have G3 : wb.cell? ⟨G, k, none⟩ = some (.slice (some ⟨b2, o2, none⟩) nl l) := (K5.out.cell (p := ⟨G, k, none⟩) hGl).trans G2
              have D5 : Hid (Below w.heap.size w wb) := step BW2.out K5.out
              have X5 := Lib.hid (hX2.out.on K5.out)
              obtain ⟨b3, o3, e3, q0, q1⟩ := (HLT.out.on D5.out) j hjl
              cases e3
              clear G2
              go_wp2_with (at_builtin; refine wpList_append_int _ rfl _ _ rfl (w.heap.size + 1) u7 _ rfl ((hrow2.out.on K5.out).alloc _) _ (nI L j) rfl ?_ (by simp; omega) (by simp; omega) ?_)
              · simp [go_sem]
              · intro v1 w4 r1 gr1 ho1
                have R1 : Hid (IRow w4 (w.heap.size + 1) v1 (wids b n S y MM k ++ (M.sansF (rightB b n S y k) (M.lst (nI L) (nC L) (j + 1))).map Prod.fst)) := by unfold Hid; rw [HS2.out, List.map_append]; first | exact r1 | (rw [← List.append_assoc]; exact r1)
                have o4 : Only wb w4 (fun q => u7.ownBlock = some q) := (Only.new (S := fun q => u7.ownBlock = some q) (below_alloc0 wb (.cells #[.int .i64 (nI L j)] 3))).trans ((Only.of_grown gr1).mono (T := fun q => u7.ownBlock = some q) (fun x _ e => e.symm)) (fun _ _ h => h)
                have lr := (hrow2.out.on K5.out).lt
                have B4 : Hid (Below w.heap.size w w4) := D5.out.trans (o4.below (B := w.heap.size) (fun q hq _ hs => by have := (lr q hs).1; omega) (by omega))
                have X4 := Lib.hid (triOnly X5.out o4 (fun hs => by have := (lr _ hs).1; omega))
                have z4 := o4.size
                have G4 : w4.cell? ⟨G, k, none⟩ = some (.slice (some ⟨b2, o2, none⟩) nl l) := (World.cell?_of_block (a := ⟨G, k, none⟩) (o4.block G (by omega) (fun hs => by have := (lr G hs).1; omega))).trans G3
                clear r1 gr1 ho1 o4 lr G3
                go_wp2
                go_roundw
                case rel => exact ⟨j + 1, by omega, by go_num, R1, B4, X4, by omega, G4⟩
                case measure => simp [intOf]; omega
          · have hbq : (dd == (k : Int)) = true := by rw [← hrb, hr]
            have hbq2 : (dd != (k : Int)) = false := by simp only [bne, hbq]; rfl
            have HS2 := Lib.hid (M.filt_yes (I := nI L) hr).2
            clear hr hrb hdd HC
            go_wp2
            go_region_with (first
              | (go_at_call 60; refine (HRB.out _ (by first | exact BW2.out | exact BW2.out.trans ⟨rfl, rfl, rfl, Nat.le_refl _, fun _ _ => rfl⟩) _).mono ?_; rw [HDD.out]; rintro e wb ⟨rfl, hbb⟩; have kk : Below wr.heap.size wr wb := (by first | exact hbb | exact Below.trans (⟨rfl, rfl, rfl, Nat.le_refl _, fun _ _ => rfl⟩ : Below wr.heap.size wr wr.drew) hbb); have K5 := Lib.hid kk; have hz5 := kk.size; clear hbb kk))
            all_goals
              have G3 : wb.cell? ⟨G, k, none⟩ = some (.slice (some ⟨b2, o2, none⟩) nl l) := (K5.out.cell (p := ⟨G, k, none⟩) hGl).trans G2
              have D5 : Hid (Below w.heap.size w wb) := step BW2.out K5.out
              have X5 := Lib.hid (hX2.out.on K5.out)
              have R5 := Lib.hid (hrow2.out.on K5.out)
              clear q0 q1 t0 t1 t2 G2
              go_wp2
              go_roundw
              case rel => exact ⟨j + 1, by omega, by go_num, by rw [HS2.out]; exact R5, D5, X5, by omega, G3⟩
              case measure => simp [intOf]; omega
        · obtain rfl : j = nl := by omega
          go_wp2
          go_roundw
          case rel => exact ⟨k + 1, by omega, by go_num, by rw [hsucc.out]; have := hrow2.out; rw [← HNL.out, lst_nI] at this; exact this, BW2, hX2, hz4⟩
          case measure => simp [intOf]; omega
    · obtain rfl : k = N := by omega
      go_wp2
      go_ret
      exact ⟨_, rfl, hrow.out.lower (by omega), BW.out⟩

set_option maxHeartbeats 1000000 in
theorem spec_WrongLetters_no (w : World) (b p : Int) (a : Option Addr) (n c : Nat) (S : Nat → ByteArray) (h : Strs w a n S) (hf : SFits n S) (hn : n ≤ 1048576) (base : Nat) (v : Value) (N : Nat) (V : Nat → Value) (MM : Nat → List (Int × ByteArray)) (h2 : Mat w base v N V MM) (hN : N ≤ 1048576) (hl : (M.flat MM N).length ≤ 1048576) (hf2 : Fits (M.flat MM N).length (nI (M.flat MM N)) (nC (M.flat MM N))) (x : Int) (hok : binsAll b p n S N MM x = false) :
    Calls Tryd.prog 21 #[.agg #[.int .i64 b, .int .i64 p, .slice a n c], v, .int .i64 x] w (IdsOut w []) := by
  obtain ⟨u, c2, hv⟩ : ∃ u c, v = .slice u N c := by
    rcases h2.form with ⟨rfl, rfl⟩ | ⟨g, c, rfl, _⟩
    · exact ⟨_, _, rfl⟩
    · exact ⟨_, _, rfl⟩
  subst hv
  have HBINS := Lib.hid (fun W (hW : Below w.heap.size w W) => spec_l7Bins W b p a n c S (h.on hW) hf hn base _ N V MM (h2.on hW) hN hl hf2 x)
  rw [hok] at HBINS
  have bx := Lib.hid (tri_made w (.int .i64 b) (.int .i64 p) (.slice a n c) 25)
  have E0 := Lib.hid (one_irow (w.alloc (.cells #[.int .i64 b, .int .i64 p, .slice a n c] 25)))
  have X1 := Lib.hid (bx.out.on (below_alloc0 (w.alloc (.cells #[.int .i64 b, .int .i64 p, .slice a n c] 25)) (.cells #[] 3)))
  have E1 : Hid (Below w.heap.size w ((w.alloc (.cells #[.int .i64 b, .int .i64 p, .slice a n c] 25)).alloc (.cells #[] 3))) := (below_alloc0 w _).alloc (by simp) _
  obtain ⟨w2, hw2⟩ : ∃ w2, (w.alloc (.cells #[.int .i64 b, .int .i64 p, .slice a n c] 25)).alloc (.cells #[] 3) = w2 := ⟨_, rfl⟩
  rw [hw2] at E0 X1 E1
  have HW2 := Lib.hid hw2
  simp only [World.size_alloc] at E0
  clear h hf h2 hf2 hok hw2 bx hl
  go_enter Tryd.func21, Tryd.ntmps21
  go_wp2
  rw [HW2.out]
  go_loopw [7, 8] (fun q i wr => q = .slice (some ⟨w.heap.size + 1, 0, none⟩) 0 0 ∧ i = .int .i64 0 ∧ wr = w2) (fun _ i _ => (intOf i).toNat)
  case atStart => exact ⟨rfl, rfl, rfl⟩
  case round =>
    obtain ⟨rfl, rfl, rfl⟩ := hrel
    obtain ⟨⟨t0, t1, t2⟩, _⟩ := X1.out
    by_cases h0 : 0 < N
    · have h0' : (0 : Int) < (N : Int) := by omega
      go_wp2_with fail
      refine (HBINS.out _ E1.out).mono ?_
      rintro e w3 ⟨rfl, k3⟩
      have R3 := Lib.hid (E0.out.on k3)
      have D3 : Hid (Below w.heap.size w w3) := step E1.out k3
      go_wp2
      go_ret
      exact ⟨_, rfl, R3.out.lower (show w.heap.size ≤ w.heap.size + 1 from Nat.le_succ _), D3.out⟩
    · obtain rfl : N = 0 := by omega
      go_wp2
      go_ret
      exact ⟨_, rfl, E0.out.lower (show w.heap.size ≤ w.heap.size + 1 from Nat.le_succ _), E1.out⟩

/-- The numbers of the letters in wrong bins. -/
def wrongIds (b p : Int) (n : Nat) (S : Nat → ByteArray) (N : Nat) (MM : Nat → List (Int × ByteArray)) (x : Int) : List Int := if binsAll b p n S N MM x = true then wids b n S x.toNat MM N else []
theorem spec_WrongLetters (w : World) (b p : Int) (a : Option Addr) (n c : Nat) (S : Nat → ByteArray) (h : Strs w a n S) (hf : SFits n S) (hn : n ≤ 1048576) (base : Nat) (v : Value) (N : Nat) (V : Nat → Value) (MM : Nat → List (Int × ByteArray)) (h2 : Mat w base v N V MM) (hN : N ≤ 1048576) (hl : (M.flat MM N).length ≤ 1048576) (hf2 : Fits (M.flat MM N).length (nI (M.flat MM N)) (nC (M.flat MM N))) (x : Int) :
    Calls Tryd.prog 21 #[.agg #[.int .i64 b, .int .i64 p, .slice a n c], v, .int .i64 x] w (IdsOut w (wrongIds b p n S N MM x)) := by
  unfold wrongIds
  cases hok : binsAll b p n S N MM x
  · rw [if_neg (by decide)]
    exact spec_WrongLetters_no w b p a n c S h hf hn base v N V MM h2 hN hl hf2 x hok
  · rw [if_pos rfl]
    have hk := hok
    unfold binsAll at hk
    simp only [Bool.and_eq_true, decide_eq_true_eq] at hk
    obtain ⟨y, rfl⟩ := Int.eq_ofNat_of_zero_le hk.2.1
    rw [Int.toNat_natCast]
    exact spec_WrongLetters_yes w b p a n c S h hf hn base v N V MM h2 hN hl hf2 y hok
end Go.Proofs.YtnaghfppeejaoaaDoor

/-
  WrongLetters of the program.
-/
namespace Go.Proofs.YtnaghfppeejaoaaDoor
open Go.RowKit
open Go.PlainAid (bt get_bt bt_nonneg bt_le)
set_option linter.unusedVariables false

theorem run_wrong1 (cap : Array Value) (W : World) : (callFunc 57 cap).run Tryd.prog W = .ok (.enter 57 cap) W :=
  run_enter Tryd.func57 (by kernel_rfl) (by kernel_rfl) cap W
/-- The boxes that WrongLetters' literal holds. -/
structure WBox (w : World) (b p : Int) (a : Option Addr) (n c : Nat) (x : Int) (v : Value) (P0 X0 B0 V0 : Nat) (u : Value) : Prop where
  pp : Tri w P0 (.int .i64 b) (.int .i64 p) (.slice a n c)
  xx : w.cell? ⟨X0, 0, none⟩ = some (.int .i64 x)
  bb : w.cell? ⟨B0, 0, none⟩ = some v
  vv : w.cell? ⟨V0, 0, none⟩ = some u
  vf : w.frozen? ⟨V0, 0, none⟩ = false
theorem WBox.on {w w' : World} {b p : Int} {a : Option Addr} {n c : Nat} {x : Int} {v : Value} {P0 X0 B0 V0 : Nat} {u : Value} (h : WBox w b p a n c x v P0 X0 B0 V0 u) (hb : Below w.heap.size w w') : WBox w' b p a n c x v P0 X0 B0 V0 u := by
  have k : ∀ {q : Nat} {y : Value}, w.cell? ⟨q, 0, none⟩ = some y → w'.cell? ⟨q, 0, none⟩ = some y := fun {q y} e => (World.cell?_of_block (hb.block q (World.block_lt_of_cell? _ _ e))).trans e
  exact ⟨h.pp.on hb, k h.xx, k h.bb, k h.vv, by rw [World.frozen?_of_block (hb.block V0 (World.block_lt_of_cell? _ _ h.vv))]; exact h.vf⟩
/-- What the literal leaves. -/
def WDone (w : World) (V0 : Nat) (L : List Int) (w' : World) : Prop :=
  ∃ u, IRow w' w.heap.size u L ∧ w'.cell? ⟨V0, 0, none⟩ = some u ∧ Only w w' (fun k => k = V0)

set_option maxHeartbeats 4000000 in
set_option maxRecDepth 100000 in
theorem wrong1_yes (w : World) (b p : Int) (a : Option Addr) (n c : Nat) (S : Nat → ByteArray) (h : Strs w a n S) (hf : SFits n S) (hn : n ≤ 1048576) (hp : M.plan b p n S = true) (x : Nat) (hx : (x : Int) < p) (J : Addr) (hj : Jam w J) (base : Nat) (u0 : Option Addr) (N c2 : Nat) (V : Nat → Value) (MM : Nat → List (Int × ByteArray)) (hm : Mat w base (.slice u0 N c2) N V MM) (hN : N ≤ 1048576) (hok : binsOk b N MM = true) (P0 X0 B0 V0 : Nat) (hord : P0 < V0 ∧ X0 < V0 ∧ B0 < V0)
    (hx0 : WBox w b p a n c x (.slice u0 N c2) P0 X0 B0 V0 (.slice none 0 0)) :
    Calls Tryd.prog 57 #[.pointer (some ⟨P0, 0, none⟩), .pointer (some ⟨X0, 0, none⟩), .pointer (some ⟨B0, 0, none⟩), .pointer (some ⟨V0, 0, none⟩)] w
      fun e w' => e = .returned (.tuple #[]) ∧ WDone w V0 (wids b n S x MM N) w' := by
  obtain ⟨s1, s2, s3, s4⟩ := M.plan_shape hp
  have hok2 := hok
  unfold binsOk at hok2
  rw [Bool.and_eq_true] at hok2
  have h60 := ((batchL_list _).1 hok2.2).2.2
  have HX := Lib.hid hx0
  have HMF := Lib.hid (fun W (hW : Below w.heap.size w W) => machineFor_yes W b p a n c S (h.on hW) hf hn hp x ⟨by omega, hx⟩)
  have HST := Lib.hid (fun W (hW : Below w.heap.size w W) => impl_takeOut_yes W b p a n c S (h.on hW) hn s1 s2 x (by omega) J (hj.on hW) base _ N V MM (hm.on hW) hN hok)
  obtain ⟨RM, hRM⟩ : ∃ RM, rightL b n S x MM = RM := ⟨_, rfl⟩
  obtain ⟨WL, hWL⟩ : ∃ WL, M.flat (wrongL b n S x MM) N = WL := ⟨_, rfl⟩
  have hwl : WL.length ≤ 60 := by rw [← hWL]; exact Nat.le_trans (flat_sub (fun k => List.length_filter_le _ _) N) h60
  have hids : Hid (wids b n S x MM N = WL.map Prod.fst) := by unfold Hid wids; rw [hWL]
  rw [hRM, hWL] at HST
  rw [hids.out]
  obtain ⟨ln, hln⟩ : ∃ ln, WL.length = ln := ⟨_, rfl⟩
  have HLN := Lib.hid hln
  rw [hln] at hwl
  have BR := Lib.hid (Below.refl w.heap.size w)
  have lv := World.block_lt_of_cell? _ _ hx0.vv
  clear h hf hp hm hok hok2 h60 hx0 hRM hWL hj hids
  obtain ⟨⟨⟨t0, t1, t2⟩, _⟩, x0, b0, v0, vf⟩ := HX.out
  unfold mac at HMF HST
  go_enter Tryd.func57, Tryd.ntmps57
  go_wp2
  go_region_held3 (fun w' => w'.cell? ⟨P0, 0, none⟩ = some (.int .i64 b) ∧ w'.cell? ⟨P0, 1, none⟩ = some (.int .i64 p) ∧ w'.cell? ⟨P0, 2, none⟩ = some (.slice a n c) ∧ w'.cell? ⟨X0, 0, none⟩ = some (.int .i64 x) ∧ w'.cell? ⟨B0, 0, none⟩ = some (.slice u0 N c2)) (go_keep) (first
    | (go_at_call 47; refine (HMF.out _ (by first | exact BR.out | exact BR.out.drew)).mono ?_; rintro e w1 ⟨rfl, k1⟩; have K1 : Hid (Below w.heap.size w w1) := (by first | exact k1 | exact sstep (Below.refl _ _).drew k1); have HX1 := Lib.hid (HX.out.on K1.out); obtain ⟨⟨⟨c0, c1, c2'⟩, _⟩, c3', c4, c5, c6⟩ := HX1.out)
    | (go_at_call 58; refine (HST.out _ (by first | exact K1.out | exact K1.out.drew)).mono ?_; rintro e w2 ⟨v, V', u, rfl, hm, hr, hap, k2⟩; obtain ⟨aU, cU, hu, hcU, hlU⟩ := hr.form; obtain ⟨aV, cV, hv⟩ : ∃ aV cV, v = Value.slice aV N cV := (by rcases hm.form with ⟨rfl, e⟩ | ⟨g, c, rfl, _⟩ <;> first | exact ⟨_, _, rfl⟩ | exact ⟨_, _, by rw [e]⟩); subst hv hu; rw [HLN.out] at hlU; have K2 : Hid (Below w.heap.size w w2) := (by first | exact sstep K1.out k2 | exact sstep (sstep K1.out (Below.refl _ _).drew) k2); have HX2 := Lib.hid (HX.out.on K2.out); obtain ⟨⟨⟨d0, d1, d2⟩, _⟩, d3, d4, d5, d6⟩ := HX2.out; have HLU := Lib.hid hlU; have HRL := Lib.hid (hr.lower (base' := w.heap.size) (by first | exact K1.out.size | exact K1.out.drew.size)); clear hm hr hap k2 hlU))
  all_goals
    rw [HLN.out] at HRL
    clear t0 t1 t2 x0 b0 v0 vf d0 d1 d2 d3 d4 c0 c1 c2' c3' c4 c5 c6
    have hz2 := K2.out.size
    first
      | rw [HLN.out]
      | skip
    go_wp2
    go_loopw [18] (fun i wr => ∃ (j : Nat) (au : Option Addr) (cu : Nat) (Lj : List Int), j ≤ ln ∧ i = .int .i64 j ∧ wr.cell? ⟨V0, 0, none⟩ = some (.slice au j cu) ∧ wr.frozen? ⟨V0, 0, none⟩ = false ∧ Hid (Lj = (M.lst (nI WL) (nC WL) j).map Prod.fst) ∧ Hid (IRow wr w2.heap.size (.slice au j cu) Lj) ∧ Hid (Only w2 wr (fun k => k = V0))) (fun i _ => ln - (intOf i).toNat)
    case atStart => exact ⟨0, none, 0, [], Nat.zero_le _, rfl, d5, d6, rfl, IRow.nil _ _, Only.refl _ _⟩
    case round =>
      obtain ⟨j, au, cu, Lj, hj, rfl, v0, vf, hLj, hrow, on⟩ := hrel
      have hzr := on.out.size
      have hlj : Lj.length = j := by rw [hLj.out, List.length_map, M.lst_length]
      by_cases hlt : j < ln
      · obtain ⟨b2, o2, e2, q0, q1⟩ := (HLU.out.only on.out (fun b' o' e h0 hbad => by
          subst e
          have := (HRL.out.lt b' rfl).1
          omega)) j hlt
        have hb2 : w.heap.size ≤ b2 := by subst e2; exact (HRL.out.lt b2 rfl).1
        subst e2
        have hji : (j : Int) < (ln : Int) := by omega
        have hj0 : (0 : Int) ≤ (j : Int) := by omega
        have hbV : b2 ≠ V0 := by omega
        have hVb : V0 ≠ b2 := by omega
        have HLJ := Lib.hid hlj
        have hln : Lj.length ≤ 60 := by omega
        clear d5 d6
        have hLn : Hid (Lj ++ [nI WL j] = (M.lst (nI WL) (nC WL) (j + 1)).map Prod.fst) := by unfold Hid; rw [M.lst_succ, List.map_append, hLj.out]; rfl
        have hlen5 : (Lj ++ [nI WL j]).length = j + 1 := by simp [hlj]
        have HL5 := Lib.hid hlen5
        have lw := World.block_lt_of_cell? _ _ v0
        have lwn : V0 ≠ wr.heap.size := by show V0 ≠ _; have : V0 < wr.heap.size := lw; omega
        have lwn2 : wr.heap.size ≠ V0 := fun e => lwn e.symm
        have lwn3 : V0 < wr.heap.size := lw
        have lbn : b2 < wr.heap.size := World.block_lt_of_cell? _ _ q0
        clear hlj hlen5
        go_wp2_with (at_builtin; refine wpList_append_int _ rfl _ _ rfl w2.heap.size (.slice au j cu) Lj rfl ((hrow.out.alloc _).alloc _) _ (nI WL j) rfl ?_ (by omega) (by simp; omega) ?_)
        · intro v1 w4 r1 gr1 ho1
          obtain ⟨a5, c5, e5, hc5, _⟩ := r1.form
          rw [HL5.out] at e5
          subst e5
          have o4 : Only wr w4 (fun q => (Value.slice au j cu).ownBlock = some q) := ((Only.new (S := fun q => (Value.slice au j cu).ownBlock = some q) (below_alloc0 wr _)).trans (Only.new (S := fun q => (Value.slice au j cu).ownBlock = some q) (below_alloc0 _ _)) (fun _ _ h => h)).trans ((Only.of_grown gr1).mono (T := fun q => (Value.slice au j cu).ownBlock = some q) (fun x _ e => e.symm)) (fun _ _ h => h)
          have hnV : ¬ (Value.slice au j cu).ownBlock = some V0 := fun e => by have := (hrow.out.lt V0 e).1; omega
          have v4 : w4.cell? ⟨V0, 0, none⟩ = some (.slice au j cu) := (World.cell?_of_block (o4.block V0 lw hnV)).trans v0
          have f4 : w4.frozen? ⟨V0, 0, none⟩ = false := (World.frozen?_of_block (o4.block V0 lw hnV)).trans vf
          have os := Only.set w4 ⟨V0, 0, none⟩ (.slice a5 (j + 1) c5) (S := fun k => k = V0) rfl
          have R5 : Hid (IRow (w4.setCell ⟨V0, 0, none⟩ (.slice a5 (j + 1) c5)) w2.heap.size (.slice a5 (j + 1) c5) (Lj ++ [nI WL j])) := r1.only os (fun k hk hs => by have := (r1.lt k hk).1; omega)
          have O5 : Hid (Only w2 (w4.setCell ⟨V0, 0, none⟩ (.slice a5 (j + 1) c5)) (fun k => k = V0)) := on.out.trans ((o4.mono (T := fun k => w2.heap.size ≤ k ∨ k = V0) (fun x _ e => Or.inl (hrow.out.lt x e).1)).trans (os.mono (T := fun k => w2.heap.size ≤ k ∨ k = V0) (fun x _ e => Or.inr e)) (fun _ _ h => h)) (fun x hx h => by rcases h with h | h <;> omega)
          have v5 : (w4.setCell ⟨V0, 0, none⟩ (.slice a5 (j + 1) c5)).cell? ⟨V0, 0, none⟩ = some (.slice a5 (j + 1) c5) := by simp [go_sem, v4]
          have f5 : (w4.setCell ⟨V0, 0, none⟩ (.slice a5 (j + 1) c5)).frozen? ⟨V0, 0, none⟩ = false := by simp [go_sem, f4]
          have V5 := Lib.hid v5
          have F5 := Lib.hid f5
          clear r1 gr1 ho1 o4 os v5 f5 v0 vf
          go_wp2
          go_roundw
          case rel => exact ⟨j + 1, a5, c5, _, by omega, by go_num, V5.out, F5.out, hLn, R5, O5⟩
          case measure => simp [intOf]; omega
      · obtain rfl : j = ln := by omega
        go_wp2
        go_end0
        have h9 : Lj = WL.map Prod.fst := by rw [hLj.out, ← HLN.out, lst_nI]
        exact ⟨rfl, _, (by have := hrow.out.lower hz2; rw [h9] at this; exact this), v0, (Only.new K2.out).trans on.out (fun _ _ h => h)⟩

set_option maxHeartbeats 4000000 in
set_option maxRecDepth 100000 in
theorem wrong1_no (w : World) (J : Addr) (hj : Jam w J) (b p : Int) (a : Option Addr) (n c : Nat) (S : Nat → ByteArray) (h : Strs w a n S) (hf : SFits n S) (hn : n ≤ 1048576) (x : Int) (base : Nat) (u0 : Option Addr) (N c2 : Nat) (V : Nat → Value) (MM : Nat → List (Int × ByteArray)) (hm : Mat w base (.slice u0 N c2) N V MM) (hN : N ≤ 1048576) (hl : (M.flat MM N).length ≤ 1048576) (hf2 : Fits (M.flat MM N).length (nI (M.flat MM N)) (nC (M.flat MM N))) (hbad : binsAll b p n S N MM x = false) (P0 X0 B0 V0 : Nat)
    (hx0 : WBox w b p a n c x (.slice u0 N c2) P0 X0 B0 V0 (.slice none 0 0)) :
    Calls Tryd.prog 57 #[.pointer (some ⟨P0, 0, none⟩), .pointer (some ⟨X0, 0, none⟩), .pointer (some ⟨B0, 0, none⟩), .pointer (some ⟨V0, 0, none⟩)] w
      fun e w' => e = JamEnd J ∧ Below w.heap.size w w' := by
  have HX := Lib.hid hx0
  have BR := Lib.hid (Below.refl w.heap.size w)
  obtain ⟨⟨⟨t0, t1, t2⟩, _⟩, x0, b0, v0, vf⟩ := HX.out
  by_cases hmf : M.plan b p n S = true ∧ 0 ≤ x ∧ x < p
  · obtain ⟨s1, s2, s3, s4⟩ := M.plan_shape hmf.1
    have hbo : binsOk b N MM = false := by
      unfold binsAll at hbad
      rw [hmf.1, decide_eq_true (show 0 ≤ x ∧ x ≤ p - 1 by omega), Bool.true_and, Bool.and_true] at hbad
      exact hbad
    have HMF := Lib.hid (fun W (hW : Below w.heap.size w W) => machineFor_yes W b p a n c S (h.on hW) hf hn hmf.1 x hmf.2)
    have HST := Lib.hid (fun W (hW : Below w.heap.size w W) => impl_takeOut_no W b p x (.slice a n c) (by omega) s2 J (hj.on hW) base _ N V MM (hm.on hW) hN hl hf2 hbo)
    clear h hf hm hf2 hx0 hj hbad hmf hbo
    unfold mac at HMF HST
    go_enter Tryd.func57, Tryd.ntmps57
    go_wp2
    refine wp_region_held_drew (by kernel_rfl) (S := fun w' => Below w.heap.size w w') (by exact BR.out.drew) (fun hS => ?_)
    refine wpAnyH_take (i := 0) (v := .agg #[.int .i64 b, .int .i64 p, .slice a n c]) rfl (by kernel_rfl) (by kernel_rfl) (by kernel_rfl) (fun c a' w' h => panic_put (P := Tryd.prog) (fn := Tryd.f57) (R := fun e w' => e = JamEnd J ∧ Below w.heap.size w w') h) (Or.inl ⟨by rfl, ?_⟩) hS ?_
    · intro w' hw'
      obtain ⟨⟨⟨c0, c1, c2'⟩, _⟩, c3', c4, c5, c6⟩ := HX.out.on hw'
      go_simp
    simp only [Act.put, List.setIfInBounds_toArray]
    refine wpAnyH_take (i := 1) (v := .int .i64 x) rfl (by kernel_rfl) (by kernel_rfl) (by kernel_rfl) (fun c a' w' h => panic_put (P := Tryd.prog) (fn := Tryd.f57) (R := fun e w' => e = JamEnd J ∧ Below w.heap.size w w') h) (Or.inl ⟨by rfl, ?_⟩) hS ?_
    · intro w' hw'
      obtain ⟨⟨⟨c0, c1, c2'⟩, _⟩, c3', c4, c5, c6⟩ := HX.out.on hw'
      go_simp
    simp only [Act.put]
    refine wpAnyH_take (i := 3) (v := .slice u0 N c2) rfl (by kernel_rfl) (by kernel_rfl) (by kernel_rfl) (fun c a' w' h => panic_put (P := Tryd.prog) (fn := Tryd.f57) (R := fun e w' => e = JamEnd J ∧ Below w.heap.size w w') h) (Or.inl ⟨by rfl, ?_⟩) hS ?_
    · intro w' hw'
      obtain ⟨⟨⟨c0, c1, c2'⟩, _⟩, c3', c4, c5, c6⟩ := HX.out.on hw'
      go_simp
    simp only [Act.put]
    refine wpAnyH_ready (rs := [2]) (by kernel_rfl) (by simp) ?_
    refine AllReadyH.cons rfl (fun K hK => ?_) AllReadyH.nil
    go_simp
    refine (HMF.out _ BR.out.drew).mono ?_
    rintro e w1 ⟨rfl, k1⟩
    have K1 : Hid (Below w.heap.size w w1) := sstep BR.out.drew k1
    clear k1
    refine hK.out _ _ K1.out (fun hS1 => ?_)
    refine wpAnyH_ready (rs := [4]) (by kernel_rfl) (by simp) ?_
    refine AllReadyH.cons rfl (fun K hK => ?_) AllReadyH.nil
    go_simp
    refine (HST.out _ K1.out).mono ?_
    rintro e w2 ⟨rfl, k2⟩
    exact ⟨rfl, rfl, sstep K1.out k2⟩
  · have HMF := Lib.hid (fun W (hW : Below w.heap.size w W) => machineFor_no W J (hj.on hW) b p a n c S (h.on hW) hf hn x hmf)
    clear h hf hm hf2 hx0 hj hbad hmf
    go_enter Tryd.func57, Tryd.ntmps57
    go_wp2
    refine wp_region_held_drew (by kernel_rfl) (S := fun w' => Below w.heap.size w w') (by exact BR.out.drew) (fun hS => ?_)
    refine wpAnyH_take (i := 0) (v := .agg #[.int .i64 b, .int .i64 p, .slice a n c]) rfl (by kernel_rfl) (by kernel_rfl) (by kernel_rfl) (fun c a' w' h => panic_put (P := Tryd.prog) (fn := Tryd.f57) (R := fun e w' => e = JamEnd J ∧ Below w.heap.size w w') h) (Or.inl ⟨by rfl, ?_⟩) hS ?_
    · intro w' hw'
      obtain ⟨⟨⟨c0, c1, c2'⟩, _⟩, c3', c4, c5, c6⟩ := HX.out.on hw'
      go_simp
    simp only [Act.put, List.setIfInBounds_toArray]
    refine wpAnyH_take (i := 1) (v := .int .i64 x) rfl (by kernel_rfl) (by kernel_rfl) (by kernel_rfl) (fun c a' w' h => panic_put (P := Tryd.prog) (fn := Tryd.f57) (R := fun e w' => e = JamEnd J ∧ Below w.heap.size w w') h) (Or.inl ⟨by rfl, ?_⟩) hS ?_
    · intro w' hw'
      obtain ⟨⟨⟨c0, c1, c2'⟩, _⟩, c3', c4, c5, c6⟩ := HX.out.on hw'
      go_simp
    simp only [Act.put]
    refine wpAnyH_take (i := 3) (v := .slice u0 N c2) rfl (by kernel_rfl) (by kernel_rfl) (by kernel_rfl) (fun c a' w' h => panic_put (P := Tryd.prog) (fn := Tryd.f57) (R := fun e w' => e = JamEnd J ∧ Below w.heap.size w w') h) (Or.inl ⟨by rfl, ?_⟩) hS ?_
    · intro w' hw'
      obtain ⟨⟨⟨c0, c1, c2'⟩, _⟩, c3', c4, c5, c6⟩ := HX.out.on hw'
      go_simp
    simp only [Act.put]
    refine wpAnyH_ready (rs := [2]) (by kernel_rfl) (by simp) ?_
    refine AllReadyH.cons rfl (fun K hK => ?_) AllReadyH.nil
    go_simp
    refine (HMF.out _ BR.out.drew).mono ?_
    rintro e w1 ⟨rfl, k1⟩
    exact ⟨rfl, rfl, sstep BR.out.drew k1⟩

set_option maxHeartbeats 4000000 in
set_option maxRecDepth 100000 in
theorem impl_WrongLetters (w : World) (J : Addr) (hj : Jam w J) (b p : Int) (a : Option Addr) (n c : Nat) (S : Nat → ByteArray) (h : Strs w a n S) (hf : SFits n S) (hn : n ≤ 1048576) (base : Nat) (v : Value) (N : Nat) (V : Nat → Value) (MM : Nat → List (Int × ByteArray)) (hm : Mat w base v N V MM) (hN : N ≤ 1048576) (hl : (M.flat MM N).length ≤ 1048576) (hf2 : Fits (M.flat MM N).length (nI (M.flat MM N)) (nC (M.flat MM N))) (x : Int) :
    Calls Tryd.prog 19 #[.agg #[.int .i64 b, .int .i64 p, .slice a n c], v, .int .i64 x] w (IdsOut w (wrongIds b p n S N MM x)) := by
  obtain ⟨u0, c2, hv⟩ : ∃ u c, v = .slice u N c := by
    rcases hm.form with ⟨rfl, rfl⟩ | ⟨g, c, rfl, _⟩
    · exact ⟨_, _, rfl⟩
    · exact ⟨_, _, rfl⟩
  subst hv
  have hmf : ∀ (fn : Fn) (first cap : Array Value) (w : World), (Instr.makeFunc fn first cap).run Tryd.prog w = .ok (.func fn first cap) w := fun _ _ _ _ => rfl
  obtain ⟨w6, hw6⟩ : ∃ w6, (((w.alloc (.cells #[.int .i64 b, .int .i64 p, .slice a n c] 25)).alloc (.cells #[.slice u0 N c2] 30)).alloc (.cells #[.int .i64 x] 3)).alloc (.cells #[.slice none 0 0] 42) = w6 := ⟨_, rfl⟩
  have B6 : Hid (Below w.heap.size w w6) := by rw [← hw6]; show Below _ _ _; go_grown
  have hz6 : w6.heap.size = w.heap.size + 4 := by rw [← hw6]; simp
  have FB : Hid (∀ W, Below w6.heap.size w6 W → WBox W b p a n c x (.slice u0 N c2) w.heap.size (w.heap.size + 2) (w.heap.size + 1) (w.heap.size + 3) (.slice none 0 0)) := fun W hW => by
    refine WBox.on ?_ hW
    rw [← hw6]
    refine ⟨(((tri_made w (.int .i64 b) (.int .i64 p) (.slice a n c) 25).alloc _).alloc _).alloc _, ?_, ?_, ?_, ?_⟩ <;> simp [go_sem]
  have HJ6 := Lib.hid (hj.on B6.out)
  have HH := Lib.hid (h.on B6.out)
  have HM := Lib.hid (hm.on B6.out)
  unfold wrongIds
  cases hok : binsAll b p n S N MM x
  · rw [if_neg (by decide)]
    have HR := Lib.hid (runs_jam w6 J HJ6.out 57 #[.pointer (some ⟨w.heap.size, 0, none⟩), .pointer (some ⟨w.heap.size + 2, 0, none⟩), .pointer (some ⟨w.heap.size + 1, 0, none⟩), .pointer (some ⟨w.heap.size + 3, 0, none⟩)]
      (fun W w1 => Below (W.alloc (.cells #[.nilIface] 103)).heap.size (W.alloc (.cells #[.nilIface] 103)) w1) (run_wrong1 _)
      (fun W hW => by
        have hW2 : Below w6.heap.size w6 (W.alloc (.cells #[.nilIface] 103)) := hW.alloc hW.size _
        exact wrong1_no _ J (HJ6.out.on hW2) b p a n c S (HH.out.on hW2) hf hn x base u0 N c2 V MM (HM.out.on hW2) hN hl hf2 hok _ _ _ _ (FB.out _ hW2))
      (fun W w1 hW hr => by
        have hbk := hr.block W.heap.size (by simp)
        exact ⟨(World.cell?_of_block hbk).trans (by simp), (World.frozen?_of_block hbk).trans (by simp [go_sem]), ((HJ6.out.on hW).on (below_alloc0 W (.cells #[.nilIface] 103))).on hr⟩))
    have HW6 := Lib.hid hw6
    have HFB := Lib.hid FB
    clear h hm hj hw6 FB HH HM hok
    go_enter Tryd.func19, Tryd.ntmps19
    go_wp2_with fail
    rw [HW6.out]
    refine HR.out.mono ?_
    rintro e w7 ⟨rfl, W, wa, hW, hr, on⟩
    have hsW := hW.size
    have hszA : (W.alloc (.cells #[.nilIface] 103)).heap.size = W.heap.size + 1 := by simp
    have hwa : Below w6.heap.size w6 wa := (hW.alloc hsW (.cells #[.nilIface] 103)).trans (hr.mono (by rw [hszA]; omega))
    have fb := HFB.out wa hwa
    have v7 : w7.cell? ⟨w.heap.size + 3, 0, none⟩ = some (.slice none 0 0) := (World.cell?_of_block (on.block (w.heap.size + 3) (World.block_lt_of_cell? _ _ fb.vv) (by omega))).trans fb.vv
    have hzw := hwa.size
    have B7 : Hid (Below w.heap.size w w7) := (B6.out.trans (hwa.mono (by omega))).trans (on.below (B := w.heap.size) (fun k hk _ hs => by omega) (by omega))
    clear hr on fb hwa hW
    go_wp2
    go_ret
    exact ⟨_, rfl, IRow.nil _ _, by first | exact B7.out | exact below_drewN0 B7.out _⟩
  · rw [if_pos rfl]
    have hk := hok
    unfold binsAll at hk
    simp only [Bool.and_eq_true, decide_eq_true_eq] at hk
    obtain ⟨⟨hp, hbo⟩, hx0, hx1⟩ := hk
    obtain ⟨y, rfl⟩ := Int.eq_ofNat_of_zero_le hx0
    rw [Int.toNat_natCast]
    have HR := Lib.hid (runs_well w6 J HJ6.out 57 #[.pointer (some ⟨w.heap.size, 0, none⟩), .pointer (some ⟨w.heap.size + 2, 0, none⟩), .pointer (some ⟨w.heap.size + 1, 0, none⟩), .pointer (some ⟨w.heap.size + 3, 0, none⟩)]
      (fun W w1 => WDone (W.alloc (.cells #[.nilIface] 103)) (w.heap.size + 3) (wids b n S y MM N) w1) (run_wrong1 _)
      (fun W hW => by
        have hW2 : Below w6.heap.size w6 (W.alloc (.cells #[.nilIface] 103)) := hW.alloc hW.size _
        exact wrong1_yes _ b p a n c S (HH.out.on hW2) hf hn hp y (by omega) J (HJ6.out.on hW2) base u0 N c2 V MM (HM.out.on hW2) hN hbo _ _ _ _ (by omega) (FB.out _ hW2))
      (fun W w1 hW hr => by
        obtain ⟨u, _, _, ho⟩ := hr
        have hs := hW.size
        have hbk := ho.block W.heap.size (by simp) (by omega)
        refine ⟨(World.cell?_of_block hbk).trans (by simp), (World.frozen?_of_block hbk).trans (by simp [go_sem]), ?_⟩
        have hj2 := (HJ6.out.on hW).on (below_alloc0 W (.cells #[.nilIface] 103))
        exact (World.cell?_of_block (ho.block _ hj2.lt (show ¬ (0 = w.heap.size + 3) from by have := hj.lt; omega))).trans hj2))
    obtain ⟨LL, hLL⟩ : ∃ LL, wids b n S y MM N = LL := ⟨_, rfl⟩
    rw [hLL] at HR
    rw [hLL]
    have HW6 := Lib.hid hw6
    clear h hm hj hw6 hLL FB HH HM hp hbo hok hx0 hx1
    go_enter Tryd.func19, Tryd.ntmps19
    go_wp2_with fail
    rw [HW6.out]
    refine HR.out.mono ?_
    rintro e w7 ⟨rfl, W, wa, hW, ⟨u, hRo, hu, ho⟩, on⟩
    have hsW := hW.size
    have hszA : (W.alloc (.cells #[.nilIface] 103)).heap.size = W.heap.size + 1 := by simp
    rw [hszA] at hRo
    have u7 : w7.cell? ⟨w.heap.size + 3, 0, none⟩ = some u := (World.cell?_of_block (on.block (w.heap.size + 3) (World.block_lt_of_cell? _ _ hu) (by omega))).trans hu
    have R7 := Lib.hid (hRo.only on (fun k hk hs => by have := (hRo.lt k hk).1; omega))
    have hoz := ho.size
    rw [hszA] at hoz
    have B7 : Hid (Below w.heap.size w w7) := ((B6.out.trans (hW.mono (by omega))).trans ((below_alloc0 W (.cells #[.nilIface] 103)).mono (by omega))).trans ((ho.below (B := w.heap.size) (fun k hk _ hs => by omega) (by rw [hszA]; omega)).trans (on.below (B := w.heap.size) (fun k hk _ hs => by omega) (by omega)))
    clear hRo hu ho on
    go_wp2
    go_ret
    exact ⟨u, rfl, R7.out.lower (by omega), by first | exact B7.out | exact below_drewN0 B7.out _⟩
theorem wrongIds_len (b p : Int) (n : Nat) (S : Nat → ByteArray) (N : Nat) (MM : Nat → List (Int × ByteArray)) (x : Int) : (wrongIds b p n S N MM x).length ≤ (M.flat MM N).length := by
  unfold wrongIds
  split
  · exact wids_len b n S x.toNat MM (Nat.le_refl _)
  · exact Nat.zero_le _
end Go.Proofs.YtnaghfppeejaoaaDoor
