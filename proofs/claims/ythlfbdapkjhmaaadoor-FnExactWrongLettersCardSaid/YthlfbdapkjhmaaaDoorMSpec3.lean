/-
  Bins of a pass, in the model: l7Bins.
-/
import Derived.Test.YthlfbdapkjhmaaaDoorTake
import Derived.Test.YthlfbdapkjhmaaaDoorIntS
namespace Go.Proofs.YthlfbdapkjhmaaaDoor
open Go.RowKit
open Go.PlainAid (bt get_bt bt_nonneg bt_le)
set_option linter.unusedVariables false

/-- The bins are those of a pass of a plan. -/
def binsAll (b p : Int) (n : Nat) (S : Nat → ByteArray) (N : Nat) (MM : Nat → List (Int × ByteArray)) (x : Int) : Bool := M.plan b p n S && binsOk b N MM && decide (0 ≤ x ∧ x ≤ p - 1)

set_option maxHeartbeats 1000000 in
theorem spec_l7Bins (w : World) (b p : Int) (a : Option Addr) (n c : Nat) (S : Nat → ByteArray) (h : Strs w a n S) (hf : SFits n S) (hn : n ≤ 1048576) (base : Nat) (v : Value) (N : Nat) (V : Nat → Value) (MM : Nat → List (Int × ByteArray)) (h2 : Mat w base v N V MM) (hN : N ≤ 1048576) (hl : (M.flat MM N).length ≤ 1048576) (hf2 : Fits (M.flat MM N).length (nI (M.flat MM N)) (nC (M.flat MM N))) (x : Int) :
    Calls Tryd.prog 58 #[.agg #[.int .i64 b, .int .i64 p, .slice a n c], v, .int .i64 x] w fun e w' => e = .returned (.bool (binsAll b p n S N MM x)) ∧ Below w.heap.size w w' := by
  have HL := Lib.hid (h.on (below_alloc0 w (.cells #[.int .i64 b, .int .i64 p, .slice a n c] 34)))
  have HM := Lib.hid (h2.on (below_alloc0 w (.cells #[.int .i64 b, .int .i64 p, .slice a n c] 34)))
  have bx := Lib.hid (tri_made w (.int .i64 b) (.int .i64 p) (.slice a n c) 34)
  have HF := Lib.hid hf
  have HF2 := Lib.hid hf2
  obtain ⟨u, c2, hv⟩ : ∃ u c, v = .slice u N c := by
    rcases h2.form with ⟨rfl, rfl⟩ | ⟨g, c, rfl, _⟩
    · exact ⟨_, _, rfl⟩
    · exact ⟨_, _, rfl⟩
  subst hv
  clear h hf h2 hf2
  obtain ⟨⟨t0, t1, t2⟩, _⟩ := bx.out
  unfold binsAll
  obtain ⟨dd, hdd⟩ : ∃ dd, decide (0 ≤ x ∧ x ≤ p - 1) = dd := ⟨_, rfl⟩
  have HDD := Lib.hid hdd
  rw [hdd]
  clear hdd
  cases hp : M.plan b p n S
  · go_enter Tryd.func58, Tryd.ntmps58
    go_wp2_with fail
    refine (spec_PlanValid _ b p a n c S HL.out HF.out hn).mono ?_
    rw [hp]
    rintro e w1 ⟨rfl, hb1⟩
    go_wp2
    go_ret
    exact ⟨rfl, sstep (by go_grown) hb1⟩
  · obtain ⟨s1, s2, s3, s4⟩ := M.plan_shape hp
    have HP := Lib.hid hp
    clear hp
    by_cases hNb : (N : Int) = b
    · have hbq : ((N : Int) == b) = true := by simpa using hNb
      have hok : Hid (binsOk b N MM = M.batch (M.flat MM N).length (nI (M.flat MM N)) (nC (M.flat MM N))) := by unfold Hid binsOk; rw [decide_eq_true hNb, Bool.true_and]
      rw [hok.out]
      obtain ⟨L, hL⟩ : ∃ L, M.flat MM N = L := ⟨_, rfl⟩
      have HC : Hid (∀ W, Below w.heap.size w W → Mat W base (.slice u N c2) N V MM → Calls Tryd.prog 74 #[.slice u N c2] W (RowOut W L)) := fun W _ hW => by
        rw [← hL]
        exact spec_l2Collect W base _ N V MM hW hN hl
      rw [hL] at hl HF2 ⊢
      have HNb := Lib.hid hNb
      clear hL hNb hok
      cases hb : M.batch L.length (nI L) (nC L)
      · have HB := Lib.hid hb
        clear hb
        go_enter Tryd.func58, Tryd.ntmps58
        go_wp2_with fail
        refine (spec_PlanValid _ b p a n c S HL.out HF.out hn).mono ?_
        rw [HP.out]
        rintro e w1 ⟨rfl, hb1⟩
        have B1 : Hid (Below w.heap.size w w1) := sstep (by go_grown) hb1
        have M1 := Lib.hid (HM.out.on hb1)
        have bx1 := Lib.hid (bx.out.on hb1)
        clear t0 t1 t2 hb1
        obtain ⟨⟨t0, t1, t2⟩, _⟩ := bx1.out
        go_wp2_with fail
        refine (HC.out _ B1.out M1.out).mono ?_
        rintro e w2 ⟨v1, rfl, r1, k1⟩
        obtain ⟨a1, c1, rfl, _, l1⟩ := r1.form
        clear t0 t1 t2
        go_wp2_with fail
        refine (spec_BatchValid _ a1 _ c1 _ _ l1 HF2.out hl).mono ?_
        rw [HB.out]
        rintro e w3 ⟨rfl, k2⟩
        have B3 : Hid (Below w.heap.size w w3) := sstep (sstep B1.out k1) k2
        clear r1 l1 k1 k2
        go_wp2
        go_ret
        exact ⟨rfl, B3.out⟩
      · have HB := Lib.hid hb
        clear hb
        go_enter Tryd.func58, Tryd.ntmps58
        go_wp2_with fail
        refine (spec_PlanValid _ b p a n c S HL.out HF.out hn).mono ?_
        rw [HP.out]
        rintro e w1 ⟨rfl, hb1⟩
        have B1 : Hid (Below w.heap.size w w1) := sstep (by go_grown) hb1
        have M1 := Lib.hid (HM.out.on hb1)
        have bx1 := Lib.hid (bx.out.on hb1)
        clear t0 t1 t2 hb1
        obtain ⟨⟨t0, t1, t2⟩, _⟩ := bx1.out
        go_wp2_with fail
        refine (HC.out _ B1.out M1.out).mono ?_
        rintro e w2 ⟨v1, rfl, r1, k1⟩
        obtain ⟨a1, c1, rfl, _, l1⟩ := r1.form
        clear t0 t1 t2
        go_wp2_with fail
        refine (spec_BatchValid _ a1 _ c1 _ _ l1 HF2.out hl).mono ?_
        rw [HB.out]
        rintro e w3 ⟨rfl, k2⟩
        have B3 : Hid (Below w.heap.size w w3) := sstep (sstep B1.out k1) k2
        obtain ⟨⟨t0, t1, t2⟩, _⟩ := (bx1.out.on k1).on k2
        clear r1 l1 k1 k2
        go_wp2_with fail
        refine (spec_l1In x 0 (p - 1) _).mono ?_
        rw [HDD.out]
        rintro e w4 ⟨rfl, rfl⟩
        go_wp2
        go_ret
        exact ⟨rfl, B3.out⟩
    · have hbq : ((N : Int) == b) = false := by simpa using hNb
      have hok : Hid (binsOk b N MM = false) := by unfold Hid binsOk; rw [decide_eq_false hNb, Bool.false_and]
      rw [hok.out]
      clear hNb hok
      go_enter Tryd.func58, Tryd.ntmps58
      go_wp2_with fail
      refine (spec_PlanValid _ b p a n c S HL.out HF.out hn).mono ?_
      rw [HP.out]
      rintro e w1 ⟨rfl, hb1⟩
      have B1 : Hid (Below w.heap.size w w1) := sstep (by go_grown) hb1
      have bx1 := Lib.hid (bx.out.on hb1)
      clear t0 t1 t2 hb1
      obtain ⟨⟨t0, t1, t2⟩, _⟩ := bx1.out
      go_wp2
      go_ret
      exact ⟨rfl, B1.out⟩
/-- A row of numbers, of its own. -/
def IdsOut (w : World) (L : List Int) (e : Ending) (w' : World) : Prop := ∃ v, e = .returned v ∧ IRow w' w.heap.size v L ∧ Below w.heap.size w w'
/-- The numbers of the letters in wrong bins, of the first bins. -/
def wids (b : Int) (n : Nat) (S : Nat → ByteArray) (x : Nat) (MM : Nat → List (Int × ByteArray)) (k : Nat) : List Int := (M.flat (wrongL b n S x MM) k).map Prod.fst
theorem flat_upto (F : Nat → List (Int × ByteArray)) : ∀ {N k : Nat}, k ≤ N → (M.flat F k).length ≤ (M.flat F N).length
  | 0, k, h => by obtain rfl : k = 0 := by omega
                  exact Nat.le_refl _
  | N + 1, k, h => by
    by_cases e : k = N + 1
    · subst e; exact Nat.le_refl _
    · have ih := flat_upto F (N := N) (k := k) (by omega)
      show _ ≤ (M.flat F N ++ F N).length
      rw [List.length_append]
      omega
theorem wids_len (b : Int) (n : Nat) (S : Nat → ByteArray) (x : Nat) (MM : Nat → List (Int × ByteArray)) {N k : Nat} (h : k ≤ N) : (wids b n S x MM k).length ≤ (M.flat MM N).length := by
  unfold wids
  rw [List.length_map]
  exact Nat.le_trans (flat_sub (fun k => List.length_filter_le _ _) k) (flat_upto MM h)
theorem wids_succ (b : Int) (n : Nat) (S : Nat → ByteArray) (x : Nat) (MM : Nat → List (Int × ByteArray)) (k : Nat) : wids b n S x MM (k + 1) = wids b n S x MM k ++ (M.sansF (rightB b n S x k) (MM k)).map Prod.fst := by
  unfold wids
  show (M.flat (wrongL b n S x MM) k ++ wrongL b n S x MM k).map _ = _
  rw [List.map_append]
  rfl

set_option maxHeartbeats 4000000 in
set_option maxRecDepth 100000 in
theorem spec_WrongLetters_yes (w : World) (b p : Int) (a : Option Addr) (n c : Nat) (S : Nat → ByteArray) (h : Strs w a n S) (hf : SFits n S) (hn : n ≤ 1048576) (base : Nat) (v : Value) (N : Nat) (V : Nat → Value) (MM : Nat → List (Int × ByteArray)) (h2 : Mat w base v N V MM) (hN : N ≤ 1048576) (hl : (M.flat MM N).length ≤ 1048576) (hf2 : Fits (M.flat MM N).length (nI (M.flat MM N)) (nC (M.flat MM N))) (y : Nat) (hok : binsAll b p n S N MM y = true) :
    Calls Tryd.prog 28 #[.agg #[.int .i64 b, .int .i64 p, .slice a n c], v, .int .i64 y] w (IdsOut w (wids b n S y MM N)) := by
  have hk := hok
  unfold binsAll at hk
  simp only [Bool.and_eq_true, decide_eq_true_eq] at hk
  obtain ⟨⟨hp, hbo⟩, hx0, hx1⟩ := hk
  obtain ⟨s1, s2, s3, s4⟩ := M.plan_shape hp
  have hq3 : y ≤ 3 := by omega
  unfold binsOk at hbo
  rw [Bool.and_eq_true] at hbo
  have h60 := ((batchL_list _).1 hbo.2).2.2
  have hlen : Hid (∀ i, i < N → (MM i).length ≤ 60) := fun i hi => Nat.le_trans (flat_le MM hi) h60
  have hwl : Hid (∀ k, k ≤ N → (wids b n S y MM k).length ≤ 60) := fun k hk => Nat.le_trans (wids_len b n S y MM hk) h60
  obtain ⟨u, c2, hv⟩ : ∃ u c, v = .slice u N c := by
    rcases h2.form with ⟨rfl, rfl⟩ | ⟨g, c, rfl, _⟩
    · exact ⟨_, _, rfl⟩
    · exact ⟨_, _, rfl⟩
  subst hv
  have HBINS := Lib.hid (fun W (hW : Below w.heap.size w W) => spec_l7Bins W b p a n c S (h.on hW) hf hn base _ N V MM (h2.on hW) hN hl hf2 y)
  rw [hok] at HBINS
  have HRB := Lib.hid (fun W (hW : Below w.heap.size w W) s => spec_l3Bin W b p a n c S (h.on hW) hn s y s1 s2 hq3)
  have HM := Lib.hid h2
  have bx := Lib.hid (tri_made w (.int .i64 b) (.int .i64 p) (.slice a n c) 34)
  have E0 := Lib.hid (one_irow (w.alloc (.cells #[.int .i64 b, .int .i64 p, .slice a n c] 34)))
  have B1 : Hid (Below w.heap.size w (w.alloc (.cells #[.int .i64 b, .int .i64 p, .slice a n c] 34))) := below_alloc0 w _
  have X1 := Lib.hid (bx.out.on (below_alloc0 (w.alloc (.cells #[.int .i64 b, .int .i64 p, .slice a n c] 34)) (.cells #[] 3)))
  have E1 : Hid (Below w.heap.size w ((w.alloc (.cells #[.int .i64 b, .int .i64 p, .slice a n c] 34)).alloc (.cells #[] 3))) := (below_alloc0 w _).alloc (by simp) _
  obtain ⟨w2, hw2⟩ : ∃ w2, (w.alloc (.cells #[.int .i64 b, .int .i64 p, .slice a n c] 34)).alloc (.cells #[] 3) = w2 := ⟨_, rfl⟩
  rw [hw2] at E0 X1 E1
  have hz2 : w2.heap.size = w.heap.size + 2 := by rw [← hw2]; simp
  have HW2 := Lib.hid hw2
  simp only [World.size_alloc] at E0
  clear h hf h2 hf2 hok hp hbo h60 hx0 hx1 hw2 bx hl
  go_enter Tryd.func28, Tryd.ntmps28
  go_wp2
  rw [HW2.out]
  go_loopw [7, 8] (fun q i wr => ∃ k : Nat, k ≤ N ∧ i = .int .i64 k ∧ Hid (IRow wr (w.heap.size + 1) q (wids b n S y MM k)) ∧ Hid (Below w.heap.size w wr) ∧ Hid (Tri wr w.heap.size (.int .i64 b) (.int .i64 p) (.slice a n c)) ∧ w.heap.size + 1 < wr.heap.size) (fun _ i _ => N - (intOf i).toNat)
  case atStart => exact ⟨0, Nat.zero_le _, rfl, E0.out, E1, X1, by omega⟩
  case round =>
    obtain ⟨k, hk, rfl, hrow, BW, hX, hz1⟩ := hrel
    have hbz := BW.out.size
    obtain ⟨⟨t0, t1, t2⟩, _⟩ := hX.out
    by_cases hlt : k < N
    · go_wp2_with fail
      refine (HBINS.out _ BW.out).mono ?_
      rintro e w3 ⟨rfl, k3⟩
      have hz3 := k3.size
      have R3 := Lib.hid (hrow.out.on k3)
      have D3 : Hid (Below w.heap.size w w3) := step BW.out k3
      have X3 := Lib.hid (hX.out.on k3)
      have hM3 := HM.out.on BW.out
      obtain ⟨a2, l, hVk, hlc, hlts⟩ := (HM.out.2.1 k hlt).form
      obtain ⟨G, c', e1, g0, g1⟩ := HM.out.cell hlt
      have hGw := World.block_lt_of_cell? _ _ g0
      have G0 : w3.cell? ⟨G, k, none⟩ = some (V k) := ((BW.out.trans (k3.mono (by have := BW.out.size; omega))).cell (p := ⟨G, k, none⟩) hGw).trans g0
      obtain ⟨L, hL⟩ : ∃ L, MM k = L := ⟨_, rfl⟩
      have HLs := Lib.hid hL
      have hl60 := hlen.out k hlt
      have hw60 := hwl.out k hk
      have hsucc := Lib.hid (wids_succ b n S y MM k)
      rw [hL] at hlts hlc hl60 hsucc
      obtain ⟨nl, hnl⟩ : ∃ nl, L.length = nl := ⟨_, rfl⟩
      have HNL := Lib.hid hnl
      rw [hL, hnl] at hVk
      rw [hnl] at hlts hl60 hlc
      cases e1
      rw [hVk] at G0
      have HLT := Lib.hid hlts
      have hki : (k : Int) < (N : Int) := by omega
      have hk0 : (0 : Int) ≤ (k : Int) := by omega
      have hbl : Hid (∀ g o, a2 = some ⟨g, o, none⟩ → 0 < nl → g < w.heap.size) := fun g o e h0 => hlts.lt e h0
      clear t0 t1 t2 k3 hM3 g0 g1 hlts hnl hL hVk
      go_wp2
      go_loopw [7, 9] (fun q i wr => ∃ j : Nat, j ≤ nl ∧ i = .int .i64 j ∧ Hid (IRow wr (w.heap.size + 1) q (wids b n S y MM k ++ (M.sansF (rightB b n S y k) (M.lst (nI L) (nC L) j)).map Prod.fst)) ∧ Hid (Below w.heap.size w wr) ∧ Hid (Tri wr w.heap.size (.int .i64 b) (.int .i64 p) (.slice a n c)) ∧ w.heap.size + 1 < wr.heap.size ∧ wr.cell? ⟨G, k, none⟩ = some (.slice a2 nl l)) (fun _ i _ => nl - (intOf i).toNat)
      case atStart => exact ⟨0, Nat.zero_le _, rfl, by have := R3.out; unfold Hid; simpa [M.lst, M.sansF] using this, D3, X3, by omega, G0⟩
      case round =>
        obtain ⟨j, hj, rfl, hrow2, BW2, hX2, hz4, G2⟩ := hrel
        have hbz2 := BW2.out.size
        by_cases hjl : j < nl
        · obtain ⟨b2, o2, e2, q0, q1⟩ := (HLT.out.on BW2.out) j hjl
          have hb2w := hbl.out _ _ e2 (by omega)
          subst e2
          have hji : (j : Int) < (nl : Int) := by omega
          have hj0 : (0 : Int) ≤ (j : Int) := by omega
          obtain ⟨⟨t0, t1, t2⟩, _⟩ := hX2.out
          have HC := Lib.hid (HRB.out wr BW2.out (nC L j))
          have hsl := M.sansF_le (rightB b n S y k) (nI L) (nC L) j
          obtain ⟨dd, hdd⟩ : ∃ dd, (if M.rankTo S (nC L j) n < 0 then -1 else M.rankBin b (M.rankTo S (nC L j) n) y) = dd := ⟨_, rfl⟩
          rw [hdd] at HC
          have hrb : rightB b n S y k (nC L j) = (dd == (k : Int)) := by unfold rightB dueBin; rw [hdd]
          have HDD := Lib.hid hdd
          have hGl : G < wr.heap.size := World.block_lt_of_cell? _ _ G2
          cases hr : rightB b n S y k (nC L j)
          · have hbq : (dd == (k : Int)) = false := by rw [← hrb, hr]
            have hbq2 : (dd != (k : Int)) = true := by simp only [bne, hbq]; rfl
            have HS2 := Lib.hid (M.filt_no (I := nI L) hr).2
            clear hr hrb hdd HC
            go_wp2
            go_region_with (first
              | (go_at_call 59; refine (HRB.out _ (by first | exact BW2.out | exact BW2.out.trans ⟨rfl, rfl, rfl, Nat.le_refl _, fun _ _ => rfl⟩) _).mono ?_; rw [HDD.out]; rintro e wb ⟨rfl, hbb⟩; have kk : Below wr.heap.size wr wb := (by first | exact hbb | exact Below.trans (⟨rfl, rfl, rfl, Nat.le_refl _, fun _ _ => rfl⟩ : Below wr.heap.size wr wr.drew) hbb); have K5 := Lib.hid kk; have hz5 := kk.size; clear hbb kk))
            all_goals
              clear q0 q1 t0 t1 t2
              have G3 : wb.cell? ⟨G, k, none⟩ = some (.slice (some ⟨b2, o2, none⟩) nl l) := (K5.out.cell (p := ⟨G, k, none⟩) hGl).trans G2
              have D5 : Hid (Below w.heap.size w wb) := step BW2.out K5.out
              have X5 := Lib.hid (hX2.out.on K5.out)
              obtain ⟨b3, o3, e3, q0, q1⟩ := (HLT.out.on D5.out) j hjl
              cases e3
              clear G2
              go_wp2_with (at_builtin; refine wpList_append_int _ rfl _ _ rfl (w.heap.size + 1) u7 _ rfl ((hrow2.out.on K5.out).alloc _) _ (nI L j) rfl ?_ (by simp; omega) (by simp; omega) ?_)
              · simp [go_sem]
              · intro v1 w4 r1 gr1 ho1
                have R1 : Hid (IRow w4 (w.heap.size + 1) v1 (wids b n S y MM k ++ (M.sansF (rightB b n S y k) (M.lst (nI L) (nC L) (j + 1))).map Prod.fst)) := by unfold Hid; rw [HS2.out, List.map_append]; first | exact r1 | (rw [← List.append_assoc]; exact r1)
                have o4 : Only wb w4 (fun q => u7.ownBlock = some q) := (Only.new (S := fun q => u7.ownBlock = some q) (below_alloc0 wb (.cells #[.int .i64 (nI L j)] 3))).trans ((Only.of_grown gr1).mono (T := fun q => u7.ownBlock = some q) (fun x _ e => e.symm)) (fun _ _ h => h)
                have lr := (hrow2.out.on K5.out).lt
                have B4 : Hid (Below w.heap.size w w4) := D5.out.trans (o4.below (B := w.heap.size) (fun q hq _ hs => by have := (lr q hs).1; omega) (by omega))
                have X4 := Lib.hid (triOnly X5.out o4 (fun hs => by have := (lr _ hs).1; omega))
                have z4 := o4.size
                have G4 : w4.cell? ⟨G, k, none⟩ = some (.slice (some ⟨b2, o2, none⟩) nl l) := (World.cell?_of_block (a := ⟨G, k, none⟩) (o4.block G (by omega) (fun hs => by have := (lr G hs).1; omega))).trans G3
                clear r1 gr1 ho1 o4 lr G3
                go_wp2
                go_roundw
                case rel => exact ⟨j + 1, by omega, by go_num, R1, B4, X4, by omega, G4⟩
                case measure => simp [intOf]; omega
          · have hbq : (dd == (k : Int)) = true := by rw [← hrb, hr]
            have hbq2 : (dd != (k : Int)) = false := by simp only [bne, hbq]; rfl
            have HS2 := Lib.hid (M.filt_yes (I := nI L) hr).2
            clear hr hrb hdd HC
            go_wp2
            go_region_with (first
              | (go_at_call 59; refine (HRB.out _ (by first | exact BW2.out | exact BW2.out.trans ⟨rfl, rfl, rfl, Nat.le_refl _, fun _ _ => rfl⟩) _).mono ?_; rw [HDD.out]; rintro e wb ⟨rfl, hbb⟩; have kk : Below wr.heap.size wr wb := (by first | exact hbb | exact Below.trans (⟨rfl, rfl, rfl, Nat.le_refl _, fun _ _ => rfl⟩ : Below wr.heap.size wr wr.drew) hbb); have K5 := Lib.hid kk; have hz5 := kk.size; clear hbb kk))
            all_goals
              have G3 : wb.cell? ⟨G, k, none⟩ = some (.slice (some ⟨b2, o2, none⟩) nl l) := (K5.out.cell (p := ⟨G, k, none⟩) hGl).trans G2
              have D5 : Hid (Below w.heap.size w wb) := step BW2.out K5.out
              have X5 := Lib.hid (hX2.out.on K5.out)
              have R5 := Lib.hid (hrow2.out.on K5.out)
              clear q0 q1 t0 t1 t2 G2
              go_wp2
              go_roundw
              case rel => exact ⟨j + 1, by omega, by go_num, by rw [HS2.out]; exact R5, D5, X5, by omega, G3⟩
              case measure => simp [intOf]; omega
        · obtain rfl : j = nl := by omega
          go_wp2
          go_roundw
          case rel => exact ⟨k + 1, by omega, by go_num, by rw [hsucc.out]; have := hrow2.out; rw [← HNL.out, lst_nI] at this; exact this, BW2, hX2, hz4⟩
          case measure => simp [intOf]; omega
    · obtain rfl : k = N := by omega
      go_wp2
      go_ret
      exact ⟨_, rfl, hrow.out.lower (by omega), BW.out⟩

set_option maxHeartbeats 1000000 in
theorem spec_WrongLetters_no (w : World) (b p : Int) (a : Option Addr) (n c : Nat) (S : Nat → ByteArray) (h : Strs w a n S) (hf : SFits n S) (hn : n ≤ 1048576) (base : Nat) (v : Value) (N : Nat) (V : Nat → Value) (MM : Nat → List (Int × ByteArray)) (h2 : Mat w base v N V MM) (hN : N ≤ 1048576) (hl : (M.flat MM N).length ≤ 1048576) (hf2 : Fits (M.flat MM N).length (nI (M.flat MM N)) (nC (M.flat MM N))) (x : Int) (hok : binsAll b p n S N MM x = false) :
    Calls Tryd.prog 28 #[.agg #[.int .i64 b, .int .i64 p, .slice a n c], v, .int .i64 x] w (IdsOut w []) := by
  obtain ⟨u, c2, hv⟩ : ∃ u c, v = .slice u N c := by
    rcases h2.form with ⟨rfl, rfl⟩ | ⟨g, c, rfl, _⟩
    · exact ⟨_, _, rfl⟩
    · exact ⟨_, _, rfl⟩
  subst hv
  have HBINS := Lib.hid (fun W (hW : Below w.heap.size w W) => spec_l7Bins W b p a n c S (h.on hW) hf hn base _ N V MM (h2.on hW) hN hl hf2 x)
  rw [hok] at HBINS
  have bx := Lib.hid (tri_made w (.int .i64 b) (.int .i64 p) (.slice a n c) 34)
  have E0 := Lib.hid (one_irow (w.alloc (.cells #[.int .i64 b, .int .i64 p, .slice a n c] 34)))
  have X1 := Lib.hid (bx.out.on (below_alloc0 (w.alloc (.cells #[.int .i64 b, .int .i64 p, .slice a n c] 34)) (.cells #[] 3)))
  have E1 : Hid (Below w.heap.size w ((w.alloc (.cells #[.int .i64 b, .int .i64 p, .slice a n c] 34)).alloc (.cells #[] 3))) := (below_alloc0 w _).alloc (by simp) _
  obtain ⟨w2, hw2⟩ : ∃ w2, (w.alloc (.cells #[.int .i64 b, .int .i64 p, .slice a n c] 34)).alloc (.cells #[] 3) = w2 := ⟨_, rfl⟩
  rw [hw2] at E0 X1 E1
  have HW2 := Lib.hid hw2
  simp only [World.size_alloc] at E0
  clear h hf h2 hf2 hok hw2 bx hl
  go_enter Tryd.func28, Tryd.ntmps28
  go_wp2
  rw [HW2.out]
  go_loopw [7, 8] (fun q i wr => q = .slice (some ⟨w.heap.size + 1, 0, none⟩) 0 0 ∧ i = .int .i64 0 ∧ wr = w2) (fun _ i _ => (intOf i).toNat)
  case atStart => exact ⟨rfl, rfl, rfl⟩
  case round =>
    obtain ⟨rfl, rfl, rfl⟩ := hrel
    obtain ⟨⟨t0, t1, t2⟩, _⟩ := X1.out
    by_cases h0 : 0 < N
    · have h0' : (0 : Int) < (N : Int) := by omega
      go_wp2_with fail
      refine (HBINS.out _ E1.out).mono ?_
      rintro e w3 ⟨rfl, k3⟩
      have R3 := Lib.hid (E0.out.on k3)
      have D3 : Hid (Below w.heap.size w w3) := step E1.out k3
      go_wp2
      go_ret
      exact ⟨_, rfl, R3.out.lower (show w.heap.size ≤ w.heap.size + 1 from Nat.le_succ _), D3.out⟩
    · obtain rfl : N = 0 := by omega
      go_wp2
      go_ret
      exact ⟨_, rfl, E0.out.lower (show w.heap.size ≤ w.heap.size + 1 from Nat.le_succ _), E1.out⟩

/-- The numbers of the letters in wrong bins. -/
def wrongIds (b p : Int) (n : Nat) (S : Nat → ByteArray) (N : Nat) (MM : Nat → List (Int × ByteArray)) (x : Int) : List Int := if binsAll b p n S N MM x = true then wids b n S x.toNat MM N else []
theorem spec_WrongLetters (w : World) (b p : Int) (a : Option Addr) (n c : Nat) (S : Nat → ByteArray) (h : Strs w a n S) (hf : SFits n S) (hn : n ≤ 1048576) (base : Nat) (v : Value) (N : Nat) (V : Nat → Value) (MM : Nat → List (Int × ByteArray)) (h2 : Mat w base v N V MM) (hN : N ≤ 1048576) (hl : (M.flat MM N).length ≤ 1048576) (hf2 : Fits (M.flat MM N).length (nI (M.flat MM N)) (nC (M.flat MM N))) (x : Int) :
    Calls Tryd.prog 28 #[.agg #[.int .i64 b, .int .i64 p, .slice a n c], v, .int .i64 x] w (IdsOut w (wrongIds b p n S N MM x)) := by
  unfold wrongIds
  cases hok : binsAll b p n S N MM x
  · rw [if_neg (by decide)]
    exact spec_WrongLetters_no w b p a n c S h hf hn base v N V MM h2 hN hl hf2 x hok
  · rw [if_pos rfl]
    have hk := hok
    unfold binsAll at hk
    simp only [Bool.and_eq_true, decide_eq_true_eq] at hk
    obtain ⟨y, rfl⟩ := Int.eq_ofNat_of_zero_le hk.2.1
    rw [Int.toNat_natCast]
    exact spec_WrongLetters_yes w b p a n c S h hf hn base v N V MM h2 hN hl hf2 y hok
end Go.Proofs.YthlfbdapkjhmaaaDoor
