/-
  What l5Fill, FillTrays and FillByPrefix of the model return.
-/
import Derived.Test.YtobmenbhbeflhaaFillM
import Derived.Test.YtobmenbhbeflhaaTry
import Derived.Test.YtobmenbhbeflhaaBins3
import Derived.Deep.RegionLaw
import Derived.Deep.AppendLies
import Derived.BigQuiet
namespace Go.Proofs.Ytobmenbhbeflhaa
open Go.RowKit
open Go.PlainAid (bt get_bt bt_nonneg bt_le)
set_option linter.unusedVariables false

theorem pre_size {C : Nat → ByteArray} {d i : Nat} (h : (C i).size = 7) (hd : d ≤ 7) : (pre C d i).size = d := by
  unfold pre; simp [ByteArray.size_extract]; omega
set_option maxHeartbeats 4000000 in
set_option maxRecDepth 100000 in
theorem spec_l5Fill (w : World) (a : Option Addr) (n c : Nat) (I : Nat → Int) (C : Nat → ByteArray) (h : Lts w a n I C) (hb : M.batch n I C = true) (s : Int) (hs : 1 ≤ s ∧ s ≤ 20) (d : Nat) (hd : d ≤ 7) :
    Calls Try.prog 40 #[.slice a n c, .int .i64 s, .int .i64 (d : Int)] w fun e w' => ∃ v V, e = .returned v ∧ Mat w' w.heap.size v (fN I C s d n) V (fM I C s d n) ∧ Below w.heap.size w w' := by
  obtain ⟨hn, hcode⟩ := M.batch_yes hb
  have HS := Lib.hid (fun i (hi : i < n) => (M.code_yes (hcode i hi).1).2)
  have HL := Lib.hid h
  obtain ⟨s1, s20⟩ := hs
  have HFN := Lib.hid (fN_le I C s d)
  have HFL := Lib.hid (fM_len I C s d)
  obtain ⟨W1, hW1⟩ : ∃ W1, w.alloc (.cells #[] 23) = W1 := ⟨_, rfl⟩
  have k1 : Below w.heap.size w W1 := by rw [← hW1]; exact below_alloc0 w _
  have E0 : Hid (Mat W1 w.heap.size (.slice (some ⟨w.heap.size, 0, none⟩) 0 0) 0 (fun _ => .slice none 0 0) (fun _ => [])) := by
    refine ⟨?_, fun i hi => absurd hi (by omega), fun i j hi => absurd hi (by omega)⟩
    rw [← hW1]
    exact World.ownsRow_lit (base := w.heap.size) (e := 23) (size := 1) w #[] 0 (Nat.le_refl _) (by unfold maxLen; omega) rfl
  have K1 := Lib.hid k1
  have HW1 := Lib.hid hW1
  clear h hb hcode hW1 k1
  go_enter Try.func40, Try.ntmps40
  go_wp2
  rw [HW1.out]
  go_loopw [7, 8] (fun q i wr => ∃ (k g e : Nat) (V : Nat → Value), k ≤ n ∧ i = .int .i64 k ∧ q = .slice (some ⟨g, 0, none⟩) (fN I C s d k) e ∧ Hid (Mat wr w.heap.size (.slice (some ⟨g, 0, none⟩) (fN I C s d k) e) (fN I C s d k) V (fM I C s d k)) ∧ Hid (Below w.heap.size w wr)) (fun _ i _ => n - (intOf i).toNat)
  case atStart => exact ⟨0, _, _, _, Nat.zero_le _, rfl, rfl, E0, K1⟩
  case round =>
    obtain ⟨k, g, e, V, hk, rfl, rfl, hm, hb⟩ := hrel
    by_cases hlt : k < n
    · obtain ⟨N, hN⟩ : ∃ N, fN I C s d k = N := ⟨_, rfl⟩
      have hNk : N ≤ k := by have := HFN.out k; omega
      rw [hN] at hm ⊢
      have HNN := Lib.hid hN
      obtain ⟨MM, hMM⟩ : ∃ MM, fM I C s d k = MM := ⟨_, rfl⟩
      rw [hMM] at hm
      have HMM := Lib.hid hMM
      have hml := HFL.out k
      rw [hN, hMM] at hml
      have HML := Lib.hid hml
      obtain ⟨b, o, rfl, c0, c1⟩ := (HL.out.on hb.out) k hlt
      have hsz := HS.out k hlt
      clear hN hMM hml
      by_cases hN0 : N = 0
      · have HC : Hid (cutAt C s d k (fN I C s d k) (fM I C s d k) = true) := by rw [Hid, HNN.out, hN0]; exact cut_none
        have m0 : decide ((N : Int) - 1 < 0) = true := decide_eq_true (by omega)
        have w0 : IntKind.i64.wrap ((N : Int) - 1) = (N : Int) - 1 := IntWalk.i64_in _ (by omega)
        have w00 : IntKind.i64.wrap ((N : Int) - 1 + 1) = (N : Int) := by rw [IntWalk.i64_in _ (by omega)]; omega
        have H0 := Lib.hid hN0
        clear hN0 c0 c1
        go_wp2
        go_quiet (fail)
        obtain ⟨wq, hwq⟩ : ∃ wq, wr.drewN nq = wq := ⟨_, rfl⟩
        have kq : Below wr.heap.size wr wq := hwq ▸ ⟨rfl, rfl, rfl, Nat.le_refl _, fun _ _ => rfl⟩
        rw [hwq]
        have hm2 := Lib.hid (hm.out.on kq)
        have hb2 := Lib.hid (sstep hb.out kq)
        have hz2 := hb2.out.size
        clear hwq kq
        have x0 : Hid (Row (wq.alloc (.cells #[] 31)) wq.heap.size (.slice (some ⟨wq.heap.size, 0, none⟩) 0 0) []) := one_row wq
        have Q3 := Lib.hid (hm2.out.on (below_alloc0 wq (.cells #[] 31)))
        have o13 : Hid (Only wq (wq.alloc (.cells #[] 31)) (fun _ => False)) := Only.new (below_alloc0 wq _)
        obtain ⟨i0, hi, hz0, hz1, hz3⟩ := info_parts info_row
        go_wp2_with (at_builtin; refine wpList_append_own_at _ rfl _ _ 26 rfl w.heap.size 23 i0 _ 1 24 Try.underlying26 hi hz0 hz1 hz3 rfl (by decide) (.slice (some ⟨g, 0, none⟩) (N) e) (N) (vcells V (N)) rfl (World.ownsRow.alloc Q3.out.1 _) ⟨wq.heap.size + 1, 0, none⟩ 1 1 [.slice (some ⟨wq.heap.size, 0, none⟩) 0 0] rfl rfl (by intro j u hu; match j, hu with | 0, hu => (simp at hu; subst hu; simp [Addr.add])) (by intro u hu; simp at hu; subst hu; rfl) (by unfold maxLen; omega) (by omega) (by simp; omega) ?_)
        intro v2 w4 r2 gr2 hnn ho2
        have o34 : Only (wq.alloc (.cells #[] 31)) w4 (fun q => (Value.slice (some ⟨g, 0, none⟩) (N) e).ownBlock = some q) := (Only.new (S := fun q => (Value.slice (some ⟨g, 0, none⟩) (N) e).ownBlock = some q) (below_alloc0 _ _)).trans ((Only.of_grown gr2).mono (T := fun q => (Value.slice (some ⟨g, 0, none⟩) (N) e).ownBlock = some q) (fun x _ e => e.symm)) (fun _ _ h => h)
        have P4 := hm2.out.push (x0.out.lower hz2) o13.out (fun q hq' => (x0.out.lt q hq').1) r2 o34
        have O14 : Only wq w4 (fun q => (Value.slice (some ⟨g, 0, none⟩) (N) e).ownBlock = some q) := (o13.out.mono (T := fun q => (Value.slice (some ⟨g, 0, none⟩) (N) e).ownBlock = some q) (fun _ _ h => h.elim)).trans o34 (fun _ _ h => h)
        have hb4' := Lib.hid (hb2.out.trans (O14.below (B := w.heap.size) (fun q _ _ e => by have := (hm2.out.lt (Or.inl e)).1; omega) hz2))
        rcases P4.form with ⟨_, e0⟩ | ⟨g9, e9, rfl, _, _, _⟩
        · exact absurd e0 (by omega)
        have P5 := Lib.hid P4
        have HF1 := Lib.hid ((fill_cut HC.out).1.trans (by rw [HNN.out]))
        have HF2 : Hid (∀ i, upd (upd MM (N) []) (N) (upd MM (N) [] (N) ++ [(I (k), C (k))]) i = fM I C s d (k + 1) i) := fun i => by
          rw [(fill_cut HC.out).2, HNN.out, HMM.out]
          unfold upd
          by_cases ei : i = N
          · rw [if_pos ei, if_pos ei, if_pos rfl]; rfl
          · rw [if_neg ei, if_neg ei, if_neg ei]
        clear r2 gr2 ho2 hnn o34 O14 P4
        go_wp2
        obtain ⟨_, _, e7, p0, p1⟩ := (HL.out.on hb4'.out) (k) (by omega)
        cases e7
        have hz9 := hb4'.out.size
        have lb9 : b < w.heap.size := by
          obtain ⟨_, _, e8, p8, _⟩ := HL.out (k) (by omega)
          cases e8
          exact World.block_lt_of_cell? _ _ p8
        obtain ⟨L0, hL0⟩ : ∃ L0, (upd MM (N) []) (N) = L0 := ⟨_, rfl⟩
        have hll0 : L0.length ≤ 60 := by rw [← hL0]; exact (by rw [upd_same]; exact Nat.zero_le _)
        have hrow0 := P5.out.2.1 (N) (by omega)
        rw [hL0] at hrow0
        obtain ⟨aR, cR, hvR, hlcR, _⟩ := hrow0.form
        obtain ⟨_, _, e9', g0', g1'⟩ := P5.out.cell (show N < N + 1 by omega)
        cases e9'
        have HR := Lib.hid hrow0
        have hrowne : ∀ q, ((upd V (N) (.slice (some ⟨wq.heap.size, 0, none⟩) 0 0)) (N)).ownBlock = some q → q ≠ g9 ∧ q < w4.heap.size := fun q hq => ⟨fun e => by subst e; exact P5.out.outer (show N < N + 1 by omega) rfl hq, (P5.out.lt (Or.inr ⟨N, by omega, hq⟩)).2⟩
        have HVV := Lib.hid hvR
        rw [hvR] at g0' HR hrowne
        have HRow := Lib.hid hrowne
        have hG9 := (P5.out.lt (k := g9) (Or.inl rfl))
        have hne1 : g9 ≠ w4.heap.size := by omega
        have hne2 : w4.heap.size ≠ g9 := by omega
        have hG3 : g9 < w4.heap.size := by omega
        have hb3 : b < w4.heap.size := by omega
        have hb4 : b ≠ w4.heap.size := by omega
        have hdi : (((N : Nat) : Int)) < (((N + 1 : Nat) : Int)) := by omega
        have hd0 : (0 : Int) ≤ (((N : Nat) : Int)) := by omega
        have hdA : (((N : Nat) : Int)) < (((N : Nat) : Int)) + 1 := by omega
        have hdB : (0 : Int) ≤ (((N : Nat) : Int)) + 1 := by omega
        have hdC : (0 : Int) ≤ (((k : Nat) : Int)) + 1 := by omega
        have HL0 := Lib.hid hL0
        obtain ⟨i1, hi1, hz10, hz11, hz12⟩ := info_parts info_letter
        clear hrowne hvR hlcR hrow0 hL0 lb9
        go_region_law (refine step_append_lies _ (by rfl) _ _ 23 (by rfl) w.heap.size 31 i1 _ 2 24 Try.underlying23 hi1 hz10 hz11 hz12 rfl (by decide) _ L0.length (lcells L0) (by rfl) (World.ownsRow.alloc (show _ from HR.out) _) ⟨w4.heap.size, 0, none⟩ 1 1 [.int .i64 (I (k)), .string (C (k))] (by rfl) rfl (by intro j u hu; match j, hu with | 0, hu => (simp at hu; subst hu; simp [Addr.add]) | 1, hu => (simp at hu; subst hu; simp [Addr.add])) (by intro u hu; simp at hu; rcases hu with rfl | rfl <;> rfl) (by decide) (by unfold maxLen; omega) (by omega) (by simp; omega) (w4.heap.size + 1) (by simp) ?_; intro g' cap w9 hown hgrow hat hlt9; have o3 : Only w4 w9 (fun k => (Value.slice aR L0.length cR).ownBlock = some k) := Only.trans (Only.new (S := fun k => (Value.slice aR L0.length cR).ownBlock = some k) (by go_grown)) ((Only.of_grown hgrow).mono (T := fun k => (Value.slice aR L0.length cR).ownBlock = some k) (fun x _ e => e.symm)) (fun _ _ h => h); have hbG : w9.heap[g9]? = w4.heap[g9]? := o3.block g9 (by omega) (fun e => (HRow.out g9 e).1 rfl); have s0 : w9.cell? ⟨g9, N, none⟩ = some (.slice aR L0.length cR) := (World.cell?_of_block (a := ⟨g9, N, none⟩) hbG).trans g0'; have s1 : w9.frozen? ⟨g9, N, none⟩ = false := (World.frozen?_of_block (a := ⟨g9, N, none⟩) hbG).trans g1'; have HO := Lib.hid hown; have O3 := Lib.hid o3; have HA : Hid ((Value.slice aR L0.length cR).ownBlock = some g' ∨ g' = w4.heap.size + 1) := hat; clear hown hgrow o3 hat hbG)
        all_goals
          have HX : Hid (∀ k, (Value.slice (some ⟨g', 0, none⟩) (L0.length + 1) cap).ownBlock = some k → ((upd V (N) (.slice (some ⟨wq.heap.size, 0, none⟩) 0 0)) (N)).ownBlock = some k ∨ w4.heap.size ≤ k) := fun k hk => by
            have e : g' = k := by simpa [Value.ownBlock] using hk
            subst e
            rcases HA.out with h | h
            · exact Or.inl (by rw [HVV.out]; exact h)
            · exact Or.inr (by omega)
          have HRW : Row w9 w.heap.size (.slice (some ⟨g', 0, none⟩) (L0.length + 1) cap) (L0 ++ [(I (k), C (k))]) := by
            unfold Row
            rw [lcells_append, List.length_append]
            exact HO.out
          have HMP := Lib.hid (P5.out.put (show N < N + 1 by omega) HRW (by rw [HVV.out]; exact O3.out) HX.out)
          have HB9 : Hid (Below w.heap.size w (w9.setCell ⟨g9, N, none⟩ (.slice (some ⟨g', 0, none⟩) (L0.length + 1) cap))) :=
            (hb4'.out.trans (O3.out.below (B := w.heap.size) (fun q _ _ e => by have := (HR.out.lt q e).1; omega) hz9)).setCell (by show w.heap.size ≤ g9; omega) _
          go_wp2
          go_roundw
          case rel => exact ⟨k + 1, g9, _, _, by omega, by go_num, by rw [HF1.out], by rw [Hid, HF1.out]; exact HMP.out.congr (fun i _ => by rw [HL0.out.symm]; exact HF2.out i), HB9.out⟩
          case measure => simp [intOf]; omega
      · obtain ⟨m, rfl⟩ : ∃ m, N = m + 1 := ⟨N - 1, by omega⟩
        have hk0 : 0 < k := by omega
        obtain ⟨j, rfl⟩ : ∃ j, k = j + 1 := ⟨k - 1, by omega⟩
        obtain ⟨_, _, e1, d0, d1⟩ := (HL.out.on hb.out) j (by omega)
        cases e1
        have hsz2 := HS.out j (by omega)
        obtain ⟨g1, a2, c2, e1, g0, hl2⟩ := mat_at hm.out (show m < m + 1 by omega)
        cases e1
        have w1 : IntKind.i64.wrap (((m + 1 : Nat) : Int) - 1) = (m : Int) := by rw [IntWalk.i64_in _ (by omega)]; omega
        have w2 : IntKind.i64.wrap ((m : Int) + 1 - 1) = (m : Int) := by rw [IntWalk.i64_in _ (by omega)]; omega
        have w3 : IntKind.i64.wrap (((j + 1 : Nat) : Int) - 1) = (j : Int) := by rw [IntWalk.i64_in _ (by omega)]; omega
        have w4 : IntKind.i64.wrap ((j : Int) + 1 - 1) = (j : Int) := by rw [IntWalk.i64_in _ (by omega)]; omega
        have m0 : decide ((m : Int) < 0) = false := decide_eq_false (by omega)
        have dd0 : (0 : Int) ≤ (d : Int) := by omega
        have dd1 : (d : Int) ≤ ((C (j + 1)).size : Int) := by omega
        have dd2 : (d : Int) ≤ ((C j).size : Int) := by omega
        have dd3 : ((d : Int)).toNat = d := rfl
        have jn : (j : Int) + 1 < (n : Int) := by omega
        obtain ⟨lm, hlm⟩ : ∃ lm, (MM m).length = lm := ⟨_, rfl⟩
        rw [hlm] at g0
        have hcut : Hid (cutAt C s d (j + 1) (fN I C s d (j + 1)) (fM I C s d (j + 1)) = (decide ((lm : Int) = s) || decide ((C (j + 1)).extract 0 d ≠ (C j).extract 0 d))) := by
          rw [Hid, HNN.out, HMM.out, cut_some (by omega)]
          show (decide (((MM m).length : Int) = s) || _) = _
          rw [hlm]; rfl
        obtain ⟨P1, hP1⟩ : ∃ P1, (C (j + 1)).extract 0 d = P1 := ⟨_, rfl⟩
        obtain ⟨P2, hP2⟩ : ∃ P2, (C j).extract 0 d = P2 := ⟨_, rfl⟩
        rw [hP1, hP2] at hcut
        have hll3 : (MM m).length ≤ 60 := by have := HML.out m (by omega); omega
        have HL3 := Lib.hid hll3
        have HLM := Lib.hid hlm
        clear hlm hll3
        by_cases hc1 : (lm : Int) = s
        · have q1 : ((lm : Int) == s) = true := by rw [hc1]; simp
          have HC : Hid (cutAt C s d (j + 1) (fN I C s d (j + 1)) (fM I C s d (j + 1)) = true) := by rw [Hid, hcut.out, decide_eq_true hc1]; rfl
          have HC1 := Lib.hid hc1
          clear hc1
          go_wp2
          go_quiet (fail)
          obtain ⟨wq, hwq⟩ : ∃ wq, wr.drewN nq = wq := ⟨_, rfl⟩
          have kq : Below wr.heap.size wr wq := hwq ▸ ⟨rfl, rfl, rfl, Nat.le_refl _, fun _ _ => rfl⟩
          rw [hwq]
          have hm2 := Lib.hid (hm.out.on kq)
          have hb2 := Lib.hid (sstep hb.out kq)
          have hz2 := hb2.out.size
          clear hwq kq c0 c1 d0 d1 g0
          have x0 : Hid (Row (wq.alloc (.cells #[] 31)) wq.heap.size (.slice (some ⟨wq.heap.size, 0, none⟩) 0 0) []) := one_row wq
          have Q3 := Lib.hid (hm2.out.on (below_alloc0 wq (.cells #[] 31)))
          have o13 : Hid (Only wq (wq.alloc (.cells #[] 31)) (fun _ => False)) := Only.new (below_alloc0 wq _)
          obtain ⟨i0, hi, hz0, hz1, hz3⟩ := info_parts info_row
          go_wp2_with (at_builtin; refine wpList_append_own_at _ rfl _ _ 26 rfl w.heap.size 23 i0 _ 1 24 Try.underlying26 hi hz0 hz1 hz3 rfl (by decide) (.slice (some ⟨g, 0, none⟩) (m + 1) e) (m + 1) (vcells V (m + 1)) rfl (World.ownsRow.alloc Q3.out.1 _) ⟨wq.heap.size + 1, 0, none⟩ 1 1 [.slice (some ⟨wq.heap.size, 0, none⟩) 0 0] rfl rfl (by intro j u hu; match j, hu with | 0, hu => (simp at hu; subst hu; simp [Addr.add])) (by intro u hu; simp at hu; subst hu; rfl) (by unfold maxLen; omega) (by omega) (by simp; omega) ?_)
          intro v2 w4 r2 gr2 hnn ho2
          have o34 : Only (wq.alloc (.cells #[] 31)) w4 (fun q => (Value.slice (some ⟨g, 0, none⟩) (m + 1) e).ownBlock = some q) := (Only.new (S := fun q => (Value.slice (some ⟨g, 0, none⟩) (m + 1) e).ownBlock = some q) (below_alloc0 _ _)).trans ((Only.of_grown gr2).mono (T := fun q => (Value.slice (some ⟨g, 0, none⟩) (m + 1) e).ownBlock = some q) (fun x _ e => e.symm)) (fun _ _ h => h)
          have P4 := hm2.out.push (x0.out.lower hz2) o13.out (fun q hq' => (x0.out.lt q hq').1) r2 o34
          have O14 : Only wq w4 (fun q => (Value.slice (some ⟨g, 0, none⟩) (m + 1) e).ownBlock = some q) := (o13.out.mono (T := fun q => (Value.slice (some ⟨g, 0, none⟩) (m + 1) e).ownBlock = some q) (fun _ _ h => h.elim)).trans o34 (fun _ _ h => h)
          have hb4' := Lib.hid (hb2.out.trans (O14.below (B := w.heap.size) (fun q _ _ e => by have := (hm2.out.lt (Or.inl e)).1; omega) hz2))
          rcases P4.form with ⟨_, e0⟩ | ⟨g9, e9, rfl, _, _, _⟩
          · exact absurd e0 (by omega)
          have P5 := Lib.hid P4
          have HF1 := Lib.hid ((fill_cut HC.out).1.trans (by rw [HNN.out]))
          have HF2 : Hid (∀ i, upd (upd MM (m + 1) []) (m + 1) (upd MM (m + 1) [] (m + 1) ++ [(I (j + 1), C (j + 1))]) i = fM I C s d (j + 1 + 1) i) := fun i => by
            rw [(fill_cut HC.out).2, HNN.out, HMM.out]
            unfold upd
            by_cases ei : i = m + 1
            · rw [if_pos ei, if_pos ei, if_pos rfl]; rfl
            · rw [if_neg ei, if_neg ei, if_neg ei]
          clear r2 gr2 ho2 hnn o34 O14 P4
          go_wp2
          obtain ⟨_, _, e7, p0, p1⟩ := (HL.out.on hb4'.out) (j + 1) (by omega)
          cases e7
          have hz9 := hb4'.out.size
          have lb9 : b < w.heap.size := by
            obtain ⟨_, _, e8, p8, _⟩ := HL.out (j + 1) (by omega)
            cases e8
            exact World.block_lt_of_cell? _ _ p8
          obtain ⟨L0, hL0⟩ : ∃ L0, (upd MM (m + 1) []) (m + 1) = L0 := ⟨_, rfl⟩
          have hll0 : L0.length ≤ 60 := by rw [← hL0]; exact (by rw [upd_same]; exact Nat.zero_le _)
          have hrow0 := P5.out.2.1 (m + 1) (by omega)
          rw [hL0] at hrow0
          obtain ⟨aR, cR, hvR, hlcR, _⟩ := hrow0.form
          obtain ⟨_, _, e9', g0', g1'⟩ := P5.out.cell (show m + 1 < m + 1 + 1 by omega)
          cases e9'
          have HR := Lib.hid hrow0
          have hrowne : ∀ q, ((upd V (m + 1) (.slice (some ⟨wq.heap.size, 0, none⟩) 0 0)) (m + 1)).ownBlock = some q → q ≠ g9 ∧ q < w4.heap.size := fun q hq => ⟨fun e => by subst e; exact P5.out.outer (show m + 1 < m + 1 + 1 by omega) rfl hq, (P5.out.lt (Or.inr ⟨m + 1, by omega, hq⟩)).2⟩
          have HVV := Lib.hid hvR
          rw [hvR] at g0' HR hrowne
          have HRow := Lib.hid hrowne
          have hG9 := (P5.out.lt (k := g9) (Or.inl rfl))
          have hne1 : g9 ≠ w4.heap.size := by omega
          have hne2 : w4.heap.size ≠ g9 := by omega
          have hG3 : g9 < w4.heap.size := by omega
          have hb3 : b < w4.heap.size := by omega
          have hb4 : b ≠ w4.heap.size := by omega
          have hdi : (((m + 1 : Nat) : Int)) < (((m + 1 + 1 : Nat) : Int)) := by omega
          have hd0 : (0 : Int) ≤ (((m + 1 : Nat) : Int)) := by omega
          have hdA : (((m : Nat) : Int)) < (((m : Nat) : Int)) + 1 := by omega
          have hdB : (0 : Int) ≤ (((m : Nat) : Int)) + 1 := by omega
          have hdC : (0 : Int) ≤ (((j : Nat) : Int)) + 1 := by omega
          have HL0 := Lib.hid hL0
          obtain ⟨i1, hi1, hz10, hz11, hz12⟩ := info_parts info_letter
          clear hrowne hvR hlcR hrow0 hL0 lb9
          go_region_law (refine step_append_lies _ (by rfl) _ _ 23 (by rfl) w.heap.size 31 i1 _ 2 24 Try.underlying23 hi1 hz10 hz11 hz12 rfl (by decide) _ L0.length (lcells L0) (by rfl) (World.ownsRow.alloc (show _ from HR.out) _) ⟨w4.heap.size, 0, none⟩ 1 1 [.int .i64 (I (j + 1)), .string (C (j + 1))] (by rfl) rfl (by intro j u hu; match j, hu with | 0, hu => (simp at hu; subst hu; simp [Addr.add]) | 1, hu => (simp at hu; subst hu; simp [Addr.add])) (by intro u hu; simp at hu; rcases hu with rfl | rfl <;> rfl) (by decide) (by unfold maxLen; omega) (by omega) (by simp; omega) (w4.heap.size + 1) (by simp) ?_; intro g' cap w9 hown hgrow hat hlt9; have o3 : Only w4 w9 (fun k => (Value.slice aR L0.length cR).ownBlock = some k) := Only.trans (Only.new (S := fun k => (Value.slice aR L0.length cR).ownBlock = some k) (by go_grown)) ((Only.of_grown hgrow).mono (T := fun k => (Value.slice aR L0.length cR).ownBlock = some k) (fun x _ e => e.symm)) (fun _ _ h => h); have hbG : w9.heap[g9]? = w4.heap[g9]? := o3.block g9 (by omega) (fun e => (HRow.out g9 e).1 rfl); have s0 : w9.cell? ⟨g9, m + 1, none⟩ = some (.slice aR L0.length cR) := (World.cell?_of_block (a := ⟨g9, m + 1, none⟩) hbG).trans g0'; have s1 : w9.frozen? ⟨g9, m + 1, none⟩ = false := (World.frozen?_of_block (a := ⟨g9, m + 1, none⟩) hbG).trans g1'; have HO := Lib.hid hown; have O3 := Lib.hid o3; have HA : Hid ((Value.slice aR L0.length cR).ownBlock = some g' ∨ g' = w4.heap.size + 1) := hat; clear hown hgrow o3 hat hbG)
          all_goals
            have HX : Hid (∀ k, (Value.slice (some ⟨g', 0, none⟩) (L0.length + 1) cap).ownBlock = some k → ((upd V (m + 1) (.slice (some ⟨wq.heap.size, 0, none⟩) 0 0)) (m + 1)).ownBlock = some k ∨ w4.heap.size ≤ k) := fun k hk => by
              have e : g' = k := by simpa [Value.ownBlock] using hk
              subst e
              rcases HA.out with h | h
              · exact Or.inl (by rw [HVV.out]; exact h)
              · exact Or.inr (by omega)
            have HRW : Row w9 w.heap.size (.slice (some ⟨g', 0, none⟩) (L0.length + 1) cap) (L0 ++ [(I (j + 1), C (j + 1))]) := by
              unfold Row
              rw [lcells_append, List.length_append]
              exact HO.out
            have HMP := Lib.hid (P5.out.put (show m + 1 < m + 1 + 1 by omega) HRW (by rw [HVV.out]; exact O3.out) HX.out)
            have HB9 : Hid (Below w.heap.size w (w9.setCell ⟨g9, m + 1, none⟩ (.slice (some ⟨g', 0, none⟩) (L0.length + 1) cap))) :=
              (hb4'.out.trans (O3.out.below (B := w.heap.size) (fun q _ _ e => by have := (HR.out.lt q e).1; omega) hz9)).setCell (by show w.heap.size ≤ g9; omega) _
            go_wp2
            go_roundw
            case rel => exact ⟨j + 1 + 1, g9, _, _, by omega, by go_num, by rw [HF1.out], by rw [Hid, HF1.out]; exact HMP.out.congr (fun i _ => by rw [HL0.out.symm]; exact HF2.out i), HB9.out⟩
            case measure => simp [intOf]; omega
        · have q1 : ((lm : Int) == s) = false := by rw [beq_eq_false_iff_ne]; exact hc1
          by_cases hc2 : P1 = P2
          · have e5 : (P1.toList == P2.toList) = true := by rw [M.list_eq]; exact decide_eq_true hc2
            have HC : Hid (cutAt C s d (j + 1) (fN I C s d (j + 1)) (fM I C s d (j + 1)) = false) := by rw [Hid, hcut.out, decide_eq_false hc1, decide_eq_false (fun h => h hc2)]; rfl
            have HF1 := Lib.hid ((fill_stay HC.out).1.trans HNN.out)
            have HF2 : Hid (∀ i, upd MM m (MM m ++ [(I (j + 1), C (j + 1))]) i = fM I C s d (j + 1 + 1) i) := fun i => by
              rw [(fill_stay HC.out).2, HNN.out, HMM.out]; rfl
            have HC2 := Lib.hid hc2
            clear hc2
            go_wp2
            go_quiet (fail)
            obtain ⟨wq, hwq⟩ : ∃ wq, wr.drewN nq = wq := ⟨_, rfl⟩
            have kq : Below wr.heap.size wr wq := hwq ▸ ⟨rfl, rfl, rfl, Nat.le_refl _, fun _ _ => rfl⟩
            rw [hwq]
            have hm2 := Lib.hid (hm.out.on kq)
            have hb2 := Lib.hid (sstep hb.out kq)
            have hz2 := hb2.out.size
            clear hwq kq c0 c1 d0 d1 g0
            go_wp2
            obtain ⟨_, _, e7, p0, p1⟩ := (HL.out.on hb2.out) (j + 1) (by omega)
            cases e7
            have hz9 := hb2.out.size
            have lb9 : b < w.heap.size := by
              obtain ⟨_, _, e8, p8, _⟩ := HL.out (j + 1) (by omega)
              cases e8
              exact World.block_lt_of_cell? _ _ p8
            obtain ⟨L0, hL0⟩ : ∃ L0, MM (m) = L0 := ⟨_, rfl⟩
            have hll0 : L0.length ≤ 60 := by rw [← hL0]; exact HL3.out
            have hrow0 := hm2.out.2.1 (m) (by omega)
            rw [hL0] at hrow0
            obtain ⟨aR, cR, hvR, hlcR, _⟩ := hrow0.form
            obtain ⟨_, _, e9', g0', g1'⟩ := hm2.out.cell (show m < m + 1 by omega)
            cases e9'
            have HR := Lib.hid hrow0
            have hrowne : ∀ q, (V (m)).ownBlock = some q → q ≠ g ∧ q < wq.heap.size := fun q hq => ⟨fun e => by subst e; exact hm2.out.outer (show m < m + 1 by omega) rfl hq, (hm2.out.lt (Or.inr ⟨m, by omega, hq⟩)).2⟩
            have HVV := Lib.hid hvR
            rw [hvR] at g0' HR hrowne
            have HRow := Lib.hid hrowne
            have hG9 := (hm2.out.lt (k := g) (Or.inl rfl))
            have hne1 : g ≠ wq.heap.size := by omega
            have hne2 : wq.heap.size ≠ g := by omega
            have hG3 : g < wq.heap.size := by omega
            have hb3 : b < wq.heap.size := by omega
            have hb4 : b ≠ wq.heap.size := by omega
            have hdi : (((m : Nat) : Int)) < (((m + 1 : Nat) : Int)) := by omega
            have hd0 : (0 : Int) ≤ (((m : Nat) : Int)) := by omega
            have hdA : (((m : Nat) : Int)) < (((m : Nat) : Int)) + 1 := by omega
            have hdB : (0 : Int) ≤ (((m : Nat) : Int)) + 1 := by omega
            have hdC : (0 : Int) ≤ (((j : Nat) : Int)) + 1 := by omega
            have HL0 := Lib.hid hL0
            obtain ⟨i1, hi1, hz10, hz11, hz12⟩ := info_parts info_letter
            clear hrowne hvR hlcR hrow0 hL0 lb9
            go_region_law (refine step_append_lies _ (by rfl) _ _ 23 (by rfl) w.heap.size 31 i1 _ 2 24 Try.underlying23 hi1 hz10 hz11 hz12 rfl (by decide) _ L0.length (lcells L0) (by rfl) (World.ownsRow.alloc (show _ from HR.out) _) ⟨wq.heap.size, 0, none⟩ 1 1 [.int .i64 (I (j + 1)), .string (C (j + 1))] (by rfl) rfl (by intro j u hu; match j, hu with | 0, hu => (simp at hu; subst hu; simp [Addr.add]) | 1, hu => (simp at hu; subst hu; simp [Addr.add])) (by intro u hu; simp at hu; rcases hu with rfl | rfl <;> rfl) (by decide) (by unfold maxLen; omega) (by omega) (by simp; omega) (wq.heap.size + 1) (by simp) ?_; intro g' cap w9 hown hgrow hat hlt9; have o3 : Only wq w9 (fun k => (Value.slice aR L0.length cR).ownBlock = some k) := Only.trans (Only.new (S := fun k => (Value.slice aR L0.length cR).ownBlock = some k) (by go_grown)) ((Only.of_grown hgrow).mono (T := fun k => (Value.slice aR L0.length cR).ownBlock = some k) (fun x _ e => e.symm)) (fun _ _ h => h); have hbG : w9.heap[g]? = wq.heap[g]? := o3.block g (by omega) (fun e => (HRow.out g e).1 rfl); have s0 : w9.cell? ⟨g, m, none⟩ = some (.slice aR L0.length cR) := (World.cell?_of_block (a := ⟨g, m, none⟩) hbG).trans g0'; have s1 : w9.frozen? ⟨g, m, none⟩ = false := (World.frozen?_of_block (a := ⟨g, m, none⟩) hbG).trans g1'; have HO := Lib.hid hown; have O3 := Lib.hid o3; have HA : Hid ((Value.slice aR L0.length cR).ownBlock = some g' ∨ g' = wq.heap.size + 1) := hat; clear hown hgrow o3 hat hbG)
            all_goals
              have HX : Hid (∀ k, (Value.slice (some ⟨g', 0, none⟩) (L0.length + 1) cap).ownBlock = some k → (V (m)).ownBlock = some k ∨ wq.heap.size ≤ k) := fun k hk => by
                have e : g' = k := by simpa [Value.ownBlock] using hk
                subst e
                rcases HA.out with h | h
                · exact Or.inl (by rw [HVV.out]; exact h)
                · exact Or.inr (by omega)
              have HRW : Row w9 w.heap.size (.slice (some ⟨g', 0, none⟩) (L0.length + 1) cap) (L0 ++ [(I (j + 1), C (j + 1))]) := by
                unfold Row
                rw [lcells_append, List.length_append]
                exact HO.out
              have HMP := Lib.hid (hm2.out.put (show m < m + 1 by omega) HRW (by rw [HVV.out]; exact O3.out) HX.out)
              have HB9 : Hid (Below w.heap.size w (w9.setCell ⟨g, m, none⟩ (.slice (some ⟨g', 0, none⟩) (L0.length + 1) cap))) :=
                (hb2.out.trans (O3.out.below (B := w.heap.size) (fun q _ _ e => by have := (HR.out.lt q e).1; omega) hz9)).setCell (by show w.heap.size ≤ g; omega) _
              go_wp2
              go_roundw
              case rel => exact ⟨j + 1 + 1, g, _, _, by omega, by go_num, by rw [HF1.out], by rw [Hid, HF1.out]; exact HMP.out.congr (fun i _ => by rw [HL0.out.symm]; exact HF2.out i), HB9.out⟩
              case measure => simp [intOf]; omega
          · have e5 : (P1.toList == P2.toList) = false := by rw [M.list_eq]; exact decide_eq_false hc2
            have HC : Hid (cutAt C s d (j + 1) (fN I C s d (j + 1)) (fM I C s d (j + 1)) = true) := by rw [Hid, hcut.out, decide_eq_true hc2]; simp
            clear hc2
            go_wp2
            go_quiet (fail)
            obtain ⟨wq, hwq⟩ : ∃ wq, wr.drewN nq = wq := ⟨_, rfl⟩
            have kq : Below wr.heap.size wr wq := hwq ▸ ⟨rfl, rfl, rfl, Nat.le_refl _, fun _ _ => rfl⟩
            rw [hwq]
            have hm2 := Lib.hid (hm.out.on kq)
            have hb2 := Lib.hid (sstep hb.out kq)
            have hz2 := hb2.out.size
            clear hwq kq c0 c1 d0 d1 g0
            have x0 : Hid (Row (wq.alloc (.cells #[] 31)) wq.heap.size (.slice (some ⟨wq.heap.size, 0, none⟩) 0 0) []) := one_row wq
            have Q3 := Lib.hid (hm2.out.on (below_alloc0 wq (.cells #[] 31)))
            have o13 : Hid (Only wq (wq.alloc (.cells #[] 31)) (fun _ => False)) := Only.new (below_alloc0 wq _)
            obtain ⟨i0, hi, hz0, hz1, hz3⟩ := info_parts info_row
            go_wp2_with (at_builtin; refine wpList_append_own_at _ rfl _ _ 26 rfl w.heap.size 23 i0 _ 1 24 Try.underlying26 hi hz0 hz1 hz3 rfl (by decide) (.slice (some ⟨g, 0, none⟩) (m + 1) e) (m + 1) (vcells V (m + 1)) rfl (World.ownsRow.alloc Q3.out.1 _) ⟨wq.heap.size + 1, 0, none⟩ 1 1 [.slice (some ⟨wq.heap.size, 0, none⟩) 0 0] rfl rfl (by intro j u hu; match j, hu with | 0, hu => (simp at hu; subst hu; simp [Addr.add])) (by intro u hu; simp at hu; subst hu; rfl) (by unfold maxLen; omega) (by omega) (by simp; omega) ?_)
            intro v2 w4 r2 gr2 hnn ho2
            have o34 : Only (wq.alloc (.cells #[] 31)) w4 (fun q => (Value.slice (some ⟨g, 0, none⟩) (m + 1) e).ownBlock = some q) := (Only.new (S := fun q => (Value.slice (some ⟨g, 0, none⟩) (m + 1) e).ownBlock = some q) (below_alloc0 _ _)).trans ((Only.of_grown gr2).mono (T := fun q => (Value.slice (some ⟨g, 0, none⟩) (m + 1) e).ownBlock = some q) (fun x _ e => e.symm)) (fun _ _ h => h)
            have P4 := hm2.out.push (x0.out.lower hz2) o13.out (fun q hq' => (x0.out.lt q hq').1) r2 o34
            have O14 : Only wq w4 (fun q => (Value.slice (some ⟨g, 0, none⟩) (m + 1) e).ownBlock = some q) := (o13.out.mono (T := fun q => (Value.slice (some ⟨g, 0, none⟩) (m + 1) e).ownBlock = some q) (fun _ _ h => h.elim)).trans o34 (fun _ _ h => h)
            have hb4' := Lib.hid (hb2.out.trans (O14.below (B := w.heap.size) (fun q _ _ e => by have := (hm2.out.lt (Or.inl e)).1; omega) hz2))
            rcases P4.form with ⟨_, e0⟩ | ⟨g9, e9, rfl, _, _, _⟩
            · exact absurd e0 (by omega)
            have P5 := Lib.hid P4
            have HF1 := Lib.hid ((fill_cut HC.out).1.trans (by rw [HNN.out]))
            have HF2 : Hid (∀ i, upd (upd MM (m + 1) []) (m + 1) (upd MM (m + 1) [] (m + 1) ++ [(I (j + 1), C (j + 1))]) i = fM I C s d (j + 1 + 1) i) := fun i => by
              rw [(fill_cut HC.out).2, HNN.out, HMM.out]
              unfold upd
              by_cases ei : i = m + 1
              · rw [if_pos ei, if_pos ei, if_pos rfl]; rfl
              · rw [if_neg ei, if_neg ei, if_neg ei]
            clear r2 gr2 ho2 hnn o34 O14 P4
            go_wp2
            obtain ⟨_, _, e7, p0, p1⟩ := (HL.out.on hb4'.out) (j + 1) (by omega)
            cases e7
            have hz9 := hb4'.out.size
            have lb9 : b < w.heap.size := by
              obtain ⟨_, _, e8, p8, _⟩ := HL.out (j + 1) (by omega)
              cases e8
              exact World.block_lt_of_cell? _ _ p8
            obtain ⟨L0, hL0⟩ : ∃ L0, (upd MM (m + 1) []) (m + 1) = L0 := ⟨_, rfl⟩
            have hll0 : L0.length ≤ 60 := by rw [← hL0]; exact (by rw [upd_same]; exact Nat.zero_le _)
            have hrow0 := P5.out.2.1 (m + 1) (by omega)
            rw [hL0] at hrow0
            obtain ⟨aR, cR, hvR, hlcR, _⟩ := hrow0.form
            obtain ⟨_, _, e9', g0', g1'⟩ := P5.out.cell (show m + 1 < m + 1 + 1 by omega)
            cases e9'
            have HR := Lib.hid hrow0
            have hrowne : ∀ q, ((upd V (m + 1) (.slice (some ⟨wq.heap.size, 0, none⟩) 0 0)) (m + 1)).ownBlock = some q → q ≠ g9 ∧ q < w4.heap.size := fun q hq => ⟨fun e => by subst e; exact P5.out.outer (show m + 1 < m + 1 + 1 by omega) rfl hq, (P5.out.lt (Or.inr ⟨m + 1, by omega, hq⟩)).2⟩
            have HVV := Lib.hid hvR
            rw [hvR] at g0' HR hrowne
            have HRow := Lib.hid hrowne
            have hG9 := (P5.out.lt (k := g9) (Or.inl rfl))
            have hne1 : g9 ≠ w4.heap.size := by omega
            have hne2 : w4.heap.size ≠ g9 := by omega
            have hG3 : g9 < w4.heap.size := by omega
            have hb3 : b < w4.heap.size := by omega
            have hb4 : b ≠ w4.heap.size := by omega
            have hdi : (((m + 1 : Nat) : Int)) < (((m + 1 + 1 : Nat) : Int)) := by omega
            have hd0 : (0 : Int) ≤ (((m + 1 : Nat) : Int)) := by omega
            have hdA : (((m : Nat) : Int)) < (((m : Nat) : Int)) + 1 := by omega
            have hdB : (0 : Int) ≤ (((m : Nat) : Int)) + 1 := by omega
            have hdC : (0 : Int) ≤ (((j : Nat) : Int)) + 1 := by omega
            have HL0 := Lib.hid hL0
            obtain ⟨i1, hi1, hz10, hz11, hz12⟩ := info_parts info_letter
            clear hrowne hvR hlcR hrow0 hL0 lb9
            go_region_law (refine step_append_lies _ (by rfl) _ _ 23 (by rfl) w.heap.size 31 i1 _ 2 24 Try.underlying23 hi1 hz10 hz11 hz12 rfl (by decide) _ L0.length (lcells L0) (by rfl) (World.ownsRow.alloc (show _ from HR.out) _) ⟨w4.heap.size, 0, none⟩ 1 1 [.int .i64 (I (j + 1)), .string (C (j + 1))] (by rfl) rfl (by intro j u hu; match j, hu with | 0, hu => (simp at hu; subst hu; simp [Addr.add]) | 1, hu => (simp at hu; subst hu; simp [Addr.add])) (by intro u hu; simp at hu; rcases hu with rfl | rfl <;> rfl) (by decide) (by unfold maxLen; omega) (by omega) (by simp; omega) (w4.heap.size + 1) (by simp) ?_; intro g' cap w9 hown hgrow hat hlt9; have o3 : Only w4 w9 (fun k => (Value.slice aR L0.length cR).ownBlock = some k) := Only.trans (Only.new (S := fun k => (Value.slice aR L0.length cR).ownBlock = some k) (by go_grown)) ((Only.of_grown hgrow).mono (T := fun k => (Value.slice aR L0.length cR).ownBlock = some k) (fun x _ e => e.symm)) (fun _ _ h => h); have hbG : w9.heap[g9]? = w4.heap[g9]? := o3.block g9 (by omega) (fun e => (HRow.out g9 e).1 rfl); have s0 : w9.cell? ⟨g9, m + 1, none⟩ = some (.slice aR L0.length cR) := (World.cell?_of_block (a := ⟨g9, m + 1, none⟩) hbG).trans g0'; have s1 : w9.frozen? ⟨g9, m + 1, none⟩ = false := (World.frozen?_of_block (a := ⟨g9, m + 1, none⟩) hbG).trans g1'; have HO := Lib.hid hown; have O3 := Lib.hid o3; have HA : Hid ((Value.slice aR L0.length cR).ownBlock = some g' ∨ g' = w4.heap.size + 1) := hat; clear hown hgrow o3 hat hbG)
            all_goals
              have HX : Hid (∀ k, (Value.slice (some ⟨g', 0, none⟩) (L0.length + 1) cap).ownBlock = some k → ((upd V (m + 1) (.slice (some ⟨wq.heap.size, 0, none⟩) 0 0)) (m + 1)).ownBlock = some k ∨ w4.heap.size ≤ k) := fun k hk => by
                have e : g' = k := by simpa [Value.ownBlock] using hk
                subst e
                rcases HA.out with h | h
                · exact Or.inl (by rw [HVV.out]; exact h)
                · exact Or.inr (by omega)
              have HRW : Row w9 w.heap.size (.slice (some ⟨g', 0, none⟩) (L0.length + 1) cap) (L0 ++ [(I (j + 1), C (j + 1))]) := by
                unfold Row
                rw [lcells_append, List.length_append]
                exact HO.out
              have HMP := Lib.hid (P5.out.put (show m + 1 < m + 1 + 1 by omega) HRW (by rw [HVV.out]; exact O3.out) HX.out)
              have HB9 : Hid (Below w.heap.size w (w9.setCell ⟨g9, m + 1, none⟩ (.slice (some ⟨g', 0, none⟩) (L0.length + 1) cap))) :=
                (hb4'.out.trans (O3.out.below (B := w.heap.size) (fun q _ _ e => by have := (HR.out.lt q e).1; omega) hz9)).setCell (by show w.heap.size ≤ g9; omega) _
              go_wp2
              go_roundw
              case rel => exact ⟨j + 1 + 1, g9, _, _, by omega, by go_num, by rw [HF1.out], by rw [Hid, HF1.out]; exact HMP.out.congr (fun i _ => by rw [HL0.out.symm]; exact HF2.out i), HB9.out⟩
              case measure => simp [intOf]; omega
    · obtain rfl : k = n := by omega
      go_wp2
      go_ret
      exact ⟨_, _, rfl, hm.out, hb.out⟩
end Go.Proofs.Ytobmenbhbeflhaa
