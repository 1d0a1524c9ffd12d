/-
  What the model's faulty pass leaves.
-/
import Derived.Test.YtnaghfppeejaoaaDoorPassA
import Derived.Test.YtnaghfppeejaoaaDoorPutA
import Derived.Deep.RegionHeld3
namespace Go.Proofs.YtnaghfppeejaoaaDoor
open Go.RowKit
open Go.PlainAid (bt get_bt bt_nonneg bt_le)
set_option linter.unusedVariables false

theorem mssOnly {w w' : World} {a : Option Addr} {n : Nat} {I B : Nat → Int} {T : Nat → Prop} (h : Mss w a n I B) (ho : Only w w' T) (hn : ∀ b o, a = some ⟨b, o, none⟩ → 0 < n → ¬ T b) : Mss w' a n I B := by
  intro i hi
  obtain ⟨b, o, e, h1, h2⟩ := h i hi
  have hl := h.lt e (by omega)
  have hk := ho.block b hl (hn b o e (by omega))
  exact ⟨b, o, e, (World.cell?_of_block (a := ⟨b, o + i * 2, none⟩) hk).trans h1, (World.cell?_of_block (a := ⟨b, o + i * 2 + 1, none⟩) hk).trans h2⟩

set_option maxHeartbeats 4000000 in
set_option maxRecDepth 100000 in
theorem spec_l7Faulty (w : World) (N : Nat) (p : Int) (a : Option Addr) (n c : Nat) (S : Nat → ByteArray) (h : Strs w a n S) (hn : n ≤ 1048576) (a2 : Option Addr) (m c2 : Nat) (I' : Nat → Int) (C : Nat → ByteArray) (h2 : Lts w a2 m I' C) (hm1 : m ≤ 1048576) (x : Nat) (s1 : 2 ≤ (N : Int)) (s2 : (N : Int) ≤ 16) (hx : x ≤ 3)
    (a3 : Option Addr) (m3 c3 : Nat) (I B : Nat → Int) (h3 : Mss w a3 m3 I B) (hm3 : m3 ≤ 1048576) (hmt : M.misTo ((N : Int) - 1) I B m3) :
    Calls Tryd.prog 98 #[.agg #[.int .i64 (N : Int), .int .i64 p, .slice a n c], .slice a2 m c2, .int .i64 x, .slice a3 m3 c3] w
      (TwoOut w N (M.binTo (fkey (N : Int) n S C x I' m3 I B) I' C m) (M.restTo (fkey (N : Int) n S C x I' m3 I B) I' C m)) := by
  have HL := Lib.hid (h.on (below_alloc0 w (.cells #[.int .i64 (N : Int), .int .i64 p, .slice a n c] 25)))
  have HL2 := Lib.hid (h2.on (below_alloc0 w (.cells #[.int .i64 (N : Int), .int .i64 p, .slice a n c] 25)))
  have bx := Lib.hid (tri_made w (.int .i64 (N : Int)) (.int .i64 p) (.slice a n c) 25)
  have b0 := below_alloc0 w (.cells #[.int .i64 (N : Int), .int .i64 p, .slice a n c] 25)
  have HL3 := Lib.hid (h3.on (below_alloc0 w (.cells #[.int .i64 (N : Int), .int .i64 p, .slice a n c] 25)))
  have ha3 : Hid (∀ b' o', a3 = some ⟨b', o', none⟩ → 0 < m3 → b' < w.heap.size) := fun b' o' e h0 => h3.lt e h0
  have ha2 : Hid (∀ b' o', a2 = some ⟨b', o', none⟩ → 0 < m → b' < w.heap.size) := fun b' o' e h0 => h2.lt e h0
  have ha1 : Hid (∀ b' o', a = some ⟨b', o', none⟩ → 0 < n → b' < w.heap.size) := fun b' o' e h0 => h.lt e h0
  obtain ⟨CC, hCC⟩ : ∃ CC, madeCells #[Value.slice none 0 0] N = CC := ⟨_, rfl⟩
  have hmm := fun W => mat_made W N (by omega) 30 Tryd.underlying30 .i64 .i64
  rw [hCC] at hmm
  have hmk : ∀ W : World, (Instr.makeSlice 30 (.int .i64 (N : Int)) (.int .i64 (N : Int))).run Tryd.prog W = .ok (.slice (some ⟨W.heap.size, 0, none⟩) N N) (W.alloc (.cells CC 26)) := fun W => (hmm W).1
  have k1 := below_alloc0 (w.alloc (.cells #[.int .i64 (N : Int), .int .i64 p, .slice a n c] 25)) (.cells CC 26)
  have HM1 := (hmm (w.alloc (.cells #[.int .i64 (N : Int), .int .i64 p, .slice a n c] 25))).2
  have k2 := below_alloc0 ((w.alloc (.cells #[.int .i64 (N : Int), .int .i64 p, .slice a n c] 25)).alloc (.cells CC 26)) (.cells #[] 37)
  have HQ := one_row ((w.alloc (.cells #[.int .i64 (N : Int), .int .i64 p, .slice a n c] 25)).alloc (.cells CC 26))
  obtain ⟨W3, hW3⟩ : ∃ W3, ((w.alloc (.cells #[.int .i64 (N : Int), .int .i64 p, .slice a n c] 25)).alloc (.cells CC 26)).alloc (.cells #[] 37) = W3 := ⟨_, rfl⟩
  rw [hW3] at k2 HQ
  have hz3 : W3.heap.size = w.heap.size + 3 := by rw [← hW3]; simp
  simp only [World.size_alloc] at HM1 HQ k1 k2
  have M3 := Lib.hid (HM1.on (by simpa using k2))
  have Q3 := Lib.hid (HQ.lower (show w.heap.size + 1 ≤ w.heap.size + 1 + 1 by omega))
  have k12 := k1.trans (k2.mono (by omega))
  have L3 := Lib.hid (HL.out.on (by simpa using k12))
  have LL3 := Lib.hid (HL2.out.on (by simpa using k12))
  have LM3 := Lib.hid (HL3.out.on (by simpa using k12))
  have HMT := Lib.hid hmt
  have X3 := Lib.hid (bx.out.on (by simpa using k12))
  have B3 : Hid (Below w.heap.size w W3) := b0.trans (k12.mono (by omega))
  have HW3 := Lib.hid hW3
  have HZ3 := Lib.hid hz3
  obtain ⟨i0, hi, hz0, hz1, hz4⟩ := info_parts info_letter
  obtain ⟨⟨t0, t1, t2⟩, _⟩ := bx.out
  clear h h2 h3 hmt hmm hCC k1 k2 k12 HM1 HQ hW3 hz3 HL HL2 HL3 bx b0
  go_enter Tryd.func98, Tryd.ntmps98
  go_wp2
  rw [HW3.out]
  go_loopw [11, 12] (fun q i wr => ∃ (k : Nat) (V : Nat → Value), k ≤ m ∧ i = .int .i64 k ∧ Hid (Mat wr (w.heap.size + 1) (.slice (some ⟨w.heap.size + 1, 0, none⟩) N N) N V (M.binTo (fkey (N : Int) n S C x I' m3 I B) I' C k)) ∧ Hid (Row wr (w.heap.size + 1) q (M.restTo (fkey (N : Int) n S C x I' m3 I B) I' C k)) ∧ Hid (∀ g, q.ownBlock = some g → ¬ inM (.slice (some ⟨w.heap.size + 1, 0, none⟩) N N) N V g) ∧ Hid (Lts wr a2 m I' C) ∧ Hid (Strs wr a n S) ∧ Hid (Mss wr a3 m3 I B) ∧ Hid (Tri wr w.heap.size (.int .i64 (N : Int)) (.int .i64 p) (.slice a n c)) ∧ Hid (Below w.heap.size w wr) ∧ w.heap.size + 2 < wr.heap.size) (fun _ i _ => m - (intOf i).toNat)
  case atStart =>
    refine ⟨0, _, Nat.zero_le _, rfl, M3, Q3, fun g e hg => ?_, LL3, L3, LM3, X3, B3, by have := HZ3.out; omega⟩
    have e2 : w.heap.size + 1 + 1 = g := by simpa [Value.ownBlock] using e
    rcases hg with e3 | ⟨i, hi, e3⟩
    · have : w.heap.size + 1 = g := by simpa [Value.ownBlock] using e3
      omega
    · simp [Value.ownBlock] at e3
  case round =>
    obtain ⟨k, V, hk, rfl, hm, hr, hap, hl, hs, hms, ht, hbw, hz⟩ := hrel
    by_cases hlt : k < m
    · obtain ⟨b1, o1, rfl, c0, c1⟩ := hl.out k hlt
      have hki : (k : Int) < (m : Int) := by omega
      have hk0 : (0 : Int) ≤ (k : Int) := by omega
      clear t0 t1 t2
      obtain ⟨⟨t0, t1, t2⟩, _⟩ := ht.out
      have hRB := Lib.hid (fun W hs => spec_l3Bin W (N : Int) p a n c S hs hn (C k) x s1 s2 hx)
      obtain ⟨vb, hvb⟩ : ∃ vb, (if M.rankTo S (C k) n < 0 then -1 else M.rankBin N (M.rankTo S (C k) n) x) = vb := ⟨_, rfl⟩
      have HVB := Lib.hid hvb
      obtain ⟨mi, hmi⟩ : ∃ mi, M.find I m3 (I' k) = mi := ⟨_, rfl⟩
      have HMI := Lib.hid hmi
      cases hkey : fkey (N : Int) n S C x I' m3 I B k with
      | none =>
        have hneg : mi < 0 ∧ vb < 0 := by
          unfold fkey at hkey
          rw [hmi] at hkey
          by_cases hq : mi < 0
          · rw [if_pos hq] at hkey
            refine ⟨hq, ?_⟩
            by_cases h0 : M.rankTo S (C k) n < 0
            · rw [if_pos h0] at hvb; omega
            · rw [M.planKey_some (by omega)] at hkey; cases hkey
          · rw [if_neg hq] at hkey; cases hkey
        obtain ⟨hn1, hn2⟩ := hneg
        have HK := Lib.hid (M.binTo_none hkey I' C)
        have HR := Lib.hid (M.restTo_none hkey I' C)
        have HLN := M.restTo_len (fkey (N : Int) n S C x I' m3 I B) I' C k
        clear hkey hvb hmi
        go_wp2
        go_region_with (first
          | (go_at_call 60; refine (hRB.out _ (by first | exact hs.out | exact hs.out.on ⟨rfl, rfl, rfl, Nat.le_refl _, fun _ _ => rfl⟩)).mono ?_; rw [HVB.out]; rintro e wb ⟨rfl, hbb⟩; have kk : Below wr.heap.size wr wb := (by first | exact hbb | exact Below.trans (⟨rfl, rfl, rfl, Nat.le_refl _, fun _ _ => rfl⟩ : Below wr.heap.size wr wr.drew) hbb); have K5 := Lib.hid kk; have hz5 := kk.size; clear hbb kk))
        all_goals
          clear c0 c1 t0 t1 t2
          obtain ⟨b2, o2, e2, c0, c1⟩ := hl.out.on K5.out k hlt
          cases e2
          go_wp2_with fail
          refine (spec_l7Index wb a3 m3 c3 I B (hms.out.on K5.out) hm3 (I' k)).mono ?_
          rintro e wb2 ⟨rfl, hwe⟩
          subst hwe
          rw [HMI.out]
          go_wp2_with (at_builtin; refine wpList_append_letter _ rfl _ _ rfl (w.heap.size + 1) u11 _ rfl ((hr.out.on K5.out).alloc _) _ (I' k) (C k) rfl ?_ (by omega) (by simp; omega) ?_)
          · simp [go_sem]
          · intro v' w5 hr5 hg5 ho5
            have op : Only wr w5 (fun g => some g = u11.ownBlock) := ((Only.new K5.out).trans (Only.new (S := fun g => some g = u11.ownBlock) (below_alloc0 wb _)) (fun _ _ h => h)).trans (Only.of_grown hg5) (fun _ _ h => h)
            have lr := hr.out.lt
            have Q1 := Lib.hid (hm.out.only op (fun g hg e => hap.out g e.symm hg))
            have Q2 : Hid (∀ g, v'.ownBlock = some g → ¬ inM (.slice (some ⟨w.heap.size + 1, 0, none⟩) N N) N V g) := by
              intro g eg hg
              rcases ho5 with e | e
              · exact hap.out g (e ▸ eg) hg
              · rw [e] at eg
                have e2 := Option.some.inj eg
                try simp only [World.size_alloc] at e2
                have := (hm.out.lt hg).2
                omega
            have Q3 := Lib.hid (hl.out.only op (fun b' o' e h0 hbad => by have := (lr _ hbad.symm).1; have := ha2.out _ _ e h0; omega))
            have Q4 := Lib.hid (strsOnly hs.out op (fun b' o' e h0 hbad => by have := (lr _ hbad.symm).1; have := ha1.out _ _ e h0; omega))
            have QM := Lib.hid (mssOnly hms.out op (fun b' o' e h0 hbad => by have := (lr _ hbad.symm).1; have := ha3.out _ _ e h0; omega))
            have Q5 := Lib.hid (triOnly ht.out op (fun hbad => by have := (lr _ hbad.symm).1; omega))
            have Q6 : Hid (Below w.heap.size w w5) := hbw.out.trans (op.below (B := w.heap.size) (fun g hg _ hbad => by have := (lr _ hbad.symm).1; omega) (by omega))
            have Q7 := op.size
            have R5 := Lib.hid hr5
            clear hr5 hg5 ho5 op lr
            go_wp2
            go_roundw
            case rel => exact ⟨k + 1, V, by omega, by go_num, by rw [HK.out]; exact Q1, by rw [HR.out]; exact R5, Q2, Q3, Q4, QM, Q5, Q6, by omega⟩
            case measure => simp [intOf]; omega
      | some d =>
        have hcase : d < N ∧ ((mi < 0 ∧ vb = (d : Int)) ∨ ∃ j : Nat, j < m3 ∧ mi = (j : Int) ∧ B j = (d : Int)) := by
          unfold fkey at hkey
          rw [hmi] at hkey
          by_cases hq : mi < 0
          · rw [if_pos hq] at hkey
            have hd := planKey_bd s1 hkey
            refine ⟨by omega, Or.inl ⟨hq, ?_⟩⟩
            by_cases h0 : M.rankTo S (C k) n < 0
            · rw [M.planKey_none h0] at hkey; cases hkey
            · rw [if_neg h0] at hvb
              rw [M.planKey_some (by omega)] at hkey
              have hrb := M.rankBin_bd (b := (N : Int)) (r := M.rankTo S (C k) n) (k := x) s1
              have := Option.some.inj hkey
              omega
          · rw [if_neg hq] at hkey
            have e1 := Option.some.inj hkey
            rcases find_cases I m3 (I' k) with ⟨e, _⟩ | ⟨j, hj, _, e⟩
            · omega
            · have e2 : mi = (j : Int) := by rw [← hmi, e]
              subst e2
              rw [Int.toNat_natCast] at e1
              have hbj := (HMT.out j hj).2.1
              exact ⟨by omega, Or.inr ⟨j, hj, rfl, by omega⟩⟩
        obtain ⟨hdB, hcs⟩ := hcase
        have HCS := Lib.hid hcs
        have HK := Lib.hid (M.binTo_some hkey I' C)
        have HR2r := Lib.hid (M.restTo_some hkey I' C)
        have HLN := Lib.hid (M.binTo_len (fkey (N : Int) n S C x I' m3 I B) I' C k d)
        clear hkey hvb hmi hcs
        go_wp2
        go_region_with (first
          | (go_at_call 60; refine (hRB.out _ (by first | exact hs.out | exact hs.out.on ⟨rfl, rfl, rfl, Nat.le_refl _, fun _ _ => rfl⟩)).mono ?_; rw [HVB.out]; rintro e wb ⟨rfl, hbb⟩; have kk : Below wr.heap.size wr wb := (by first | exact hbb | exact Below.trans (⟨rfl, rfl, rfl, Nat.le_refl _, fun _ _ => rfl⟩ : Below wr.heap.size wr wr.drew) hbb); have K5 := Lib.hid kk; have hz5 := kk.size; clear hbb kk))
        all_goals
          clear c0 c1 t0 t1 t2
          obtain ⟨b2, o2, e2, c0, c1⟩ := hl.out.on K5.out k hlt
          cases e2
          clear hRB
          go_wp2_with fail
          refine (spec_l7Index wb a3 m3 c3 I B (hms.out.on K5.out) hm3 (I' k)).mono ?_
          rintro e wb2 ⟨rfl, hwe⟩
          subst hwe
          rw [HMI.out]
          have mb := Lib.hid (hm.out.on K5.out)
          obtain ⟨a2, cc, hv2, hlc, _⟩ := (mb.out.2.1 d hdB).form
          obtain ⟨G', c', e1, g0, g1⟩ := mb.out.cell hdB
          cases e1
          have HR := Lib.hid (mb.out.2.1 d hdB)
          have HVV := Lib.hid hv2
          rw [hv2] at g0 HR
          obtain ⟨l, hl0⟩ : ∃ l, (M.binTo (fkey (N : Int) n S C x I' m3 I B) I' C k d).length = l := ⟨_, rfl⟩
          have hll : l ≤ 1048576 := by have := HLN.out; omega
          obtain ⟨LL, hLL⟩ : ∃ LL, M.binTo (fkey (N : Int) n S C x I' m3 I B) I' C k d = LL := ⟨_, rfl⟩
          have HLL := Lib.hid hLL
          rw [hLL] at HR hl0
          rw [hLL, hl0] at g0
          have HV2 := HVV.out
          rw [hLL, hl0] at HV2
          replace HVV := Lib.hid HV2
          have hrow : ∀ q, (V d).ownBlock = some q → q ≠ w.heap.size + 1 ∧ w.heap.size + 1 ≤ q ∧ q < wb.heap.size := fun q hq => ⟨fun e => by subst e; exact mb.out.outer hdB rfl hq, (mb.out.lt (Or.inr ⟨d, hdB, hq⟩)).1, (mb.out.lt (Or.inr ⟨d, hdB, hq⟩)).2⟩
          rw [HV2] at hrow
          have HRow := Lib.hid hrow
          have HR2 : Hid (wb.ownsRow (w.heap.size + 1) 37 2 (.slice a2 l cc) l (lcells LL)) := by
            have := HR.out
            unfold Row at this
            rw [hl0] at this
            exact this
          have hL0 := Lib.hid hl0
          have hdi : (d : Int) < (N : Int) := by omega
          have hd0 : (0 : Int) ≤ (d : Int) := by omega
          have hab : b1 < w.heap.size := ha2.out _ _ rfl (by omega)
          have hgb : w.heap.size + 1 < wb.heap.size := by omega
          have hbr : b1 < wb.heap.size := by omega
          have hbne : b1 ≠ w.heap.size + 1 := by omega
          have hbne2 : w.heap.size + 1 ≠ b1 := by omega
          have hne3 : w.heap.size + 1 ≠ wb.heap.size := by omega
          have hne4 : b1 ≠ wb.heap.size := by omega
          clear hv2 hrow hl0 hLL HV2 HR
          rcases HCS.out with ⟨hmn, hvd⟩ | ⟨j, hj, hmj, hbj⟩
          all_goals first
            | subst hvd
            | (subst hmj; obtain ⟨b4, o4, rfl, d0, d1⟩ := hms.out.on K5.out j hj; rw [hbj] at d1; have hji : (j : Int) < (m3 : Int) := by omega)
          all_goals go_wp2
          all_goals go_region_law (refine step_append_lies _ (by rfl) _ _ 26 (by rfl) (w.heap.size + 1) 37 i0 _ 2 24 Tryd.underlying26 hi hz0 hz1 hz4 rfl (by decide) _ l (lcells LL) (by rfl) (World.ownsRow.alloc (show _ from HR2.out) _) ⟨wb.heap.size, 0, none⟩ 1 1 [.int .i64 (I' k), .string (C k)] (by rfl) rfl (by intro j u hu; match j, hu with | 0, hu => (simp at hu; subst hu; simp [Addr.add]) | 1, hu => (simp at hu; subst hu; simp [Addr.add])) (by intro u hu; simp at hu; rcases hu with rfl | rfl <;> rfl) (by decide) (by unfold maxLen; omega) (by omega) (by simp; omega) (wb.heap.size + 1) (by simp) ?_; intro g' cap w4 hown hgrow hat hlt3; have o3 : Only wb w4 (fun q => (Value.slice a2 l cc).ownBlock = some q) := Only.trans (Only.new (S := fun q => (Value.slice a2 l cc).ownBlock = some q) (by go_grown)) ((Only.of_grown hgrow).mono (T := fun q => (Value.slice a2 l cc).ownBlock = some q) (fun x _ e => e.symm)) (fun _ _ h => h); have hbG : w4.heap[w.heap.size + 1]? = wb.heap[w.heap.size + 1]? := o3.block (w.heap.size + 1) (by omega) (fun e => (HRow.out (w.heap.size + 1) e).1 rfl); have s0 : w4.cell? ⟨w.heap.size + 1, d, none⟩ = some (.slice a2 l cc) := (World.cell?_of_block (a := ⟨w.heap.size + 1, d, none⟩) hbG).trans g0; have s1 : w4.frozen? ⟨w.heap.size + 1, d, none⟩ = false := (World.frozen?_of_block (a := ⟨w.heap.size + 1, d, none⟩) hbG).trans g1; have HO := Lib.hid hown; have O3 := Lib.hid o3; have HA : Hid ((Value.slice a2 l cc).ownBlock = some g' ∨ g' = wb.heap.size + 1) := hat; clear hown hgrow o3 hat hbG)
          all_goals
            have HX : Hid (∀ q, (Value.slice (some ⟨g', 0, none⟩) (l + 1) cap).ownBlock = some q → (V d).ownBlock = some q ∨ wb.heap.size ≤ q) := fun q hq => by
              have e : g' = q := by simpa [Value.ownBlock] using hq
              subst e
              rcases HA.out with h | h
              · exact Or.inl (by rw [HVV.out]; exact h)
              · exact Or.inr (by omega)
            have HRW : Row w4 (w.heap.size + 1) (.slice (some ⟨g', 0, none⟩) (l + 1) cap) (LL ++ [(I' k, C k)]) := by
              unfold Row
              rw [lcells_append, List.length_append, hL0.out]
              exact HO.out
            have HM := Lib.hid (mb.out.put hdB HRW (by rw [HVV.out]; exact O3.out) HX.out)
            have HOn : Hid (Only wr (w4.setCell ⟨w.heap.size + 1, d, none⟩ (.slice (some ⟨g', 0, none⟩) (l + 1) cap)) (inM (.slice (some ⟨w.heap.size + 1, 0, none⟩) N N) N V)) :=
              (Only.new K5.out).trans ((O3.out.mono (T := inM (.slice (some ⟨w.heap.size + 1, 0, none⟩) N N) N V) (fun x _ e => Or.inr ⟨d, hdB, by rw [HVV.out]; exact e⟩)).trans (Only.set w4 ⟨w.heap.size + 1, d, none⟩ _ (S := inM (.slice (some ⟨w.heap.size + 1, 0, none⟩) N N) N V) (Or.inl rfl)) (fun _ _ h => h)) (fun _ _ h => h)
            have N1 := Lib.hid (hr.out.only HOn.out (fun g e h => hap.out g e h))
            have N2 : Hid (∀ g, u11.ownBlock = some g → ¬ inM (.slice (some ⟨w.heap.size + 1, 0, none⟩) N N) N (upd V d (.slice (some ⟨g', 0, none⟩) (l + 1) cap)) g) := by
              intro g eg hg
              rcases inM_put hdB HX.out hg with h1 | h1
              · exact hap.out g eg h1
              · have := (hr.out.lt g eg).2
                omega
            have N3 := Lib.hid (hl.out.only HOn.out (fun b' o' e h0 hbad => by have := (hm.out.lt hbad).1; have := ha2.out _ _ e h0; omega))
            have N4 := Lib.hid (strsOnly hs.out HOn.out (fun b' o' e h0 hbad => by have := (hm.out.lt hbad).1; have := ha1.out _ _ e h0; omega))
            have NM := Lib.hid (mssOnly hms.out HOn.out (fun b' o' e h0 hbad => by have := (hm.out.lt hbad).1; have := ha3.out _ _ e h0; omega))
            have N5 := Lib.hid (triOnly ht.out HOn.out (fun hbad => by have := (hm.out.lt hbad).1; omega))
            have N6 := Lib.hid (below_only hbw.out hm.out (by omega) HOn.out)
            have HZ2 := HOn.out.size
            have HME : Hid (Mat (w4.setCell ⟨w.heap.size + 1, d, none⟩ (.slice (some ⟨g', 0, none⟩) (l + 1) cap)) (w.heap.size + 1) (.slice (some ⟨w.heap.size + 1, 0, none⟩) N N) N (upd V d (.slice (some ⟨g', 0, none⟩) (l + 1) cap)) (M.binTo (fkey (N : Int) n S C x I' m3 I B) I' C (k + 1))) := by
              unfold Hid
              rw [HK.out]
              show Mat _ _ _ _ _ (upd (M.binTo (fkey (N : Int) n S C x I' m3 I B) I' C k) d (M.binTo (fkey (N : Int) n S C x I' m3 I B) I' C k d ++ [(I' k, C k)]))
              rw [HLL.out]
              exact HM.out
            go_wp2
            go_roundw
            case rel => exact ⟨k + 1, _, by omega, by go_num, HME, by rw [HR2r.out]; exact N1, N2, N3, N4, NM, N5, N6, by omega⟩
            case measure => simp [intOf]; omega
    · obtain rfl : k = m := by omega
      clear t0 t1 t2
      go_wp2
      go_ret2
      exact ⟨_, V, _, rfl, hm.out.lower (by omega), hr.out.lower (by omega), hap.out, hbw.out⟩
end Go.Proofs.YtnaghfppeejaoaaDoor

/-
  The work of machines that the program's functions hand to runs: a faulty pass.
-/
namespace Go.Proofs.YtnaghfppeejaoaaDoor
open Go.RowKit
open Go.PlainAid (bt get_bt bt_nonneg bt_le)
set_option linter.unusedVariables false

/-- The boxes that FaultyPass's literal holds. -/
structure FBox (w : World) (b p : Int) (a : Option Addr) (n c : Nat) (x : Int) (a2 : Option Addr) (m c2 : Nat) (a3 : Option Addr) (m3 c3 : Nat) (P0 X0 B0 L0 V0 U0 : Nat) (v u : Value) : Prop where
  pp : Tri w P0 (.int .i64 b) (.int .i64 p) (.slice a n c)
  xx : w.cell? ⟨X0, 0, none⟩ = some (.int .i64 x)
  bb : w.cell? ⟨B0, 0, none⟩ = some (.slice a2 m c2)
  ll : w.cell? ⟨L0, 0, none⟩ = some (.slice a3 m3 c3)
  vv : w.cell? ⟨V0, 0, none⟩ = some v
  uu : w.cell? ⟨U0, 0, none⟩ = some u
  vf : w.frozen? ⟨V0, 0, none⟩ = false
  uf : w.frozen? ⟨U0, 0, none⟩ = false
theorem FBox.only {w w' : World} {b p : Int} {a : Option Addr} {n c : Nat} {x : Int} {a2 : Option Addr} {m c2 : Nat} {a3 : Option Addr} {m3 c3 P0 X0 B0 L0 V0 U0 : Nat} {v u : Value} {S : Nat → Prop} (h : FBox w b p a n c x a2 m c2 a3 m3 c3 P0 X0 B0 L0 V0 U0 v u) (ho : Only w w' S)
    (hn : ¬ S P0 ∧ ¬ S X0 ∧ ¬ S B0 ∧ ¬ S L0 ∧ ¬ S V0 ∧ ¬ S U0) : FBox w' b p a n c x a2 m c2 a3 m3 c3 P0 X0 B0 L0 V0 U0 v u := by
  have k : ∀ {q : Nat} {y : Value}, w.cell? ⟨q, 0, none⟩ = some y → ¬ S q → w'.cell? ⟨q, 0, none⟩ = some y := fun {q y} e hq => (World.cell?_of_block (ho.block q (World.block_lt_of_cell? _ _ e) hq)).trans e
  have z : ∀ {q : Nat} {y : Value}, w.cell? ⟨q, 0, none⟩ = some y → ¬ S q → w'.frozen? ⟨q, 0, none⟩ = w.frozen? ⟨q, 0, none⟩ := fun {q y} e hq => World.frozen?_of_block (ho.block q (World.block_lt_of_cell? _ _ e) hq)
  obtain ⟨h1, h2, h3, h4, h5, h6⟩ := hn
  exact ⟨triOnly h.pp ho h1, k h.xx h2, k h.bb h3, k h.ll h4, k h.vv h5, k h.uu h6, by rw [z h.vv h5]; exact h.vf, by rw [z h.uu h6]; exact h.uf⟩
theorem FBox.on {w w' : World} {b p : Int} {a : Option Addr} {n c : Nat} {x : Int} {a2 : Option Addr} {m c2 : Nat} {a3 : Option Addr} {m3 c3 P0 X0 B0 L0 V0 U0 : Nat} {v u : Value} (h : FBox w b p a n c x a2 m c2 a3 m3 c3 P0 X0 B0 L0 V0 U0 v u) (hb : Below w.heap.size w w') : FBox w' b p a n c x a2 m c2 a3 m3 c3 P0 X0 B0 L0 V0 U0 v u :=
  h.only (Only.new (S := fun _ => False) hb) ⟨fun e => e, fun e => e, fun e => e, fun e => e, fun e => e, fun e => e⟩

theorem Mat.some {w : World} {base n : Nat} {v : Value} {V : Nat → Value} {MM : Nat → List (Int × ByteArray)} (h : Mat w base v n V MM) (hn : 0 < n) : ∃ g c, v = .slice (some ⟨g, 0, none⟩) n c := by
  rcases h.form with ⟨_, e⟩ | ⟨g, c, e, _⟩
  · omega
  · exact ⟨g, c, e⟩
/-- What the work of FaultyPass leaves. -/
def FDone (w : World) (V0 U0 N : Nat) (MM : Nat → List (Int × ByteArray)) (LL : List (Int × ByteArray)) (w' : World) : Prop :=
  ∃ (v : Value) (V : Nat → Value) (u : Value), Mat w' w.heap.size v N V MM ∧ Row w' w.heap.size u LL ∧ (∀ k, u.ownBlock = some k → ¬ inM v N V k) ∧ w'.cell? ⟨V0, 0, none⟩ = some v ∧ w'.cell? ⟨U0, 0, none⟩ = some u ∧ Only w w' (fun k => k = V0 ∨ k = U0)

set_option maxHeartbeats 4000000 in
set_option maxRecDepth 100000 in
theorem faulty1_yes (w : World) (b p : Int) (a : Option Addr) (n c : Nat) (S : Nat → ByteArray) (h : Strs w a n S) (hf : SFits n S) (hn : n ≤ 1048576) (x : Nat) (hx : (x : Int) < p) (a2 : Option Addr) (m c2 : Nat) (I' : Nat → Int) (C : Nat → ByteArray) (h2 : Lts w a2 m I' C) (hf2 : Fits m I' C)
    (a3 : Option Addr) (m3 c3 : Nat) (I B : Nat → Int) (h3 : Mss w a3 m3 I B) (hf3 : MFits m3 I B) (hb : M.batch m I' C = true) (hmi : M.mis b p n S m3 I B = true) (P0 X0 B0 L0 V0 U0 : Nat) (hord : P0 < V0 ∧ X0 < V0 ∧ B0 < V0 ∧ L0 < V0 ∧ V0 < U0)
    (hx0 : FBox w b p a n c x a2 m c2 a3 m3 c3 P0 X0 B0 L0 V0 U0 (.slice none 0 0) (.slice none 0 0)) :
    Calls Tryd.prog 46 #[.pointer (some ⟨P0, 0, none⟩), .pointer (some ⟨X0, 0, none⟩), .pointer (some ⟨B0, 0, none⟩), .pointer (some ⟨L0, 0, none⟩), .pointer (some ⟨V0, 0, none⟩), .pointer (some ⟨U0, 0, none⟩)] w
      fun e w' => e = .returned (.tuple #[]) ∧ FDone w V0 U0 b.toNat (M.binTo (fkey b n S C x I' m3 I B) I' C m) (M.restTo (fkey b n S C x I' m3 I B) I' C m) w' := by
  obtain ⟨hp, _, _⟩ := M.mis_true hmi
  obtain ⟨s1, s2, s3, s4⟩ := M.plan_shape hp
  have HX := Lib.hid hx0
  have HMF := Lib.hid (fun W (hW : Below w.heap.size w W) => machineFor_yes W b p a n c S (h.on hW) hf hn hp x ⟨by omega, hx⟩)
  have HST := Lib.hid (fun W (hW : Below w.heap.size w W) => impl_sort_yes W b p a n c S (h.on hW) hf hn x (by omega) a2 m c2 I' C (h2.on hW) hf2 a3 m3 c3 I B (h3.on hW) hf3 hb hmi)
  obtain ⟨MM, hMM⟩ : ∃ MM, M.binTo (fkey b n S C x I' m3 I B) I' C m = MM := ⟨_, rfl⟩
  obtain ⟨LL, hLL⟩ : ∃ LL, M.restTo (fkey b n S C x I' m3 I B) I' C m = LL := ⟨_, rfl⟩
  rw [hMM, hLL] at HST
  rw [hMM, hLL]
  obtain ⟨N, hN⟩ : ∃ N, b.toNat = N := ⟨_, rfl⟩
  rw [hN] at HST ⊢
  have hN0 : 0 < N := by omega
  have n1 : ¬ P0 = V0 := by omega
  have n2 : ¬ X0 = V0 := by omega
  have n3 : ¬ B0 = V0 := by omega
  have n4 : ¬ L0 = V0 := by omega
  have n5 : ¬ U0 = V0 := by omega
  have n6 : ¬ P0 = U0 := by omega
  have n7 : ¬ X0 = U0 := by omega
  have n8 : ¬ B0 = U0 := by omega
  have n9 : ¬ L0 = U0 := by omega
  have n10 : ¬ V0 = U0 := by omega
  have nn0 : V0 ≠ P0 := by omega
  have nn1 : V0 ≠ X0 := by omega
  have nn2 : V0 ≠ B0 := by omega
  have nn3 : V0 ≠ L0 := by omega
  have nn4 : U0 ≠ P0 := by omega
  have nn5 : U0 ≠ X0 := by omega
  have nn6 : U0 ≠ B0 := by omega
  have nn7 : U0 ≠ L0 := by omega
  have BR := Lib.hid (Below.refl w.heap.size w)
  have lv := World.block_lt_of_cell? _ _ hx0.vv
  have lu := World.block_lt_of_cell? _ _ hx0.uu
  clear h hf h2 hf2 h3 hf3 hb hmi hp hx0 hMM hLL hN
  obtain ⟨⟨⟨t0, t1, t2⟩, _⟩, x0, b0, l0, v0, u0, vf, uf⟩ := HX.out
  unfold mac at HMF HST
  go_enter Tryd.func46, Tryd.ntmps46
  go_wp2
  go_region_held3 (fun w' => w'.cell? ⟨P0, 0, none⟩ = some (.int .i64 b) ∧ w'.cell? ⟨P0, 1, none⟩ = some (.int .i64 p) ∧ w'.cell? ⟨P0, 2, none⟩ = some (.slice a n c) ∧ w'.cell? ⟨X0, 0, none⟩ = some (.int .i64 x) ∧ w'.cell? ⟨B0, 0, none⟩ = some (.slice a2 m c2) ∧ w'.cell? ⟨L0, 0, none⟩ = some (.slice a3 m3 c3)) (go_keep) (first
    | (go_at_call 47; refine (HMF.out _ (by first | exact BR.out | exact BR.out.drew)).mono ?_; rintro e w1 ⟨rfl, k1⟩; have K1 : Hid (Below w.heap.size w w1) := (by first | exact k1 | exact sstep (Below.refl _ _).drew k1); have HX1 := Lib.hid (HX.out.on K1.out); obtain ⟨⟨⟨c0, c1, c2'⟩, _⟩, c3', c4, c5, c6, c7, c8, c9⟩ := HX1.out)
    | (go_at_call 48; refine (HST.out _ (by first | exact K1.out | exact K1.out.drew)).mono ?_; rintro e w2 ⟨v, V, u, rfl, hm, hr, hap, k2⟩; obtain ⟨G, cG, hv⟩ := hm.some hN0; obtain ⟨aU, cU, hu, _, _⟩ := hr.form; subst hv hu; have K2 : Hid (Below w.heap.size w w2) := (by first | exact sstep K1.out k2 | exact sstep (sstep K1.out (Below.refl _ _).drew) k2); have HX2 := Lib.hid (HX.out.on K2.out); obtain ⟨⟨⟨d0, d1, d2⟩, _⟩, d3, d4, d5, d6, d7, d8, d9⟩ := HX2.out; have HM := Lib.hid (hm.lower (base' := w.heap.size) (by first | exact K1.out.size | exact K1.out.drew.size)); have HR := Lib.hid (hr.lower (base' := w.heap.size) (by first | exact K1.out.size | exact K1.out.drew.size)); have HA := Lib.hid hap; clear hm hr hap k2))
  all_goals
    have on2 := (Only.set (S := fun k => k = V0 ∨ k = U0) w2 ⟨V0, 0, none⟩ (.slice (some ⟨G, 0, none⟩) N cG) (Or.inl rfl)).trans (Only.set (S := fun k => k = V0 ∨ k = U0) (w2.setCell ⟨V0, 0, none⟩ (.slice (some ⟨G, 0, none⟩) N cG)) ⟨U0, 0, none⟩ (.slice aU LL.length cU) (Or.inr rfl)) (fun _ _ h => h)
    have hc1 : ((w2.setCell ⟨V0, 0, none⟩ (.slice (some ⟨G, 0, none⟩) N cG)).setCell ⟨U0, 0, none⟩ (.slice aU LL.length cU)).cell? ⟨V0, 0, none⟩ = some (.slice (some ⟨G, 0, none⟩) N cG) := by
      rw [World.cell?_setCell_far _ _ _ _ (fun e => n5 e)]
      simp [go_sem, d6]
    have hc2 : ((w2.setCell ⟨V0, 0, none⟩ (.slice (some ⟨G, 0, none⟩) N cG)).setCell ⟨U0, 0, none⟩ (.slice aU LL.length cU)).cell? ⟨U0, 0, none⟩ = some (.slice aU LL.length cU) := by
      have d8' : (w2.setCell ⟨V0, 0, none⟩ (.slice (some ⟨G, 0, none⟩) N cG)).cell? ⟨U0, 0, none⟩ = some (.slice none 0 0) := by
        rw [World.cell?_setCell_far _ _ _ _ (fun e => n10 e)]
        exact d7
      simp [go_sem, d8']
    have Q1 := Lib.hid (HM.out.only on2 (fun k hk hs => by have := (HM.out.lt hk).1; omega))
    have Q2 := Lib.hid (HR.out.only on2 (fun k hk hs => by have := (HR.out.lt k hk).1; omega))
    have Q3 := Lib.hid (Only.trans (S := fun k => k = V0 ∨ k = U0) (Only.new K2.out) on2 (fun _ _ h => h))
    have Q4 := Lib.hid hc1
    have Q5 := Lib.hid hc2
    clear on2 hc1 hc2
    go_wp2
    go_end0
    exact ⟨rfl, _, V, _, Q1.out, Q2.out, HA.out, Q4.out, Q5.out, Q3.out⟩

set_option maxHeartbeats 4000000 in
set_option maxRecDepth 100000 in
theorem faulty1_no (w : World) (J : Addr) (hj : Jam w J) (b p : Int) (a : Option Addr) (n c : Nat) (S : Nat → ByteArray) (h : Strs w a n S) (hf : SFits n S) (hn : n ≤ 1048576) (x : Int) (a2 : Option Addr) (m c2 : Nat) (I' : Nat → Int) (C : Nat → ByteArray) (h2 : Lts w a2 m I' C) (hf2 : Fits m I' C)
    (a3 : Option Addr) (m3 c3 : Nat) (I B : Nat → Int) (h3 : Mss w a3 m3 I B) (hf3 : MFits m3 I B) (hbad : ¬ (M.plan b p n S = true ∧ (0 ≤ x ∧ x < p) ∧ M.batch m I' C = true ∧ M.mis b p n S m3 I B = true)) (P0 X0 B0 L0 V0 U0 : Nat)
    (hx0 : FBox w b p a n c x a2 m c2 a3 m3 c3 P0 X0 B0 L0 V0 U0 (.slice none 0 0) (.slice none 0 0)) :
    Calls Tryd.prog 46 #[.pointer (some ⟨P0, 0, none⟩), .pointer (some ⟨X0, 0, none⟩), .pointer (some ⟨B0, 0, none⟩), .pointer (some ⟨L0, 0, none⟩), .pointer (some ⟨V0, 0, none⟩), .pointer (some ⟨U0, 0, none⟩)] w
      fun e w' => e = JamEnd J ∧ Below w.heap.size w w' := by
  have HX := Lib.hid hx0
  have BR := Lib.hid (Below.refl w.heap.size w)
  obtain ⟨⟨⟨t0, t1, t2⟩, _⟩, x0, b0, l0, v0, u0, vf, uf⟩ := HX.out
  by_cases hmf : M.plan b p n S = true ∧ 0 ≤ x ∧ x < p
  · have HMF := Lib.hid (fun W (hW : Below w.heap.size w W) => machineFor_yes W b p a n c S (h.on hW) hf hn hmf.1 x hmf.2)
    have HST := Lib.hid (fun W (hW : Below w.heap.size w W) => impl_sort_no W J (hj.on hW) b p a n c S (h.on hW) hf hn x a2 m c2 I' C (h2.on hW) hf2 a3 m3 c3 I B (h3.on hW) hf3 (fun e => hbad ⟨hmf.1, hmf.2, e.1, e.2⟩))
    clear h hf h2 hf2 h3 hf3 hx0 hj hbad hmf
    unfold mac at HMF HST
    go_enter Tryd.func46, Tryd.ntmps46
    go_wp2
    refine wp_region_held_drew (by kernel_rfl) (S := fun w' => Below w.heap.size w w') (by exact BR.out.drew) (fun hS => ?_)
    refine wpAnyH_take (i := 0) (v := .agg #[.int .i64 b, .int .i64 p, .slice a n c]) rfl (by kernel_rfl) (by kernel_rfl) (by kernel_rfl) (fun c a' w' h => panic_put h) (Or.inl ⟨by rfl, ?_⟩) hS ?_
    · intro w' hw'
      obtain ⟨⟨⟨c0, c1, c2'⟩, _⟩, c3', c4, c5, c6, c7, c8, c9⟩ := HX.out.on hw'
      go_simp
    simp only [Act.put, List.setIfInBounds_toArray]
    refine wpAnyH_take (i := 1) (v := .int .i64 x) rfl (by kernel_rfl) (by kernel_rfl) (by kernel_rfl) (fun c a' w' h => panic_put h) (Or.inl ⟨by rfl, ?_⟩) hS ?_
    · intro w' hw'
      obtain ⟨⟨⟨c0, c1, c2'⟩, _⟩, c3', c4, c5, c6, c7, c8, c9⟩ := HX.out.on hw'
      go_simp
    simp only [Act.put]
    refine wpAnyH_take (i := 3) (v := .slice a2 m c2) rfl (by kernel_rfl) (by kernel_rfl) (by kernel_rfl) (fun c a' w' h => panic_put h) (Or.inl ⟨by rfl, ?_⟩) hS ?_
    · intro w' hw'
      obtain ⟨⟨⟨c0, c1, c2'⟩, _⟩, c3', c4, c5, c6, c7, c8, c9⟩ := HX.out.on hw'
      go_simp
    simp only [Act.put]
    refine wpAnyH_take (i := 4) (v := .slice a3 m3 c3) rfl (by kernel_rfl) (by kernel_rfl) (by kernel_rfl) (fun c a' w' h => panic_put h) (Or.inl ⟨by rfl, ?_⟩) hS ?_
    · intro w' hw'
      obtain ⟨⟨⟨c0, c1, c2'⟩, _⟩, c3', c4, c5, c6, c7, c8, c9⟩ := HX.out.on hw'
      go_simp
    simp only [Act.put]
    refine wpAnyH_ready (rs := [2]) (by kernel_rfl) (by simp) ?_
    refine AllReadyH.cons rfl (fun K hK => ?_) AllReadyH.nil
    go_simp
    refine (HMF.out _ BR.out.drew).mono ?_
    rintro e w1 ⟨rfl, k1⟩
    have K1 : Hid (Below w.heap.size w w1) := sstep BR.out.drew k1
    clear k1
    refine hK.out _ _ K1.out (fun hS1 => ?_)
    refine wpAnyH_ready (rs := [5]) (by kernel_rfl) (by simp) ?_
    refine AllReadyH.cons rfl (fun K hK => ?_) AllReadyH.nil
    go_simp
    refine (HST.out _ K1.out).mono ?_
    rintro e w2 ⟨rfl, k2⟩
    exact ⟨rfl, rfl, sstep K1.out k2⟩
  · have HMF := Lib.hid (fun W (hW : Below w.heap.size w W) => machineFor_no W J (hj.on hW) b p a n c S (h.on hW) hf hn x hmf)
    clear h hf h2 hf2 h3 hf3 hx0 hj hbad hmf
    go_enter Tryd.func46, Tryd.ntmps46
    go_wp2
    refine wp_region_held_drew (by kernel_rfl) (S := fun w' => Below w.heap.size w w') (by exact BR.out.drew) (fun hS => ?_)
    refine wpAnyH_take (i := 0) (v := .agg #[.int .i64 b, .int .i64 p, .slice a n c]) rfl (by kernel_rfl) (by kernel_rfl) (by kernel_rfl) (fun c a' w' h => panic_put h) (Or.inl ⟨by rfl, ?_⟩) hS ?_
    · intro w' hw'
      obtain ⟨⟨⟨c0, c1, c2'⟩, _⟩, c3', c4, c5, c6, c7, c8, c9⟩ := HX.out.on hw'
      go_simp
    simp only [Act.put, List.setIfInBounds_toArray]
    refine wpAnyH_take (i := 1) (v := .int .i64 x) rfl (by kernel_rfl) (by kernel_rfl) (by kernel_rfl) (fun c a' w' h => panic_put h) (Or.inl ⟨by rfl, ?_⟩) hS ?_
    · intro w' hw'
      obtain ⟨⟨⟨c0, c1, c2'⟩, _⟩, c3', c4, c5, c6, c7, c8, c9⟩ := HX.out.on hw'
      go_simp
    simp only [Act.put]
    refine wpAnyH_take (i := 3) (v := .slice a2 m c2) rfl (by kernel_rfl) (by kernel_rfl) (by kernel_rfl) (fun c a' w' h => panic_put h) (Or.inl ⟨by rfl, ?_⟩) hS ?_
    · intro w' hw'
      obtain ⟨⟨⟨c0, c1, c2'⟩, _⟩, c3', c4, c5, c6, c7, c8, c9⟩ := HX.out.on hw'
      go_simp
    simp only [Act.put]
    refine wpAnyH_take (i := 4) (v := .slice a3 m3 c3) rfl (by kernel_rfl) (by kernel_rfl) (by kernel_rfl) (fun c a' w' h => panic_put h) (Or.inl ⟨by rfl, ?_⟩) hS ?_
    · intro w' hw'
      obtain ⟨⟨⟨c0, c1, c2'⟩, _⟩, c3', c4, c5, c6, c7, c8, c9⟩ := HX.out.on hw'
      go_simp
    simp only [Act.put]
    refine wpAnyH_ready (rs := [2]) (by kernel_rfl) (by simp) ?_
    refine AllReadyH.cons rfl (fun K hK => ?_) AllReadyH.nil
    go_simp
    refine (HMF.out _ BR.out.drew).mono ?_
    rintro e w1 ⟨rfl, k1⟩
    exact ⟨rfl, rfl, sstep BR.out.drew k1⟩
end Go.Proofs.YtnaghfppeejaoaaDoor

/-
  What FaultyPass of the program returns.
-/
namespace Go.Proofs.YtnaghfppeejaoaaDoor
open Go.RowKit
open Go.PlainAid (bt get_bt bt_nonneg bt_le)
set_option linter.unusedVariables false

theorem run_faulty1 (cap : Array Value) (W : World) : (callFunc 46 cap).run Tryd.prog W = .ok (.enter 46 cap) W :=
  run_enter Tryd.func46 (by kernel_rfl) (by kernel_rfl) cap W

/-- There is a faulty pass. -/
noncomputable def faultyOk (b p : Int) (n : Nat) (S : Nat → ByteArray) (m : Nat) (I' : Nat → Int) (C : Nat → ByteArray) (x : Int) (m3 : Nat) (I B : Nat → Int) : Bool :=
  @decide (M.plan b p n S = true ∧ (0 ≤ x ∧ x < p) ∧ M.batch m I' C = true ∧ M.mis b p n S m3 I B = true) (Classical.propDecidable _)
noncomputable def faultyN (b p : Int) (n : Nat) (S : Nat → ByteArray) (m : Nat) (I' : Nat → Int) (C : Nat → ByteArray) (x : Int) (m3 : Nat) (I B : Nat → Int) : Nat := if faultyOk b p n S m I' C x m3 I B = true then b.toNat else 0
noncomputable def faultyL (b p : Int) (n : Nat) (S : Nat → ByteArray) (m : Nat) (I' : Nat → Int) (C : Nat → ByteArray) (x : Int) (m3 : Nat) (I B : Nat → Int) : List (Int × ByteArray) := if faultyOk b p n S m I' C x m3 I B = true then M.restTo (fkey b n S C x.toNat I' m3 I B) I' C m else []

set_option maxHeartbeats 4000000 in
set_option maxRecDepth 100000 in
theorem impl_FaultyPass (w : World) (J : Addr) (hj : Jam w J) (b p : Int) (a : Option Addr) (n c : Nat) (S : Nat → ByteArray) (h : Strs w a n S) (hf : SFits n S) (hn : n ≤ 1048576) (a2 : Option Addr) (m c2 : Nat) (I' : Nat → Int) (C : Nat → ByteArray) (h2 : Lts w a2 m I' C) (hf2 : Fits m I' C) (x : Int)
    (a3 : Option Addr) (m3 c3 : Nat) (I B : Nat → Int) (h3 : Mss w a3 m3 I B) (hf3 : MFits m3 I B) :
    Calls Tryd.prog 12 #[.agg #[.int .i64 b, .int .i64 p, .slice a n c], .slice a2 m c2, .int .i64 x, .slice a3 m3 c3] w
      (PassRes w (faultyOk b p n S m I' C x m3 I B) (faultyN b p n S m I' C x m3 I B) (M.binTo (fkey b n S C x.toNat I' m3 I B) I' C m) (faultyL b p n S m I' C x m3 I B)) := by
  have hmf : ∀ (fn : Fn) (first cap : Array Value) (w : World), (Instr.makeFunc fn first cap).run Tryd.prog w = .ok (.func fn first cap) w := fun _ _ _ _ => rfl
  obtain ⟨w6, hw6⟩ : ∃ w6, (((((w.alloc (.cells #[.int .i64 b, .int .i64 p, .slice a n c] 25)).alloc (.cells #[.slice a2 m c2] 26)).alloc (.cells #[.int .i64 x] 3)).alloc (.cells #[.slice a3 m3 c3] 27)).alloc (.cells #[.slice none 0 0] 30)).alloc (.cells #[.slice none 0 0] 26) = w6 := ⟨_, rfl⟩
  have B6 : Hid (Below w.heap.size w w6) := by rw [← hw6]; show Below _ _ _; go_grown
  have hz6 : w6.heap.size = w.heap.size + 6 := by rw [← hw6]; simp
  have FB : Hid (∀ W, Below w6.heap.size w6 W → FBox W b p a n c x a2 m c2 a3 m3 c3 w.heap.size (w.heap.size + 2) (w.heap.size + 1) (w.heap.size + 3) (w.heap.size + 4) (w.heap.size + 5) (.slice none 0 0) (.slice none 0 0)) := fun W hW => by
    refine FBox.on ?_ hW
    rw [← hw6]
    refine ⟨(((((tri_made w (.int .i64 b) (.int .i64 p) (.slice a n c) 25).alloc _).alloc _).alloc _).alloc _).alloc _, ?_, ?_, ?_, ?_, ?_, ?_, ?_⟩ <;> simp [go_sem]
  have HJ6 := Lib.hid (hj.on B6.out)
  unfold faultyOk faultyN faultyL faultyOk
  have HH := Lib.hid (h.on B6.out)
  have HH2 := Lib.hid (h2.on B6.out)
  have HH3 := Lib.hid (h3.on B6.out)
  by_cases hok : M.plan b p n S = true ∧ (0 ≤ x ∧ x < p) ∧ M.batch m I' C = true ∧ M.mis b p n S m3 I B = true
  · rw [@decide_eq_true _ (Classical.propDecidable _) hok, if_pos rfl, if_pos rfl]
    obtain ⟨hp, hx, hb, hmi⟩ := hok
    obtain ⟨y, rfl⟩ := Int.eq_ofNat_of_zero_le hx.1
    rw [Int.toNat_natCast]
    obtain ⟨s1, s2, _⟩ := M.plan_shape hp
    have HR := Lib.hid (runs_well w6 J HJ6.out 46 #[.pointer (some ⟨w.heap.size, 0, none⟩), .pointer (some ⟨w.heap.size + 2, 0, none⟩), .pointer (some ⟨w.heap.size + 1, 0, none⟩), .pointer (some ⟨w.heap.size + 3, 0, none⟩), .pointer (some ⟨w.heap.size + 4, 0, none⟩), .pointer (some ⟨w.heap.size + 5, 0, none⟩)]
      (fun W w1 => FDone (W.alloc (.cells #[.nilIface] 103)) (w.heap.size + 4) (w.heap.size + 5) b.toNat (M.binTo (fkey b n S C y I' m3 I B) I' C m) (M.restTo (fkey b n S C y I' m3 I B) I' C m) w1) (run_faulty1 _)
      (fun W hW => by
        have hW2 : Below w6.heap.size w6 (W.alloc (.cells #[.nilIface] 103)) := hW.alloc hW.size _
        exact faulty1_yes _ b p a n c S (HH.out.on hW2) hf hn y hx.2 a2 m c2 I' C (HH2.out.on hW2) hf2 a3 m3 c3 I B (HH3.out.on hW2) hf3 hb hmi _ _ _ _ _ _ (by omega) (FB.out _ hW2))
      (fun W w1 hW hr => by
        obtain ⟨v, V, u, _, _, _, _, _, ho⟩ := hr
        have hs := hW.size
        have hbk := ho.block W.heap.size (by simp) (by omega)
        refine ⟨(World.cell?_of_block hbk).trans (by simp), (World.frozen?_of_block hbk).trans (by simp [go_sem]), ?_⟩
        have hj2 := (HJ6.out.on hW).on (below_alloc0 W (.cells #[.nilIface] 103))
        have hl := HJ6.out.lt
        exact (World.cell?_of_block (ho.block _ hj2.lt (show ¬ (0 = w.heap.size + 4 ∨ 0 = w.heap.size + 5) from by have := hj.lt; omega))).trans hj2))
    obtain ⟨N, hN⟩ : ∃ N, b.toNat = N := ⟨_, rfl⟩
    obtain ⟨MM, hMM⟩ : ∃ MM, M.binTo (fkey b n S C y I' m3 I B) I' C m = MM := ⟨_, rfl⟩
    obtain ⟨LL, hLL⟩ : ∃ LL, M.restTo (fkey b n S C y I' m3 I B) I' C m = LL := ⟨_, rfl⟩
    rw [hN, hMM, hLL] at HR
    rw [hN, hMM, hLL]
    have HW6 := Lib.hid hw6
    clear h h2 h3 hj hw6 hN hMM hLL FB HH HH2 HH3 hp hx hb hmi
    go_enter Tryd.func12, Tryd.ntmps12
    go_wp2_with fail
    rw [HW6.out]
    refine HR.out.mono ?_
    rintro e w7 ⟨rfl, W, wa, hW, ⟨v, V, u, hM, hRo, hA, hv, hu, ho⟩, on⟩
    have hsW := hW.size
    have hszA : (W.alloc (.cells #[.nilIface] 103)).heap.size = W.heap.size + 1 := by simp
    rw [hszA] at hM hRo
    have v7 : w7.cell? ⟨w.heap.size + 4, 0, none⟩ = some v := (World.cell?_of_block (on.block (w.heap.size + 4) (World.block_lt_of_cell? _ _ hv) (by omega))).trans hv
    have u7 : w7.cell? ⟨w.heap.size + 5, 0, none⟩ = some u := (World.cell?_of_block (on.block (w.heap.size + 5) (World.block_lt_of_cell? _ _ hu) (by omega))).trans hu
    have M7 := Lib.hid (hM.only on (fun k hk hs => by have := (hM.lt hk).1; omega))
    have R7 := Lib.hid (hRo.only on (fun k hk hs => by have := (hRo.lt k hk).1; omega))
    have A7 := Lib.hid hA
    have hoz := ho.size
    rw [hszA] at hoz
    have B7 : Hid (Below w.heap.size w w7) := ((B6.out.trans (hW.mono (by omega))).trans ((below_alloc0 W (.cells #[.nilIface] 103)).mono (by omega))).trans ((ho.below (B := w.heap.size) (fun k hk _ hs => by omega) (by rw [hszA]; omega)).trans (on.below (B := w.heap.size) (fun k hk _ hs => by omega) (by omega)))
    clear hM hRo hA hv hu ho on
    go_wp2
    go_quiet (fail)
    go_wp2
    go_ret3
    exact ⟨v, V, u, rfl, M7.out.lower (by omega), R7.out.lower (by omega), A7.out, by first | exact B7.out | exact below_drewN0 B7.out _⟩
  · rw [@decide_eq_false _ (Classical.propDecidable _) hok, if_neg (by decide), if_neg (by decide)]
    have HR := Lib.hid (runs_jam w6 J HJ6.out 46 #[.pointer (some ⟨w.heap.size, 0, none⟩), .pointer (some ⟨w.heap.size + 2, 0, none⟩), .pointer (some ⟨w.heap.size + 1, 0, none⟩), .pointer (some ⟨w.heap.size + 3, 0, none⟩), .pointer (some ⟨w.heap.size + 4, 0, none⟩), .pointer (some ⟨w.heap.size + 5, 0, none⟩)]
      (fun W w1 => Below (W.alloc (.cells #[.nilIface] 103)).heap.size (W.alloc (.cells #[.nilIface] 103)) w1) (run_faulty1 _)
      (fun W hW => by
        have hW2 : Below w6.heap.size w6 (W.alloc (.cells #[.nilIface] 103)) := hW.alloc hW.size _
        exact faulty1_no _ J (HJ6.out.on hW2) b p a n c S (HH.out.on hW2) hf hn x a2 m c2 I' C (HH2.out.on hW2) hf2 a3 m3 c3 I B (HH3.out.on hW2) hf3 hok _ _ _ _ _ _ (FB.out _ hW2))
      (fun W w1 hW hr => by
        have hbk := hr.block W.heap.size (by simp)
        exact ⟨(World.cell?_of_block hbk).trans (by simp), (World.frozen?_of_block hbk).trans (by simp [go_sem]), ((HJ6.out.on hW).on (below_alloc0 W (.cells #[.nilIface] 103))).on hr⟩))
    have HW6 := Lib.hid hw6
    have HFB := Lib.hid FB
    clear h h2 h3 hj hw6 FB HH HH2 HH3 hok
    go_enter Tryd.func12, Tryd.ntmps12
    go_wp2_with fail
    rw [HW6.out]
    refine HR.out.mono ?_
    rintro e w7 ⟨rfl, W, wa, hW, hr, on⟩
    have hsW := hW.size
    have hszA : (W.alloc (.cells #[.nilIface] 103)).heap.size = W.heap.size + 1 := by simp
    have hwa : Below w6.heap.size w6 wa := (hW.alloc hsW (.cells #[.nilIface] 103)).trans (hr.mono (by rw [hszA]; omega))
    have fb := HFB.out wa hwa
    have v7 : w7.cell? ⟨w.heap.size + 4, 0, none⟩ = some (.slice none 0 0) := (World.cell?_of_block (on.block (w.heap.size + 4) (World.block_lt_of_cell? _ _ fb.vv) (by omega))).trans fb.vv
    have u7 : w7.cell? ⟨w.heap.size + 5, 0, none⟩ = some (.slice none 0 0) := (World.cell?_of_block (on.block (w.heap.size + 5) (World.block_lt_of_cell? _ _ fb.uu) (by omega))).trans fb.uu
    have hzw := hwa.size
    have B7 : Hid (Below w.heap.size w w7) := (B6.out.trans (hwa.mono (by omega))).trans (on.below (B := w.heap.size) (fun k hk _ hs => by omega) (by omega))
    clear hr on fb hwa hW
    go_wp2
    go_quiet (fail)
    go_wp2
    go_ret3
    exact ⟨_, fun _ => .slice none 0 0, _, rfl, Mat.nil _ _ _ _, Row.nil _ _, (fun g e => by cases e), by first | exact B7.out | exact below_drewN0 B7.out _⟩
end Go.Proofs.YtnaghfppeejaoaaDoor

/-
  What FaultyPass of the model returns.
-/
namespace Go.Proofs.YtnaghfppeejaoaaDoor
open Go.RowKit
open Go.PlainAid (bt get_bt bt_nonneg bt_le)
set_option linter.unusedVariables false

theorem faultyOk_eq {b p : Int} {n : Nat} {S : Nat → ByteArray} {m : Nat} {I' : Nat → Int} {C : Nat → ByteArray} {x : Int} {m3 : Nat} {I B : Nat → Int} : faultyOk b p n S m I' C x m3 I B = ((M.plan b p n S && M.batch m I' C) && decide (0 ≤ x ∧ x ≤ p - 1) && M.mis b p n S m3 I B) := by
  unfold faultyOk
  by_cases h : M.plan b p n S = true ∧ (0 ≤ x ∧ x < p) ∧ M.batch m I' C = true ∧ M.mis b p n S m3 I B = true
  · rw [@decide_eq_true _ (Classical.propDecidable _) h, h.1, h.2.2.1, h.2.2.2, decide_eq_true (show 0 ≤ x ∧ x ≤ p - 1 by have := h.2.1; omega)]
    rfl
  · rw [@decide_eq_false _ (Classical.propDecidable _) h]
    symm
    rw [Bool.eq_false_iff]
    intro e
    simp only [Bool.and_eq_true, decide_eq_true_eq] at e
    exact h ⟨e.1.1.1, ⟨e.1.2.1, by have := e.1.2.2; omega⟩, e.1.1.2, e.2⟩

set_option maxHeartbeats 1000000 in
theorem spec_l7Ready (w : World) (b p : Int) (a : Option Addr) (n c : Nat) (S : Nat → ByteArray) (h : Strs w a n S) (hf : SFits n S) (hn : n ≤ 1048576) (a2 : Option Addr) (m c2 : Nat) (I' : Nat → Int) (C : Nat → ByteArray) (h2 : Lts w a2 m I' C) (hf2 : Fits m I' C) (hm : m ≤ 1048576) (x : Int)
    (a3 : Option Addr) (m3 c3 : Nat) (I B : Nat → Int) (h3 : Mss w a3 m3 I B) (hf3 : MFits m3 I B) (hm3 : m3 ≤ 1048576) :
    Calls Tryd.prog 77 #[.agg #[.int .i64 b, .int .i64 p, .slice a n c], .slice a2 m c2, .int .i64 x, .slice a3 m3 c3] w fun e w' => e = .returned (.bool (faultyOk b p n S m I' C x m3 I B)) ∧ Below w.heap.size w w' := by
  have HL := Lib.hid (h.on (below_alloc0 w (.cells #[.int .i64 b, .int .i64 p, .slice a n c] 25)))
  have HL2 := Lib.hid (h2.on (below_alloc0 w (.cells #[.int .i64 b, .int .i64 p, .slice a n c] 25)))
  have HL3 := Lib.hid (h3.on (below_alloc0 w (.cells #[.int .i64 b, .int .i64 p, .slice a n c] 25)))
  have bx := Lib.hid (tri_made w (.int .i64 b) (.int .i64 p) (.slice a n c) 25)
  have HF := Lib.hid hf
  have HF2 := Lib.hid hf2
  have HF3 := Lib.hid hf3
  clear h hf h2 hf2 h3 hf3
  rw [faultyOk_eq]
  obtain ⟨⟨t0, t1, t2⟩, _⟩ := bx.out
  cases hr : (M.plan b p n S && M.batch m I' C)
  · go_enter Tryd.func77, Tryd.ntmps77
    go_wp2_with fail
    refine (spec_l3Ready _ b p a n c S HL.out HF.out hn a2 m c2 I' C HL2.out HF2.out hm).mono ?_
    rw [hr]
    rintro e w1 ⟨rfl, hb1⟩
    go_wp2
    go_ret
    exact ⟨rfl, sstep (by go_grown) hb1⟩
  · obtain ⟨hp, hb⟩ := (Bool.and_eq_true _ _).mp hr
    obtain ⟨s1, s2, s3, s4⟩ := M.plan_shape hp
    have HR := Lib.hid hr
    clear hr hb hp
    cases hd : decide (0 ≤ x ∧ x ≤ p - 1)
    · have HD := Lib.hid hd
      clear hd
      go_enter Tryd.func77, Tryd.ntmps77
      go_wp2_with fail
      refine (spec_l3Ready _ b p a n c S HL.out HF.out hn a2 m c2 I' C HL2.out HF2.out hm).mono ?_
      rw [HR.out]
      rintro e w1 ⟨rfl, hb1⟩
      clear t0 t1 t2
      obtain ⟨⟨t0, t1, t2⟩, _⟩ := bx.out.on hb1
      go_wp2_with fail
      refine (spec_l1In x 0 (p - 1) _).mono ?_
      rw [HD.out]
      rintro e w2 ⟨rfl, rfl⟩
      go_wp2
      go_ret
      exact ⟨rfl, sstep (by go_grown) hb1⟩
    · have HD := Lib.hid hd
      clear hd
      go_enter Tryd.func77, Tryd.ntmps77
      go_wp2_with fail
      refine (spec_l3Ready _ b p a n c S HL.out HF.out hn a2 m c2 I' C HL2.out HF2.out hm).mono ?_
      rw [HR.out]
      rintro e w1 ⟨rfl, hb1⟩
      clear t0 t1 t2
      obtain ⟨⟨t0, t1, t2⟩, _⟩ := bx.out.on hb1
      go_wp2_with fail
      refine (spec_l1In x 0 (p - 1) _).mono ?_
      rw [HD.out]
      rintro e w2 ⟨rfl, rfl⟩
      go_wp2_with fail
      refine (spec_MissortsValid _ b p a n c S (HL.out.on hb1) HF.out hn a3 m3 c3 I B (HL3.out.on hb1) HF3.out hm3).mono ?_
      rintro e w3 ⟨rfl, hb3⟩
      go_wp2
      go_ret
      exact ⟨rfl, sstep (sstep (by go_grown) hb1) hb3⟩

set_option maxHeartbeats 1000000 in
theorem spec_FaultyPass_raw (w : World) (b p : Int) (a : Option Addr) (n c : Nat) (S : Nat → ByteArray) (h : Strs w a n S) (hf : SFits n S) (hn : n ≤ 1048576) (a2 : Option Addr) (m c2 : Nat) (I' : Nat → Int) (C : Nat → ByteArray) (h2 : Lts w a2 m I' C) (hf2 : Fits m I' C) (hm : m ≤ 1048576) (x : Int)
    (a3 : Option Addr) (m3 c3 : Nat) (I B : Nat → Int) (h3 : Mss w a3 m3 I B) (hf3 : MFits m3 I B) (hm3 : m3 ≤ 1048576) :
    Calls Tryd.prog 49 #[.agg #[.int .i64 b, .int .i64 p, .slice a n c], .slice a2 m c2, .int .i64 x, .slice a3 m3 c3] w
      (PassRes w (faultyOk b p n S m I' C x m3 I B) (faultyN b p n S m I' C x m3 I B) (M.binTo (fkey b n S C x.toNat I' m3 I B) I' C m) (faultyL b p n S m I' C x m3 I B)) := by
  have HL := Lib.hid (h.on (below_alloc0 w (.cells #[.int .i64 b, .int .i64 p, .slice a n c] 25)))
  have HL2 := Lib.hid (h2.on (below_alloc0 w (.cells #[.int .i64 b, .int .i64 p, .slice a n c] 25)))
  have HL3 := Lib.hid (h3.on (below_alloc0 w (.cells #[.int .i64 b, .int .i64 p, .slice a n c] 25)))
  have bx := Lib.hid (tri_made w (.int .i64 b) (.int .i64 p) (.slice a n c) 25)
  have HF := Lib.hid hf
  have HF2 := Lib.hid hf2
  have HF3 := Lib.hid hf3
  clear h hf h2 hf2 h3 hf3
  have fin : ∀ W : World, Below w.heap.size w W → ∀ (MM : Nat → List (Int × ByteArray)), PassRes w false 0 MM [] (.returned (.tuple #[.slice (some ⟨W.heap.size, 0, none⟩) 0 0, .slice (some ⟨W.heap.size + 1, 0, none⟩) 0 0, .bool false])) ((W.alloc (.cells #[] 26)).alloc (.cells #[] 37)) := by
    intro W hW MM
    refine ⟨_, fun _ => .slice none 0 0, _, rfl, ⟨?_, fun i hi => absurd hi (by omega), fun i j hi => absurd hi (by omega)⟩, ?_, ?_, ?_⟩
    · exact World.ownsRow.alloc (World.ownsRow_lit (base := w.heap.size) (e := 26) (size := 1) W #[] 0 hW.size (by unfold maxLen; omega) rfl) _
    · have := one_row (W.alloc (.cells #[] 26))
      simp only [World.size_alloc] at this
      exact this.lower (by have := hW.size; omega)
    · intro k e hk
      have e1 : W.heap.size + 1 = k := by simpa [Value.ownBlock] using e
      rcases hk with e2 | ⟨i, hi, _⟩
      · have : W.heap.size = k := by simpa [Value.ownBlock] using e2
        omega
      · omega
    · exact (hW.alloc hW.size _).alloc (by have := hW.size; simp; omega) _
  have FIN := Lib.hid fin
  clear fin
  obtain ⟨⟨t0, t1, t2⟩, _⟩ := bx.out
  unfold faultyN faultyL
  cases hr : faultyOk b p n S m I' C x m3 I B
  · rw [if_neg (by decide), if_neg (by decide)]
    go_enter Tryd.func49, Tryd.ntmps49
    go_wp2_with fail
    refine (spec_l7Ready _ b p a n c S HL.out HF.out hn a2 m c2 I' C HL2.out HF2.out hm x a3 m3 c3 I B HL3.out HF3.out hm3).mono ?_
    rw [hr]
    rintro e w1 ⟨rfl, hb1⟩
    go_wp2
    go_ret3
    exact FIN.out w1 (sstep (by go_grown) hb1) _
  · have hk := hr
    rw [faultyOk_eq] at hk
    simp only [Bool.and_eq_true, decide_eq_true_eq] at hk
    obtain ⟨⟨⟨hp, hb⟩, hx⟩, hmi⟩ := hk
    obtain ⟨_, hm60, hmt⟩ := M.mis_true hmi
    obtain ⟨s1, s2, s3, s4⟩ := M.plan_shape hp
    have HR := Lib.hid hr
    have HMT := Lib.hid hmt
    obtain ⟨q, rfl⟩ := Int.eq_ofNat_of_zero_le hx.1
    obtain ⟨N, rfl⟩ := Int.eq_ofNat_of_zero_le (show 0 ≤ b by omega)
    have hq3 : q ≤ 3 := by omega
    rw [if_pos rfl, if_pos rfl, Int.toNat_natCast, Int.toNat_natCast]
    clear hr hb hp hx hmi hmt
    go_enter Tryd.func49, Tryd.ntmps49
    go_wp2_with fail
    refine (spec_l7Ready _ (N : Int) p a n c S HL.out HF.out hn a2 m c2 I' C HL2.out HF2.out hm q a3 m3 c3 I B HL3.out HF3.out hm3).mono ?_
    rw [HR.out]
    rintro e w1 ⟨rfl, hb1⟩
    have BL : Hid (Below w.heap.size w w1) := sstep (by go_grown) hb1
    have zz := BL.out.size
    clear t0 t1 t2
    obtain ⟨⟨t0, t1, t2⟩, _⟩ := bx.out.on hb1
    go_wp2_with fail
    refine (spec_l7Faulty _ N p a n c S (HL.out.on hb1) hn a2 m c2 I' C (HL2.out.on hb1) hm q s1 s2 hq3 a3 m3 c3 I B (HL3.out.on hb1) hm3 HMT.out).mono ?_
    rintro e w3 ⟨G, V, u, rfl, m3, r3, h3, hb3⟩
    go_wp2
    go_ret3
    exact ⟨_, V, _, rfl, m3.lower zz, r3.lower zz, h3, sstep BL.out hb3⟩

theorem faulty_len {b p : Int} {n : Nat} {S : Nat → ByteArray} {m : Nat} {I' : Nat → Int} {C : Nat → ByteArray} {x : Int} {m3 : Nat} {I B : Nat → Int} : faultyN b p n S m I' C x m3 I B ≤ 16 ∧ (faultyL b p n S m I' C x m3 I B).length ≤ m := by
  unfold faultyN faultyL
  cases h : faultyOk b p n S m I' C x m3 I B
  · rw [if_neg (by decide), if_neg (by decide)]
    exact ⟨by omega, Nat.zero_le _⟩
  · rw [faultyOk_eq] at h
    simp only [Bool.and_eq_true, decide_eq_true_eq] at h
    obtain ⟨s1, s2, s3, s4⟩ := M.plan_shape h.1.1.1
    rw [if_pos rfl, if_pos rfl]
    exact ⟨by omega, M.restTo_len _ _ _ _⟩


set_option maxHeartbeats 1000000 in
theorem spec_FaultyPass (w : World) (b p : Int) (a : Option Addr) (n c : Nat) (S : Nat → ByteArray) (h : Strs w a n S) (hf : SFits n S) (hn : n ≤ 1048576) (a2 : Option Addr) (m c2 : Nat) (I' : Nat → Int) (C : Nat → ByteArray) (h2 : Lts w a2 m I' C) (hf2 : Fits m I' C) (hm : m ≤ 1048576) (x : Int)
    (a3 : Option Addr) (m3 c3 : Nat) (I B : Nat → Int) (h3 : Mss w a3 m3 I B) (hf3 : MFits m3 I B) (hm3 : m3 ≤ 1048576) :
    Calls Tryd.prog 13 #[.agg #[.int .i64 b, .int .i64 p, .slice a n c], .slice a2 m c2, .int .i64 x, .slice a3 m3 c3] w
      (PassRes w (faultyOk b p n S m I' C x m3 I B) (faultyN b p n S m I' C x m3 I B) (M.binTo (fkey b n S C x.toNat I' m3 I B) I' C m) (faultyL b p n S m I' C x m3 I B)) := by
  have HL := Lib.hid (h.on (below_alloc0 w (.cells #[.int .i64 b, .int .i64 p, .slice a n c] 25)))
  have HL2 := Lib.hid (h2.on (below_alloc0 w (.cells #[.int .i64 b, .int .i64 p, .slice a n c] 25)))
  have HL3 := Lib.hid (h3.on (below_alloc0 w (.cells #[.int .i64 b, .int .i64 p, .slice a n c] 25)))
  have HR := Lib.hid (fun W h h2 h3 => spec_FaultyPass_raw W b p a n c S h hf hn a2 m c2 I' C h2 hf2 hm x a3 m3 c3 I B h3 hf3 hm3)
  obtain ⟨l1, l2⟩ := faulty_len (b := b) (p := p) (n := n) (S := S) (m := m) (I' := I') (C := C) (x := x) (m3 := m3) (I := I) (B := B)
  have hlen : Hid (∀ i, (M.binTo (fkey b n S C x.toNat I' m3 I B) I' C m i).length ≤ 1048576) := fun i => by have := M.binTo_len (fkey b n S C x.toNat I' m3 I B) I' C m i; omega
  obtain ⟨N, hN⟩ : ∃ N, faultyN b p n S m I' C x m3 I B = N := ⟨_, rfl⟩
  obtain ⟨LL, hLL⟩ : ∃ LL, faultyL b p n S m I' C x m3 I B = LL := ⟨_, rfl⟩
  rw [hN, hLL] at HR ⊢
  rw [hN] at l1
  rw [hLL] at l2
  obtain ⟨ok, hok⟩ : ∃ ok, faultyOk b p n S m I' C x m3 I B = ok := ⟨_, rfl⟩
  obtain ⟨MM, hMM⟩ : ∃ MM, M.binTo (fkey b n S C x.toNat I' m3 I B) I' C m = MM := ⟨_, rfl⟩
  rw [hok, hMM] at HR ⊢
  rw [hMM] at hlen
  clear h hf h2 hf2 h3 hf3 hN hLL hok hMM
  go_enter Tryd.func13, Tryd.ntmps13
  go_wp2_with fail
  refine (HR.out _ HL.out HL2.out HL3.out).mono ?_
  rintro e w1 ⟨v, V, u, rfl, hm1, hr1, hap, hb1⟩
  have BL : Hid (Below w.heap.size w w1) := sstep (by go_grown) hb1
  have zz := BL.out.size
  have HM := Lib.hid hm1
  obtain ⟨u1, c', hv⟩ : ∃ u c', v = .slice u N c' := by
    rcases hm1.form with ⟨rfl, e⟩ | ⟨g, c', rfl, _⟩
    · exact ⟨_, _, by rw [e]⟩
    · exact ⟨_, _, rfl⟩
  subst hv
  obtain ⟨a4, c4, hu, hlc, hlts⟩ := hr1.form
  subst hu
  have HLT := Lib.hid hlts
  clear hm1 hr1 hap hb1 hlts HL HL2 HL3
  go_wp2_with fail
  refine (l9Own_any _ _ _ N V _ HM.out (by omega) (fun i _ => hlen.out i)).mono ?_
  rintro e w2 ⟨G, d2, V2, rfl, hm2, hb2⟩
  have HM2 := Lib.hid hm2
  have HB2 := Lib.hid (sstep BL.out hb2)
  have z2 := hb2.size
  have HLT2 := Lib.hid (HLT.out.on hb2)
  clear hm2 hb2
  go_wp2_with (at_builtin; refine wpList_append_lts _ rfl _ _ rfl w2.heap.size (.slice (some ⟨w2.heap.size, 0, none⟩) 0 0) [] rfl (one_row w2) a4 _ c4 (nI LL) (nC LL) rfl (HLT2.out.on (by go_grown)) (by simp; omega) (by simp) ?_; intro v1 w3 r1 gr1 ho1; have r1' : Row w3 w2.heap.size v1 LL := (by rw [List.nil_append, lst_nI] at r1; exact r1); have o13 : Only w2 w3 (fun _ => False) := (Only.new (S := fun _ => False) (below_alloc0 w2 _)).trans (Only.of_grown gr1) (fun x hx e => by have e2 : x = w2.heap.size := (by simpa [Value.ownBlock] using e); omega); have R1 := Lib.hid r1'; have O13 := Lib.hid o13; clear r1 gr1 ho1 r1' o13)
  go_ret3
  refine ⟨_, V2, _, rfl, (HM2.out.only O13.out (fun _ _ h => h)).lower zz, R1.out.lower (by omega), fun k e hk => ?_, HB2.out.trans (O13.out.below (B := w.heap.size) (fun _ _ _ h => h) (by omega))⟩
  have := (R1.out.lt k e).1
  have := (HM2.out.lt hk).2
  omega
end Go.Proofs.YtnaghfppeejaoaaDoor
