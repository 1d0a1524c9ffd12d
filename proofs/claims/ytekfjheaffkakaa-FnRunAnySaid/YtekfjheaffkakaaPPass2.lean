/-
  What the model's pass of a plan leaves.
-/
import Derived.Test.YtekfjheaffkakaaPPass
import Derived.Test.YtekfjheaffkakaaBins3
namespace Go.Proofs.Ytekfjheaffkakaa
open Go.RowKit
open Go.PlainAid (bt get_bt bt_nonneg bt_le)

/-- Bins, and letters that have none. -/
def TwoOut (w : World) (N : Nat) (MM : Nat → List (Int × ByteArray)) (LL : List (Int × ByteArray)) (e : Ending) (w' : World) : Prop :=
  ∃ (G : Nat) (V : Nat → Value) (u : Value), e = .returned (.tuple #[.slice (some ⟨G, 0, none⟩) N N, u]) ∧ Mat w' w.heap.size (.slice (some ⟨G, 0, none⟩) N N) N V MM ∧ Row w' w.heap.size u LL ∧ (∀ k, u.ownBlock = some k → ¬ inM (.slice (some ⟨G, 0, none⟩) N N) N V k) ∧ Below w.heap.size w w'

set_option maxHeartbeats 4000000 in
set_option maxRecDepth 100000 in
theorem spec_l3Pass (w : World) (B : Nat) (p : Int) (a : Option Addr) (n c : Nat) (S : Nat → ByteArray) (h : Strs w a n S) (hn : n ≤ 1048576) (a2 : Option Addr) (m c2 : Nat) (I : Nat → Int) (C : Nat → ByteArray) (h2 : Lts w a2 m I C) (hm1 : m ≤ 1048576) (x : Nat) (s1 : 2 ≤ (B : Int)) (s2 : (B : Int) ≤ 16) (hx : x ≤ 3) :
    Calls Try.prog 15 #[.agg #[.int .i64 (B : Int), .int .i64 p, .slice a n c], .slice a2 m c2, .int .i64 x] w
      (TwoOut w B (M.binTo (M.planKey B n S C x) I C m) (M.restTo (M.planKey B n S C x) I C m)) := by
  have HL := Lib.hid (h.on (below_alloc0 w (.cells #[.int .i64 (B : Int), .int .i64 p, .slice a n c] 25)))
  have HL2 := Lib.hid (h2.on (below_alloc0 w (.cells #[.int .i64 (B : Int), .int .i64 p, .slice a n c] 25)))
  have bx := Lib.hid (tri_made w (.int .i64 (B : Int)) (.int .i64 p) (.slice a n c) 25)
  have b0 := below_alloc0 w (.cells #[.int .i64 (B : Int), .int .i64 p, .slice a n c] 25)
  have ha2 : Hid (∀ b' o', a2 = some ⟨b', o', none⟩ → 0 < m → b' < w.heap.size) := fun b' o' e h0 => h2.lt e h0
  have ha1 : Hid (∀ b' o', a = some ⟨b', o', none⟩ → 0 < n → b' < w.heap.size) := fun b' o' e h0 => h.lt e h0
  obtain ⟨CC, hCC⟩ : ∃ CC, madeCells #[Value.slice none 0 0] B = CC := ⟨_, rfl⟩
  have hmm := fun W => mat_made W B (by omega) 39 Try.underlying39 .i64 .i64
  rw [hCC] at hmm
  have hmk : ∀ W : World, (Instr.makeSlice 39 (.int .i64 (B : Int)) (.int .i64 (B : Int))).run Try.prog W = .ok (.slice (some ⟨W.heap.size, 0, none⟩) B B) (W.alloc (.cells CC 26)) := fun W => (hmm W).1
  have k1 := below_alloc0 (w.alloc (.cells #[.int .i64 (B : Int), .int .i64 p, .slice a n c] 25)) (.cells CC 26)
  have HM1 := (hmm (w.alloc (.cells #[.int .i64 (B : Int), .int .i64 p, .slice a n c] 25))).2
  have k2 := below_alloc0 ((w.alloc (.cells #[.int .i64 (B : Int), .int .i64 p, .slice a n c] 25)).alloc (.cells CC 26)) (.cells #[] 33)
  have HQ := one_row ((w.alloc (.cells #[.int .i64 (B : Int), .int .i64 p, .slice a n c] 25)).alloc (.cells CC 26))
  obtain ⟨W3, hW3⟩ : ∃ W3, ((w.alloc (.cells #[.int .i64 (B : Int), .int .i64 p, .slice a n c] 25)).alloc (.cells CC 26)).alloc (.cells #[] 33) = W3 := ⟨_, rfl⟩
  rw [hW3] at k2 HQ
  have hz3 : W3.heap.size = w.heap.size + 3 := by rw [← hW3]; simp
  simp only [World.size_alloc] at HM1 HQ k1 k2
  have M3 := Lib.hid (HM1.on (by simpa using k2))
  have Q3 := Lib.hid (HQ.lower (show w.heap.size + 1 ≤ w.heap.size + 1 + 1 by omega))
  have k12 := k1.trans (k2.mono (by omega))
  have L3 := Lib.hid (HL.out.on (by simpa using k12))
  have LL3 := Lib.hid (HL2.out.on (by simpa using k12))
  have X3 := Lib.hid (bx.out.on (by simpa using k12))
  have B3 : Hid (Below w.heap.size w W3) := b0.trans (k12.mono (by omega))
  have HW3 := Lib.hid hW3
  have HZ3 := Lib.hid hz3
  obtain ⟨i0, hi, hz0, hz1, hz4⟩ := info_parts info_letter
  obtain ⟨⟨t0, t1, t2⟩, _⟩ := bx.out
  clear h h2 hmm hCC k1 k2 k12 HM1 HQ hW3 hz3 HL HL2 bx b0
  go_enter Try.func15, Try.ntmps15
  go_wp2
  rw [HW3.out]
  go_loopw [9, 10] (fun q i wr => ∃ (k : Nat) (V : Nat → Value), k ≤ m ∧ i = .int .i64 k ∧ Hid (Mat wr (w.heap.size + 1) (.slice (some ⟨w.heap.size + 1, 0, none⟩) B B) B V (M.binTo (M.planKey B n S C x) I C k)) ∧ Hid (Row wr (w.heap.size + 1) q (M.restTo (M.planKey B n S C x) I C k)) ∧ Hid (∀ g, q.ownBlock = some g → ¬ inM (.slice (some ⟨w.heap.size + 1, 0, none⟩) B B) B V g) ∧ Hid (Lts wr a2 m I C) ∧ Hid (Strs wr a n S) ∧ Hid (Tri wr w.heap.size (.int .i64 (B : Int)) (.int .i64 p) (.slice a n c)) ∧ Hid (Below w.heap.size w wr) ∧ w.heap.size + 2 < wr.heap.size) (fun _ i _ => m - (intOf i).toNat)
  case atStart =>
    refine ⟨0, _, Nat.zero_le _, rfl, M3, Q3, fun g e hg => ?_, LL3, L3, X3, B3, by have := HZ3.out; omega⟩
    have e2 : w.heap.size + 1 + 1 = g := by simpa [Value.ownBlock] using e
    rcases hg with e3 | ⟨i, hi, e3⟩
    · have : w.heap.size + 1 = g := by simpa [Value.ownBlock] using e3
      omega
    · simp [Value.ownBlock] at e3
  case round =>
    obtain ⟨k, V, hk, rfl, hm, hr, hap, hl, hs, ht, hbw, hz⟩ := hrel
    by_cases hlt : k < m
    · obtain ⟨b1, o1, rfl, c0, c1⟩ := hl.out k hlt
      have hki : (k : Int) < (m : Int) := by omega
      have hk0 : (0 : Int) ≤ (k : Int) := by omega
      clear t0 t1 t2
      obtain ⟨⟨t0, t1, t2⟩, _⟩ := ht.out
      have hRB := Lib.hid (fun W hs => spec_l3Bin W (B : Int) p a n c S hs hn (C k) x s1 s2 hx)
      by_cases h0 : M.rankTo S (C k) n < 0
      · have hv : Hid ((if M.rankTo S (C k) n < 0 then -1 else M.rankBin B (M.rankTo S (C k) n) x) = -1) := if_pos h0
        have hkey := M.planKey_none (b := (B : Int)) (x := x) h0
        have HK := Lib.hid (M.binTo_none hkey I C)
        have HR := Lib.hid (M.restTo_none hkey I C)
        have HLN := M.restTo_len (M.planKey B n S C x) I C k
        clear h0 hkey
        go_wp2
        go_region_with (first
          | (go_at_call 33; refine (hRB.out _ (by first | exact hs.out | exact hs.out.on ⟨rfl, rfl, rfl, Nat.le_refl _, fun _ _ => rfl⟩)).mono ?_; rw [hv.out]; rintro e wb ⟨rfl, hbb⟩; have kk : Below wr.heap.size wr wb := (by first | exact hbb | exact Below.trans (⟨rfl, rfl, rfl, Nat.le_refl _, fun _ _ => rfl⟩ : Below wr.heap.size wr wr.drew) hbb); have K5 := Lib.hid kk; have hz5 := kk.size; clear hbb kk))
        all_goals
          clear c0 c1 t0 t1 t2
          obtain ⟨b2, o2, e2, c0, c1⟩ := hl.out.on K5.out k hlt
          cases e2
          go_wp2_with (at_builtin; refine wpList_append_letter _ rfl _ _ rfl (w.heap.size + 1) u9 _ rfl ((hr.out.on K5.out).alloc _) _ (I k) (C k) rfl ?_ (by omega) (by simp; omega) ?_)
          · simp [go_sem]
          · intro v' w5 hr5 hg5 ho5
            have op : Only wr w5 (fun g => some g = u9.ownBlock) := ((Only.new K5.out).trans (Only.new (S := fun g => some g = u9.ownBlock) (below_alloc0 wb _)) (fun _ _ h => h)).trans (Only.of_grown hg5) (fun _ _ h => h)
            have lr := hr.out.lt
            have Q1 := Lib.hid (hm.out.only op (fun g hg e => hap.out g e.symm hg))
            have Q2 : Hid (∀ g, v'.ownBlock = some g → ¬ inM (.slice (some ⟨w.heap.size + 1, 0, none⟩) B B) B V g) := by
              intro g eg hg
              rcases ho5 with e | e
              · exact hap.out g (e ▸ eg) hg
              · rw [e] at eg
                have e2 := Option.some.inj eg
                try simp only [World.size_alloc] at e2
                have := (hm.out.lt hg).2
                omega
            have Q3 := Lib.hid (hl.out.only op (fun b' o' e h0 hbad => by have := (lr _ hbad.symm).1; have := ha2.out _ _ e h0; omega))
            have Q4 := Lib.hid (strsOnly hs.out op (fun b' o' e h0 hbad => by have := (lr _ hbad.symm).1; have := ha1.out _ _ e h0; omega))
            have Q5 := Lib.hid (triOnly ht.out op (fun hbad => by have := (lr _ hbad.symm).1; omega))
            have Q6 : Hid (Below w.heap.size w w5) := hbw.out.trans (op.below (B := w.heap.size) (fun g hg _ hbad => by have := (lr _ hbad.symm).1; omega) (by omega))
            have Q7 := op.size
            have R5 := Lib.hid hr5
            clear hr5 hg5 ho5 op lr
            go_wp2
            go_roundw
            case rel => exact ⟨k + 1, V, by omega, by go_num, by rw [HK.out]; exact Q1, by rw [HR.out]; exact R5, Q2, Q3, Q4, Q5, Q6, by omega⟩
            case measure => simp [intOf]; omega
      · have hrb := M.rankBin_bd (b := (B : Int)) (r := M.rankTo S (C k) n) (k := x) s1
        obtain ⟨d, hd'⟩ := Int.eq_ofNat_of_zero_le hrb.1
        have hv : Hid ((if M.rankTo S (C k) n < 0 then -1 else M.rankBin B (M.rankTo S (C k) n) x) = (d : Int)) := by unfold Hid; rw [if_neg h0, hd']
        have hdB : d < B := by omega
        have hkey : M.planKey B n S C x k = some d := by rw [M.planKey_some (by omega), hd', Int.toNat_natCast]
        have HK := Lib.hid (M.binTo_some hkey I C)
        have HR2r := Lib.hid (M.restTo_some hkey I C)
        have HLN := Lib.hid (M.binTo_len (M.planKey B n S C x) I C k d)
        clear h0 hrb hd' hkey
        go_wp2
        go_region_with (first
          | (go_at_call 33; refine (hRB.out _ (by first | exact hs.out | exact hs.out.on ⟨rfl, rfl, rfl, Nat.le_refl _, fun _ _ => rfl⟩)).mono ?_; rw [hv.out]; rintro e wb ⟨rfl, hbb⟩; have kk : Below wr.heap.size wr wb := (by first | exact hbb | exact Below.trans (⟨rfl, rfl, rfl, Nat.le_refl _, fun _ _ => rfl⟩ : Below wr.heap.size wr wr.drew) hbb); have K5 := Lib.hid kk; have hz5 := kk.size; clear hbb kk))
        all_goals
          clear c0 c1 t0 t1 t2 hRB
          obtain ⟨b2, o2, e2, c0, c1⟩ := hl.out.on K5.out k hlt
          cases e2
          have mb := Lib.hid (hm.out.on K5.out)
          obtain ⟨a2, cc, hv2, hlc, _⟩ := (mb.out.2.1 d hdB).form
          obtain ⟨G', c', e1, g0, g1⟩ := mb.out.cell hdB
          cases e1
          have HR := Lib.hid (mb.out.2.1 d hdB)
          have HVV := Lib.hid hv2
          rw [hv2] at g0 HR
          obtain ⟨l, hl0⟩ : ∃ l, (M.binTo (M.planKey B n S C x) I C k d).length = l := ⟨_, rfl⟩
          have hll : l ≤ 1048576 := by have := HLN.out; omega
          obtain ⟨LL, hLL⟩ : ∃ LL, M.binTo (M.planKey B n S C x) I C k d = LL := ⟨_, rfl⟩
          have HLL := Lib.hid hLL
          rw [hLL] at HR hl0
          rw [hLL, hl0] at g0
          have HV2 := HVV.out
          rw [hLL, hl0] at HV2
          replace HVV := Lib.hid HV2
          have hrow : ∀ q, (V d).ownBlock = some q → q ≠ w.heap.size + 1 ∧ w.heap.size + 1 ≤ q ∧ q < wb.heap.size := fun q hq => ⟨fun e => by subst e; exact mb.out.outer hdB rfl hq, (mb.out.lt (Or.inr ⟨d, hdB, hq⟩)).1, (mb.out.lt (Or.inr ⟨d, hdB, hq⟩)).2⟩
          rw [HV2] at hrow
          have HRow := Lib.hid hrow
          have HR2 : Hid (wb.ownsRow (w.heap.size + 1) 33 2 (.slice a2 l cc) l (lcells LL)) := by
            have := HR.out
            unfold Row at this
            rw [hl0] at this
            exact this
          have hL0 := Lib.hid hl0
          have hdi : (d : Int) < (B : Int) := by omega
          have hd0 : (0 : Int) ≤ (d : Int) := by omega
          have hab : b1 < w.heap.size := ha2.out _ _ rfl (by omega)
          have hgb : w.heap.size + 1 < wb.heap.size := by omega
          have hbr : b1 < wb.heap.size := by omega
          have hbne : b1 ≠ w.heap.size + 1 := by omega
          have hbne2 : w.heap.size + 1 ≠ b1 := by omega
          have hne3 : w.heap.size + 1 ≠ wb.heap.size := by omega
          have hne4 : b1 ≠ wb.heap.size := by omega
          clear hv2 hrow hl0 hLL HV2 HR
          go_wp2
          go_region_law (refine step_append_lies _ (by rfl) _ _ 26 (by rfl) (w.heap.size + 1) 33 i0 _ 2 24 Try.underlying26 hi hz0 hz1 hz4 rfl (by decide) _ l (lcells LL) (by rfl) (World.ownsRow.alloc (show _ from HR2.out) _) ⟨wb.heap.size, 0, none⟩ 1 1 [.int .i64 (I k), .string (C k)] (by rfl) rfl (by intro j u hu; match j, hu with | 0, hu => (simp at hu; subst hu; simp [Addr.add]) | 1, hu => (simp at hu; subst hu; simp [Addr.add])) (by intro u hu; simp at hu; rcases hu with rfl | rfl <;> rfl) (by decide) (by unfold maxLen; omega) (by omega) (by simp; omega) (wb.heap.size + 1) (by simp) ?_; intro g' cap w4 hown hgrow hat hlt3; have o3 : Only wb w4 (fun q => (Value.slice a2 l cc).ownBlock = some q) := Only.trans (Only.new (S := fun q => (Value.slice a2 l cc).ownBlock = some q) (by go_grown)) ((Only.of_grown hgrow).mono (T := fun q => (Value.slice a2 l cc).ownBlock = some q) (fun x _ e => e.symm)) (fun _ _ h => h); have hbG : w4.heap[w.heap.size + 1]? = wb.heap[w.heap.size + 1]? := o3.block (w.heap.size + 1) (by omega) (fun e => (HRow.out (w.heap.size + 1) e).1 rfl); have s0 : w4.cell? ⟨w.heap.size + 1, d, none⟩ = some (.slice a2 l cc) := (World.cell?_of_block (a := ⟨w.heap.size + 1, d, none⟩) hbG).trans g0; have s1 : w4.frozen? ⟨w.heap.size + 1, d, none⟩ = false := (World.frozen?_of_block (a := ⟨w.heap.size + 1, d, none⟩) hbG).trans g1; have HO := Lib.hid hown; have O3 := Lib.hid o3; have HA : Hid ((Value.slice a2 l cc).ownBlock = some g' ∨ g' = wb.heap.size + 1) := hat; clear hown hgrow o3 hat hbG)
          all_goals
            have HX : Hid (∀ q, (Value.slice (some ⟨g', 0, none⟩) (l + 1) cap).ownBlock = some q → (V d).ownBlock = some q ∨ wb.heap.size ≤ q) := fun q hq => by
              have e : g' = q := by simpa [Value.ownBlock] using hq
              subst e
              rcases HA.out with h | h
              · exact Or.inl (by rw [HVV.out]; exact h)
              · exact Or.inr (by omega)
            have HRW : Row w4 (w.heap.size + 1) (.slice (some ⟨g', 0, none⟩) (l + 1) cap) (LL ++ [(I k, C k)]) := by
              unfold Row
              rw [lcells_append, List.length_append, hL0.out]
              exact HO.out
            have HM := Lib.hid (mb.out.put hdB HRW (by rw [HVV.out]; exact O3.out) HX.out)
            have HOn : Hid (Only wr (w4.setCell ⟨w.heap.size + 1, d, none⟩ (.slice (some ⟨g', 0, none⟩) (l + 1) cap)) (inM (.slice (some ⟨w.heap.size + 1, 0, none⟩) B B) B V)) :=
              (Only.new K5.out).trans ((O3.out.mono (T := inM (.slice (some ⟨w.heap.size + 1, 0, none⟩) B B) B V) (fun x _ e => Or.inr ⟨d, hdB, by rw [HVV.out]; exact e⟩)).trans (Only.set w4 ⟨w.heap.size + 1, d, none⟩ _ (S := inM (.slice (some ⟨w.heap.size + 1, 0, none⟩) B B) B V) (Or.inl rfl)) (fun _ _ h => h)) (fun _ _ h => h)
            have N1 := Lib.hid (hr.out.only HOn.out (fun g e h => hap.out g e h))
            have N2 : Hid (∀ g, u9.ownBlock = some g → ¬ inM (.slice (some ⟨w.heap.size + 1, 0, none⟩) B B) B (upd V d (.slice (some ⟨g', 0, none⟩) (l + 1) cap)) g) := by
              intro g eg hg
              rcases inM_put hdB HX.out hg with h1 | h1
              · exact hap.out g eg h1
              · have := (hr.out.lt g eg).2
                omega
            have N3 := Lib.hid (hl.out.only HOn.out (fun b' o' e h0 hbad => by have := (hm.out.lt hbad).1; have := ha2.out _ _ e h0; omega))
            have N4 := Lib.hid (strsOnly hs.out HOn.out (fun b' o' e h0 hbad => by have := (hm.out.lt hbad).1; have := ha1.out _ _ e h0; omega))
            have N5 := Lib.hid (triOnly ht.out HOn.out (fun hbad => by have := (hm.out.lt hbad).1; omega))
            have N6 := Lib.hid (below_only hbw.out hm.out (by omega) HOn.out)
            have HZ2 := HOn.out.size
            have HME : Hid (Mat (w4.setCell ⟨w.heap.size + 1, d, none⟩ (.slice (some ⟨g', 0, none⟩) (l + 1) cap)) (w.heap.size + 1) (.slice (some ⟨w.heap.size + 1, 0, none⟩) B B) B (upd V d (.slice (some ⟨g', 0, none⟩) (l + 1) cap)) (M.binTo (M.planKey B n S C x) I C (k + 1))) := by
              unfold Hid
              rw [HK.out]
              show Mat _ _ _ _ _ (upd (M.binTo (M.planKey B n S C x) I C k) d (M.binTo (M.planKey B n S C x) I C k d ++ [(I k, C k)]))
              rw [HLL.out]
              exact HM.out
            go_wp2
            go_roundw
            case rel => exact ⟨k + 1, _, by omega, by go_num, HME, by rw [HR2r.out]; exact N1, N2, N3, N4, N5, N6, by omega⟩
            case measure => simp [intOf]; omega
    · obtain rfl : k = m := by omega
      clear t0 t1 t2
      go_wp2
      go_ret2
      exact ⟨_, V, _, rfl, hm.out.lower (by omega), hr.out.lower (by omega), hap.out, hbw.out⟩
end Go.Proofs.Ytekfjheaffkakaa
