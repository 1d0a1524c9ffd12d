/-
  What the model's pass of a plan leaves.
-/
import Derived.Test.YtbcoklognedffaaPPass
import Derived.Test.YtbcoklognedffaaBinsA
namespace Go.Proofs.Ytbcoklognedffaa
open Go.RowKit
open Go.PlainAid (bt get_bt bt_nonneg bt_le)

/-- Bins, and letters that have none. -/
def TwoOut (w : World) (N : Nat) (MM : Nat → List (Int × ByteArray)) (LL : List (Int × ByteArray)) (e : Ending) (w' : World) : Prop :=
  ∃ (G : Nat) (V : Nat → Value) (u : Value), e = .returned (.tuple #[.slice (some ⟨G, 0, none⟩) N N, u]) ∧ Mat w' w.heap.size (.slice (some ⟨G, 0, none⟩) N N) N V MM ∧ Row w' w.heap.size u LL ∧ (∀ k, u.ownBlock = some k → ¬ inM (.slice (some ⟨G, 0, none⟩) N N) N V k) ∧ Below w.heap.size w w'

set_option maxHeartbeats 4000000 in
set_option maxRecDepth 100000 in
theorem spec_l3Pass (w : World) (B : Nat) (p : Int) (a : Option Addr) (n c : Nat) (S : Nat → ByteArray) (h : Strs w a n S) (hn : n ≤ 1048576) (a2 : Option Addr) (m c2 : Nat) (I : Nat → Int) (C : Nat → ByteArray) (h2 : Lts w a2 m I C) (hm1 : m ≤ 1048576) (x : Nat) (s1 : 2 ≤ (B : Int)) (s2 : (B : Int) ≤ 16) (hx : x ≤ 3) :
    Calls Try.prog 65 #[.agg #[.int .i64 (B : Int), .int .i64 p, .slice a n c], .slice a2 m c2, .int .i64 x] w
      (TwoOut w B (M.binTo (M.planKey B n S C x) I C m) (M.restTo (M.planKey B n S C x) I C m)) := by
  have HL := Lib.hid (h.on (below_alloc0 w (.cells #[.int .i64 (B : Int), .int .i64 p, .slice a n c] 25)))
  have HL2 := Lib.hid (h2.on (below_alloc0 w (.cells #[.int .i64 (B : Int), .int .i64 p, .slice a n c] 25)))
  have bx := Lib.hid (tri_made w (.int .i64 (B : Int)) (.int .i64 p) (.slice a n c) 25)
  have b0 := below_alloc0 w (.cells #[.int .i64 (B : Int), .int .i64 p, .slice a n c] 25)
  have ha2 : Hid (∀ b' o', a2 = some ⟨b', o', none⟩ → 0 < m → b' < w.heap.size) := fun b' o' e h0 => h2.lt e h0
  have ha1 : Hid (∀ b' o', a = some ⟨b', o', none⟩ → 0 < n → b' < w.heap.size) := fun b' o' e h0 => h.lt e h0
  obtain ⟨CC, hCC⟩ : ∃ CC, madeCells #[Value.slice none 0 0] B = CC := ⟨_, rfl⟩
  have hmm := fun W => mat_made W B (by omega) 29 Try.underlying29 .i64 .i64
  rw [hCC] at hmm
  have hmk : ∀ W : World, (Instr.makeSlice 29 (.int .i64 (B : Int)) (.int .i64 (B : Int))).run Try.prog W = .ok (.slice (some ⟨W.heap.size, 0, none⟩) B B) (W.alloc (.cells CC 26)) := fun W => (hmm W).1
  have k1 := below_alloc0 (w.alloc (.cells #[.int .i64 (B : Int), .int .i64 p, .slice a n c] 25)) (.cells CC 26)
  have HM1 := (hmm (w.alloc (.cells #[.int .i64 (B : Int), .int .i64 p, .slice a n c] 25))).2
  have k2 := below_alloc0 ((w.alloc (.cells #[.int .i64 (B : Int), .int .i64 p, .slice a n c] 25)).alloc (.cells CC 26)) (.cells #[] 37)
  have HQ := one_row ((w.alloc (.cells #[.int .i64 (B : Int), .int .i64 p, .slice a n c] 25)).alloc (.cells CC 26))
  obtain ⟨W3, hW3⟩ : ∃ W3, ((w.alloc (.cells #[.int .i64 (B : Int), .int .i64 p, .slice a n c] 25)).alloc (.cells CC 26)).alloc (.cells #[] 37) = W3 := ⟨_, rfl⟩
  rw [hW3] at k2 HQ
  have hz3 : W3.heap.size = w.heap.size + 3 := by rw [← hW3]; simp
  simp only [World.size_alloc] at HM1 HQ k1 k2
  have M3 := Lib.hid (HM1.on (by simpa using k2))
  have Q3 := Lib.hid (HQ.lower (show w.heap.size + 1 ≤ w.heap.size + 1 + 1 by omega))
  have k12 := k1.trans (k2.mono (by omega))
  have L3 := Lib.hid (HL.out.on (by simpa using k12))
  have LL3 := Lib.hid (HL2.out.on (by simpa using k12))
  have X3 := Lib.hid (bx.out.on (by simpa using k12))
  have B3 : Hid (Below w.heap.size w W3) := b0.trans (k12.mono (by omega))
  have HW3 := Lib.hid hW3
  have HZ3 := Lib.hid hz3
  obtain ⟨i0, hi, hz0, hz1, hz4⟩ := info_parts info_letter
  obtain ⟨⟨t0, t1, t2⟩, _⟩ := bx.out
  clear h h2 hmm hCC k1 k2 k12 HM1 HQ hW3 hz3 HL HL2 bx b0
  go_enter Try.func65, Try.ntmps65
  go_wp2
  rw [HW3.out]
  go_loopw [9, 10] (fun q i wr => ∃ (k : Nat) (V : Nat → Value), k ≤ m ∧ i = .int .i64 k ∧ Hid (Mat wr (w.heap.size + 1) (.slice (some ⟨w.heap.size + 1, 0, none⟩) B B) B V (M.binTo (M.planKey B n S C x) I C k)) ∧ Hid (Row wr (w.heap.size + 1) q (M.restTo (M.planKey B n S C x) I C k)) ∧ Hid (∀ g, q.ownBlock = some g → ¬ inM (.slice (some ⟨w.heap.size + 1, 0, none⟩) B B) B V g) ∧ Hid (Lts wr a2 m I C) ∧ Hid (Strs wr a n S) ∧ Hid (Tri wr w.heap.size (.int .i64 (B : Int)) (.int .i64 p) (.slice a n c)) ∧ Hid (Below w.heap.size w wr) ∧ w.heap.size + 2 < wr.heap.size) (fun _ i _ => m - (intOf i).toNat)
  case atStart =>
    refine ⟨0, _, Nat.zero_le _, rfl, M3, Q3, fun g e hg => ?_, LL3, L3, X3, B3, by have := HZ3.out; omega⟩
    have e2 : w.heap.size + 1 + 1 = g := by simpa [Value.ownBlock] using e
    rcases hg with e3 | ⟨i, hi, e3⟩
    · have : w.heap.size + 1 = g := by simpa [Value.ownBlock] using e3
      omega
    · simp [Value.ownBlock] at e3
  case round =>
    obtain ⟨k, V, hk, rfl, hm, hr, hap, hl, hs, ht, hbw, hz⟩ := hrel
    by_cases hlt : k < m
    · obtain ⟨b1, o1, rfl, c0, c1⟩ := hl.out k hlt
      have hki : (k : Int) < (m : Int) := by omega
      have hk0 : (0 : Int) ≤ (k : Int) := by omega
      clear t0 t1 t2
      obtain ⟨⟨t0, t1, t2⟩, _⟩ := ht.out
      have hRB := Lib.hid (fun W hs => spec_l3Bin W (B : Int) p a n c S hs hn (C k) x s1 s2 hx)
      by_cases h0 : M.rankTo S (C k) n < 0
      · have hv : Hid ((if M.rankTo S (C k) n < 0 then -1 else M.rankBin B (M.rankTo S (C k) n) x) = -1) := if_pos h0
        have hkey := M.planKey_none (b := (B : Int)) (x := x) h0
        have HK := Lib.hid (M.binTo_none hkey I C)
        have HR := Lib.hid (M.restTo_none hkey I C)
        have HLN := M.restTo_len (M.planKey B n S C x) I C k
        clear h0 hkey
        go_wp2
        go_region_with (first
          | (go_at_call 89; refine (hRB.out _ (by first | exact hs.out | exact hs.out.on ⟨rfl, rfl, rfl, Nat.le_refl _, fun _ _ => rfl⟩)).mono ?_; rw [hv.out]; rintro e wb ⟨rfl, hbb⟩; have kk : Below wr.heap.size wr wb := (by first | exact hbb | exact Below.trans (⟨rfl, rfl, rfl, Nat.le_refl _, fun _ _ => rfl⟩ : Below wr.heap.size wr wr.drew) hbb); have K5 := Lib.hid kk; have hz5 := kk.size; clear hbb kk))
        all_goals
          clear c0 c1 t0 t1 t2
          obtain ⟨b2, o2, e2, c0, c1⟩ := hl.out.on K5.out k hlt
          cases e2
          go_wp2_with (at_builtin; refine wpList_append_letter _ rfl _ _ rfl (w.heap.size + 1) u9 _ rfl ((hr.out.on K5.out).alloc _) _ (I k) (C k) rfl ?_ (by omega) (by simp; omega) ?_)
          · simp [go_sem]
          · intro v' w5 hr5 hg5 ho5
            have op : Only wr w5 (fun g => some g = u9.ownBlock) := ((Only.new K5.out).trans (Only.new (S := fun g => some g = u9.ownBlock) (below_alloc0 wb _)) (fun _ _ h => h)).trans (Only.of_grown hg5) (fun _ _ h => h)
            have lr := hr.out.lt
            have Q1 := Lib.hid (hm.out.only op (fun g hg e => hap.out g e.symm hg))
            have Q2 : Hid (∀ g, v'.ownBlock = some g → ¬ inM (.slice (some ⟨w.heap.size + 1, 0, none⟩) B B) B V g) := by
              intro g eg hg
              rcases ho5 with e | e
              · exact hap.out g (e ▸ eg) hg
              · rw [e] at eg
                have e2 := Option.some.inj eg
                try simp only [World.size_alloc] at e2
                have := (hm.out.lt hg).2
                omega
            have Q3 := Lib.hid (hl.out.only op (fun b' o' e h0 hbad => by have := (lr _ hbad.symm).1; have := ha2.out _ _ e h0; omega))
            have Q4 := Lib.hid (strsOnly hs.out op (fun b' o' e h0 hbad => by have := (lr _ hbad.symm).1; have := ha1.out _ _ e h0; omega))
            have Q5 := Lib.hid (triOnly ht.out op (fun hbad => by have := (lr _ hbad.symm).1; omega))
            have Q6 : Hid (Below w.heap.size w w5) := hbw.out.trans (op.below (B := w.heap.size) (fun g hg _ hbad => by have := (lr _ hbad.symm).1; omega) (by omega))
            have Q7 := op.size
            have R5 := Lib.hid hr5
            clear hr5 hg5 ho5 op lr
            go_wp2
            go_roundw
            case rel => exact ⟨k + 1, V, by omega, by go_num, by rw [HK.out]; exact Q1, by rw [HR.out]; exact R5, Q2, Q3, Q4, Q5, Q6, by omega⟩
            case measure => simp [intOf]; omega
      · have hrb := M.rankBin_bd (b := (B : Int)) (r := M.rankTo S (C k) n) (k := x) s1
        obtain ⟨d, hd'⟩ := Int.eq_ofNat_of_zero_le hrb.1
        have hv : Hid ((if M.rankTo S (C k) n < 0 then -1 else M.rankBin B (M.rankTo S (C k) n) x) = (d : Int)) := by unfold Hid; rw [if_neg h0, hd']
        have hdB : d < B := by omega
        have hkey : M.planKey B n S C x k = some d := by rw [M.planKey_some (by omega), hd', Int.toNat_natCast]
        have HK := Lib.hid (M.binTo_some hkey I C)
        have HR2r := Lib.hid (M.restTo_some hkey I C)
        have HLN := Lib.hid (M.binTo_len (M.planKey B n S C x) I C k d)
        clear h0 hrb hd' hkey
        go_wp2
        go_region_with (first
          | (go_at_call 89; refine (hRB.out _ (by first | exact hs.out | exact hs.out.on ⟨rfl, rfl, rfl, Nat.le_refl _, fun _ _ => rfl⟩)).mono ?_; rw [hv.out]; rintro e wb ⟨rfl, hbb⟩; have kk : Below wr.heap.size wr wb := (by first | exact hbb | exact Below.trans (⟨rfl, rfl, rfl, Nat.le_refl _, fun _ _ => rfl⟩ : Below wr.heap.size wr wr.drew) hbb); have K5 := Lib.hid kk; have hz5 := kk.size; clear hbb kk))
        all_goals
          clear c0 c1 t0 t1 t2 hRB
          obtain ⟨b2, o2, e2, c0, c1⟩ := hl.out.on K5.out k hlt
          cases e2
          have mb := Lib.hid (hm.out.on K5.out)
          obtain ⟨a2, cc, hv2, hlc, _⟩ := (mb.out.2.1 d hdB).form
          obtain ⟨G', c', e1, g0, g1⟩ := mb.out.cell hdB
          cases e1
          have HR := Lib.hid (mb.out.2.1 d hdB)
          have HVV := Lib.hid hv2
          rw [hv2] at g0 HR
          obtain ⟨l, hl0⟩ : ∃ l, (M.binTo (M.planKey B n S C x) I C k d).length = l := ⟨_, rfl⟩
          have hll : l ≤ 1048576 := by have := HLN.out; omega
          obtain ⟨LL, hLL⟩ : ∃ LL, M.binTo (M.planKey B n S C x) I C k d = LL := ⟨_, rfl⟩
          have HLL := Lib.hid hLL
          rw [hLL] at HR hl0
          rw [hLL, hl0] at g0
          have HV2 := HVV.out
          rw [hLL, hl0] at HV2
          replace HVV := Lib.hid HV2
          have hrow : ∀ q, (V d).ownBlock = some q → q ≠ w.heap.size + 1 ∧ w.heap.size + 1 ≤ q ∧ q < wb.heap.size := fun q hq => ⟨fun e => by subst e; exact mb.out.outer hdB rfl hq, (mb.out.lt (Or.inr ⟨d, hdB, hq⟩)).1, (mb.out.lt (Or.inr ⟨d, hdB, hq⟩)).2⟩
          rw [HV2] at hrow
          have HRow := Lib.hid hrow
          have HR2 : Hid (wb.ownsRow (w.heap.size + 1) 37 2 (.slice a2 l cc) l (lcells LL)) := by
            have := HR.out
            unfold Row at this
            rw [hl0] at this
            exact this
          have hL0 := Lib.hid hl0
          have hdi : (d : Int) < (B : Int) := by omega
          have hd0 : (0 : Int) ≤ (d : Int) := by omega
          have hab : b1 < w.heap.size := ha2.out _ _ rfl (by omega)
          have hgb : w.heap.size + 1 < wb.heap.size := by omega
          have hbr : b1 < wb.heap.size := by omega
          have hbne : b1 ≠ w.heap.size + 1 := by omega
          have hbne2 : w.heap.size + 1 ≠ b1 := by omega
          have hne3 : w.heap.size + 1 ≠ wb.heap.size := by omega
          have hne4 : b1 ≠ wb.heap.size := by omega
          clear hv2 hrow hl0 hLL HV2 HR
          go_wp2
          go_region_law (refine step_append_lies _ (by rfl) _ _ 26 (by rfl) (w.heap.size + 1) 37 i0 _ 2 24 Try.underlying26 hi hz0 hz1 hz4 rfl (by decide) _ l (lcells LL) (by rfl) (World.ownsRow.alloc (show _ from HR2.out) _) ⟨wb.heap.size, 0, none⟩ 1 1 [.int .i64 (I k), .string (C k)] (by rfl) rfl (by intro j u hu; match j, hu with | 0, hu => (simp at hu; subst hu; simp [Addr.add]) | 1, hu => (simp at hu; subst hu; simp [Addr.add])) (by intro u hu; simp at hu; rcases hu with rfl | rfl <;> rfl) (by decide) (by unfold maxLen; omega) (by omega) (by simp; omega) (wb.heap.size + 1) (by simp) ?_; intro g' cap w4 hown hgrow hat hlt3; have o3 : Only wb w4 (fun q => (Value.slice a2 l cc).ownBlock = some q) := Only.trans (Only.new (S := fun q => (Value.slice a2 l cc).ownBlock = some q) (by go_grown)) ((Only.of_grown hgrow).mono (T := fun q => (Value.slice a2 l cc).ownBlock = some q) (fun x _ e => e.symm)) (fun _ _ h => h); have hbG : w4.heap[w.heap.size + 1]? = wb.heap[w.heap.size + 1]? := o3.block (w.heap.size + 1) (by omega) (fun e => (HRow.out (w.heap.size + 1) e).1 rfl); have s0 : w4.cell? ⟨w.heap.size + 1, d, none⟩ = some (.slice a2 l cc) := (World.cell?_of_block (a := ⟨w.heap.size + 1, d, none⟩) hbG).trans g0; have s1 : w4.frozen? ⟨w.heap.size + 1, d, none⟩ = false := (World.frozen?_of_block (a := ⟨w.heap.size + 1, d, none⟩) hbG).trans g1; have HO := Lib.hid hown; have O3 := Lib.hid o3; have HA : Hid ((Value.slice a2 l cc).ownBlock = some g' ∨ g' = wb.heap.size + 1) := hat; clear hown hgrow o3 hat hbG)
          all_goals
            have HX : Hid (∀ q, (Value.slice (some ⟨g', 0, none⟩) (l + 1) cap).ownBlock = some q → (V d).ownBlock = some q ∨ wb.heap.size ≤ q) := fun q hq => by
              have e : g' = q := by simpa [Value.ownBlock] using hq
              subst e
              rcases HA.out with h | h
              · exact Or.inl (by rw [HVV.out]; exact h)
              · exact Or.inr (by omega)
            have HRW : Row w4 (w.heap.size + 1) (.slice (some ⟨g', 0, none⟩) (l + 1) cap) (LL ++ [(I k, C k)]) := by
              unfold Row
              rw [lcells_append, List.length_append, hL0.out]
              exact HO.out
            have HM := Lib.hid (mb.out.put hdB HRW (by rw [HVV.out]; exact O3.out) HX.out)
            have HOn : Hid (Only wr (w4.setCell ⟨w.heap.size + 1, d, none⟩ (.slice (some ⟨g', 0, none⟩) (l + 1) cap)) (inM (.slice (some ⟨w.heap.size + 1, 0, none⟩) B B) B V)) :=
              (Only.new K5.out).trans ((O3.out.mono (T := inM (.slice (some ⟨w.heap.size + 1, 0, none⟩) B B) B V) (fun x _ e => Or.inr ⟨d, hdB, by rw [HVV.out]; exact e⟩)).trans (Only.set w4 ⟨w.heap.size + 1, d, none⟩ _ (S := inM (.slice (some ⟨w.heap.size + 1, 0, none⟩) B B) B V) (Or.inl rfl)) (fun _ _ h => h)) (fun _ _ h => h)
            have N1 := Lib.hid (hr.out.only HOn.out (fun g e h => hap.out g e h))
            have N2 : Hid (∀ g, u9.ownBlock = some g → ¬ inM (.slice (some ⟨w.heap.size + 1, 0, none⟩) B B) B (upd V d (.slice (some ⟨g', 0, none⟩) (l + 1) cap)) g) := by
              intro g eg hg
              rcases inM_put hdB HX.out hg with h1 | h1
              · exact hap.out g eg h1
              · have := (hr.out.lt g eg).2
                omega
            have N3 := Lib.hid (hl.out.only HOn.out (fun b' o' e h0 hbad => by have := (hm.out.lt hbad).1; have := ha2.out _ _ e h0; omega))
            have N4 := Lib.hid (strsOnly hs.out HOn.out (fun b' o' e h0 hbad => by have := (hm.out.lt hbad).1; have := ha1.out _ _ e h0; omega))
            have N5 := Lib.hid (triOnly ht.out HOn.out (fun hbad => by have := (hm.out.lt hbad).1; omega))
            have N6 := Lib.hid (below_only hbw.out hm.out (by omega) HOn.out)
            have HZ2 := HOn.out.size
            have HME : Hid (Mat (w4.setCell ⟨w.heap.size + 1, d, none⟩ (.slice (some ⟨g', 0, none⟩) (l + 1) cap)) (w.heap.size + 1) (.slice (some ⟨w.heap.size + 1, 0, none⟩) B B) B (upd V d (.slice (some ⟨g', 0, none⟩) (l + 1) cap)) (M.binTo (M.planKey B n S C x) I C (k + 1))) := by
              unfold Hid
              rw [HK.out]
              show Mat _ _ _ _ _ (upd (M.binTo (M.planKey B n S C x) I C k) d (M.binTo (M.planKey B n S C x) I C k d ++ [(I k, C k)]))
              rw [HLL.out]
              exact HM.out
            go_wp2
            go_roundw
            case rel => exact ⟨k + 1, _, by omega, by go_num, HME, by rw [HR2r.out]; exact N1, N2, N3, N4, N5, N6, by omega⟩
            case measure => simp [intOf]; omega
    · obtain rfl : k = m := by omega
      clear t0 t1 t2
      go_wp2
      go_ret2
      exact ⟨_, V, _, rfl, hm.out.lower (by omega), hr.out.lower (by omega), hap.out, hbw.out⟩
end Go.Proofs.Ytbcoklognedffaa

/-
  What PlanPass returns, in the program and in the model of the document.
-/
namespace Go.Proofs.Ytbcoklognedffaa
open Go.RowKit
open Go.PlainAid (bt get_bt bt_nonneg bt_le)

theorem M.passOk_yes {b p : Int} {n : Nat} {S : Nat → ByteArray} {m : Nat} {I : Nat → Int} {C : Nat → ByteArray} {x : Int} (h : M.passOk b p n S m I C x = true) : M.plan b p n S = true ∧ M.batch m I C = true ∧ 0 ≤ x ∧ x < p := by
  unfold M.passOk at h
  rw [Bool.and_eq_true, Bool.and_eq_true] at h
  exact ⟨h.1.1, h.1.2, of_decide_eq_true h.2⟩
/-- What a pass of a plan returns. -/
def PassRet (w : World) (b p : Int) (n : Nat) (S : Nat → ByteArray) (m : Nat) (I : Nat → Int) (C : Nat → ByteArray) (x : Int) : Ending → World → Prop :=
  PassRes w (M.passOk b p n S m I C x) (if M.passOk b p n S m I C x = true then b.toNat else 0) (M.binTo (M.planKey b n S C x.toNat) I C m) (if M.passOk b p n S m I C x = true then M.restTo (M.planKey b n S C x.toNat) I C m else [])

theorem nil_own : ∀ k, (Value.slice none 0 0).ownBlock = some k → False := fun k e => by simp [Value.ownBlock] at e

set_option maxHeartbeats 1000000 in
theorem impl_PlanPass_any (w : World) (b p : Int) (a : Option Addr) (n c : Nat) (S : Nat → ByteArray) (h : Strs w a n S) (hf : SFits n S) (hn : n ≤ 1048576) (a2 : Option Addr) (m c2 : Nat) (I : Nat → Int) (C : Nat → ByteArray) (h2 : Lts w a2 m I C) (hf2 : Fits m I C) (x : Int) :
    Calls Try.prog 12 #[.agg #[.int .i64 b, .int .i64 p, .slice a n c], .slice a2 m c2, .int .i64 x] w (PassRet w b p n S m I C x) := by
  unfold PassRet
  cases hk : M.passOk b p n S m I C x
  · have HL := Lib.hid (h.on (below_alloc0 w (.cells #[.int .i64 b, .int .i64 p, .slice a n c] 25)))
    have HL2 := Lib.hid (h2.on (below_alloc0 w (.cells #[.int .i64 b, .int .i64 p, .slice a n c] 25)))
    have bx := Lib.hid (tri_made w (.int .i64 b) (.int .i64 p) (.slice a n c) 25)
    have HF := Lib.hid hf
    have HF2 := Lib.hid hf2
    clear h hf h2 hf2
    cases hp : M.plan b p n S
    · clear hk
      go_enter Try.func12, Try.ntmps12
      go_wp2_with fail
      apply wp_scope_straight
      go_wp2_with fail
      refine (impl_PlanValid _ b p a n c S HL.out HF.out hn).mono ?_
      rw [hp]
      rintro e w1 ⟨rfl, hb1⟩
      go_wp2
      go_ret3
      exact ⟨_, fun _ => .slice none 0 0, _, rfl, Mat.nil _ _ _ _, Row.nil _ _, fun k e => (nil_own k e).elim, sstep (by go_grown) hb1⟩
    cases hb : M.batch m I C
    · clear hk
      go_enter Try.func12, Try.ntmps12
      go_wp2_with fail
      apply wp_scope_straight
      go_wp2_with fail
      refine (impl_PlanValid _ b p a n c S HL.out HF.out hn).mono ?_
      rw [hp]
      rintro e w1 ⟨rfl, hb1⟩
      obtain ⟨⟨t0, t1, t2⟩, _⟩ := bx.out.on hb1
      go_wp2_with fail
      refine (impl_BatchValid _ a2 m c2 I C (HL2.out.on hb1) HF2.out).mono ?_
      rw [hb]
      rintro e w2 ⟨rfl, hb2⟩
      go_wp2
      go_ret3
      exact ⟨_, fun _ => .slice none 0 0, _, rfl, Mat.nil _ _ _ _, Row.nil _ _, fun k e => (nil_own k e).elim, sstep (sstep (by go_grown) hb1) hb2⟩
    · obtain ⟨s1, s2, s3, s4⟩ := M.plan_shape hp
      have hq : Hid (decide (0 ≤ x ∧ x < p) = false) := by
        unfold M.passOk at hk
        rw [hp, hb] at hk
        exact hk
      clear hk
      go_enter Try.func12, Try.ntmps12
      go_wp2_with fail
      apply wp_scope_straight
      go_wp2_with fail
      refine (impl_PlanValid _ b p a n c S HL.out HF.out hn).mono ?_
      rw [hp]
      rintro e w1 ⟨rfl, hb1⟩
      have bx1 := Lib.hid (bx.out.on hb1)
      obtain ⟨⟨t0, t1, t2⟩, _⟩ := bx1.out
      go_wp2_with fail
      refine (impl_BatchValid _ a2 m c2 I C (HL2.out.on hb1) HF2.out).mono ?_
      rw [hb]
      rintro e w2 ⟨rfl, hb2⟩
      clear t0 t1 t2
      obtain ⟨⟨t0, t1, t2⟩, _⟩ := bx1.out.on hb2
      go_wp2_with fail
      refine (impl_hasPass _ b p _ x s3 s4).mono ?_
      rw [hq.out]
      rintro e w3 ⟨rfl, hb3⟩
      go_wp2
      go_ret3
      exact ⟨_, fun _ => .slice none 0 0, _, rfl, Mat.nil _ _ _ _, Row.nil _ _, fun k e => (nil_own k e).elim, sstep (sstep (sstep (by go_grown) hb1) hb2) hb3⟩
  · obtain ⟨hp, hb, x0, x1⟩ := M.passOk_yes hk
    obtain ⟨q, rfl⟩ := Int.eq_ofNat_of_zero_le x0
    have := impl_PlanPass_yes w b p a n c S h hf hn a2 m c2 I C h2 hf2 hp hb q x1
    rw [Int.toNat_natCast, if_pos rfl, if_pos rfl]
    exact this

set_option maxHeartbeats 1000000 in
theorem spec_PlanPass_raw (w : World) (b p : Int) (a : Option Addr) (n c : Nat) (S : Nat → ByteArray) (h : Strs w a n S) (hf : SFits n S) (hn : n ≤ 1048576) (a2 : Option Addr) (m c2 : Nat) (I : Nat → Int) (C : Nat → ByteArray) (h2 : Lts w a2 m I C) (hf2 : Fits m I C) (hm : m ≤ 1048576) (x : Int) :
    Calls Try.prog 58 #[.agg #[.int .i64 b, .int .i64 p, .slice a n c], .slice a2 m c2, .int .i64 x] w (PassRet w b p n S m I C x) := by
  have HL := Lib.hid (h.on (below_alloc0 w (.cells #[.int .i64 b, .int .i64 p, .slice a n c] 25)))
  have HL2 := Lib.hid (h2.on (below_alloc0 w (.cells #[.int .i64 b, .int .i64 p, .slice a n c] 25)))
  have bx := Lib.hid (tri_made w (.int .i64 b) (.int .i64 p) (.slice a n c) 25)
  have HF := Lib.hid hf
  have HF2 := Lib.hid hf2
  clear h hf h2 hf2
  unfold PassRet
  have fin : ∀ W : World, Below w.heap.size w W → ∀ (b p : Int) (MM : Nat → List (Int × ByteArray)), PassRes w false 0 MM [] (.returned (.tuple #[.slice (some ⟨W.heap.size, 0, none⟩) 0 0, .slice (some ⟨W.heap.size + 1, 0, none⟩) 0 0, .bool false])) ((W.alloc (.cells #[] 26)).alloc (.cells #[] 37)) := by
    intro W hW b p MM
    refine ⟨_, fun _ => .slice none 0 0, _, rfl, ⟨?_, fun i hi => absurd hi (by omega), fun i j hi => absurd hi (by omega)⟩, ?_, ?_, ?_⟩
    · exact World.ownsRow.alloc (World.ownsRow_lit (base := w.heap.size) (e := 26) (size := 1) W #[] 0 hW.size (by unfold maxLen; omega) rfl) _
    · have := one_row (W.alloc (.cells #[] 26))
      simp only [World.size_alloc] at this
      exact this.lower (by have := hW.size; omega)
    · intro k e hk
      have e1 : W.heap.size + 1 = k := by simpa [Value.ownBlock] using e
      rcases hk with e2 | ⟨i, hi, _⟩
      · have : W.heap.size = k := by simpa [Value.ownBlock] using e2
        omega
      · omega
    · exact (hW.alloc hW.size _).alloc (by have := hW.size; simp; omega) _
  have FIN := Lib.hid fin
  clear fin
  cases hr : (M.plan b p n S && M.batch m I C)
  · have hk : M.passOk b p n S m I C x = false := by unfold M.passOk; rw [hr]; rfl
    rw [hk]
    clear hk
    go_enter Try.func58, Try.ntmps58
    go_wp2_with fail
    refine (spec_l3Ready _ b p a n c S HL.out HF.out hn a2 m c2 I C HL2.out HF2.out hm).mono ?_
    rw [hr]
    rintro e w1 ⟨rfl, hb1⟩
    go_wp2
    go_ret3
    exact FIN.out w1 (sstep (by go_grown) hb1) b p _
  · obtain ⟨hp, hb⟩ := (Bool.and_eq_true _ _).mp hr
    obtain ⟨s1, s2, s3, s4⟩ := M.plan_shape hp
    have HR := Lib.hid hr
    clear hr hb
    by_cases hx : 0 ≤ x ∧ x ≤ p - 1
    · have hd := Lib.hid (decide_eq_true hx)
      have hk : M.passOk b p n S m I C x = true := by unfold M.passOk; rw [HR.out]; exact decide_eq_true (by omega)
      obtain ⟨q, rfl⟩ := Int.eq_ofNat_of_zero_le hx.1
      obtain ⟨B, rfl⟩ := Int.eq_ofNat_of_zero_le (show 0 ≤ b by omega)
      have hq3 : q ≤ 3 := by omega
      rw [hk, if_pos rfl, if_pos rfl, Int.toNat_natCast, Int.toNat_natCast]
      clear hk hx hp
      go_enter Try.func58, Try.ntmps58
      go_wp2_with fail
      refine (spec_l3Ready _ (B : Int) p a n c S HL.out HF.out hn a2 m c2 I C HL2.out HF2.out hm).mono ?_
      rw [HR.out]
      rintro e w1 ⟨rfl, hb1⟩
      have BL : Hid (Below w.heap.size w w1) := sstep (by go_grown) hb1
      have zz := BL.out.size
      obtain ⟨⟨t0, t1, t2⟩, _⟩ := bx.out.on hb1
      go_wp2_with fail
      refine (spec_l1In q 0 (p - 1) _).mono ?_
      rw [hd.out]
      rintro e w2 ⟨rfl, rfl⟩
      go_wp2_with fail
      refine (spec_l3Pass _ B p a n c S (HL.out.on hb1) hn a2 m c2 I C (HL2.out.on hb1) hm q s1 s2 hq3).mono ?_
      rintro e w3 ⟨G, V, u, rfl, m3, r3, h3, hb3⟩
      go_wp2
      go_ret3
      exact ⟨_, V, _, rfl, m3.lower zz, r3.lower zz, h3, sstep BL.out hb3⟩
    · have hd := Lib.hid (decide_eq_false hx)
      have hk : M.passOk b p n S m I C x = false := by unfold M.passOk; rw [HR.out]; exact decide_eq_false (by omega)
      rw [hk]
      clear hk hx hp
      go_enter Try.func58, Try.ntmps58
      go_wp2_with fail
      refine (spec_l3Ready _ b p a n c S HL.out HF.out hn a2 m c2 I C HL2.out HF2.out hm).mono ?_
      rw [HR.out]
      rintro e w1 ⟨rfl, hb1⟩
      obtain ⟨⟨t0, t1, t2⟩, _⟩ := bx.out.on hb1
      go_wp2_with fail
      refine (spec_l1In x 0 (p - 1) _).mono ?_
      rw [hd.out]
      rintro e w2 ⟨rfl, rfl⟩
      go_wp2
      go_ret3
      exact FIN.out w1 (sstep (by go_grown) hb1) b p _

theorem passRet_len {b p : Int} {n : Nat} {S : Nat → ByteArray} {m : Nat} {I : Nat → Int} {C : Nat → ByteArray} {x : Int} : (if M.passOk b p n S m I C x = true then b.toNat else 0) ≤ 16 ∧ (if M.passOk b p n S m I C x = true then M.restTo (M.planKey b n S C x.toNat) I C m else []).length ≤ m := by
  by_cases h : M.passOk b p n S m I C x = true
  · obtain ⟨hp, _⟩ := M.passOk_yes h
    obtain ⟨s1, s2, s3, s4⟩ := M.plan_shape hp
    rw [if_pos h, if_pos h]
    exact ⟨by omega, M.restTo_len _ _ _ _⟩
  · rw [if_neg h, if_neg h]
    exact ⟨by omega, Nat.zero_le _⟩

set_option maxHeartbeats 1000000 in
theorem spec_PlanPass_any (w : World) (b p : Int) (a : Option Addr) (n c : Nat) (S : Nat → ByteArray) (h : Strs w a n S) (hf : SFits n S) (hn : n ≤ 1048576) (a2 : Option Addr) (m c2 : Nat) (I : Nat → Int) (C : Nat → ByteArray) (h2 : Lts w a2 m I C) (hf2 : Fits m I C) (hm : m ≤ 1048576) (x : Int) :
    Calls Try.prog 13 #[.agg #[.int .i64 b, .int .i64 p, .slice a n c], .slice a2 m c2, .int .i64 x] w (PassRet w b p n S m I C x) := by
  have HL := Lib.hid (h.on (below_alloc0 w (.cells #[.int .i64 b, .int .i64 p, .slice a n c] 25)))
  have HL2 := Lib.hid (h2.on (below_alloc0 w (.cells #[.int .i64 b, .int .i64 p, .slice a n c] 25)))
  have HR := Lib.hid (fun W h h2 => spec_PlanPass_raw W b p a n c S h hf hn a2 m c2 I C h2 hf2 hm x)
  obtain ⟨l1, l2⟩ := passRet_len (b := b) (p := p) (n := n) (S := S) (m := m) (I := I) (C := C) (x := x)
  have hlen : Hid (∀ i, (M.binTo (M.planKey b n S C x.toNat) I C m i).length ≤ 1048576) := fun i => by have := M.binTo_len (M.planKey b n S C x.toNat) I C m i; omega
  unfold PassRet at HR ⊢
  obtain ⟨N, hN⟩ : ∃ N, (if M.passOk b p n S m I C x = true then b.toNat else 0) = N := ⟨_, rfl⟩
  obtain ⟨LL, hLL⟩ : ∃ LL, (if M.passOk b p n S m I C x = true then M.restTo (M.planKey b n S C x.toNat) I C m else []) = LL := ⟨_, rfl⟩
  rw [hN, hLL] at HR ⊢
  rw [hN] at l1
  rw [hLL] at l2
  obtain ⟨ok, hok⟩ : ∃ ok, M.passOk b p n S m I C x = ok := ⟨_, rfl⟩
  obtain ⟨MM, hMM⟩ : ∃ MM, M.binTo (M.planKey b n S C x.toNat) I C m = MM := ⟨_, rfl⟩
  rw [hok, hMM] at HR ⊢
  rw [hMM] at hlen
  clear h hf h2 hf2 hN hLL hok hMM
  go_enter Try.func13, Try.ntmps13
  go_wp2_with fail
  refine (HR.out _ HL.out HL2.out).mono ?_
  rintro e w1 ⟨v, V, u, rfl, hm1, hr1, hap, hb1⟩
  have BL : Hid (Below w.heap.size w w1) := sstep (by go_grown) hb1
  have zz := BL.out.size
  have HM := Lib.hid hm1
  obtain ⟨u1, c', hv⟩ : ∃ u c', v = .slice u N c' := by
    rcases hm1.form with ⟨rfl, e⟩ | ⟨g, c', rfl, _⟩
    · exact ⟨_, _, by rw [e]⟩
    · exact ⟨_, _, rfl⟩
  subst hv
  obtain ⟨a3, c3, hu, hlc, hlts⟩ := hr1.form
  subst hu
  have HLT := Lib.hid hlts
  clear hm1 hr1 hap hb1 hlts HL HL2
  go_wp2_with fail
  refine (l9Own_any _ _ _ N V _ HM.out (by omega) (fun i _ => hlen.out i)).mono ?_
  rintro e w2 ⟨G, d2, V2, rfl, hm2, hb2⟩
  have HM2 := Lib.hid hm2
  have HB2 := Lib.hid (sstep BL.out hb2)
  have z2 := hb2.size
  have HLT2 := Lib.hid (HLT.out.on hb2)
  clear hm2 hb2
  go_wp2_with (at_builtin; refine wpList_append_lts _ rfl _ _ rfl w2.heap.size (.slice (some ⟨w2.heap.size, 0, none⟩) 0 0) [] rfl (one_row w2) a3 _ c3 (nI LL) (nC LL) rfl (HLT2.out.on (by go_grown)) (by simp; omega) (by simp) ?_; intro v1 w3 r1 gr1 ho1; have r1' : Row w3 w2.heap.size v1 LL := (by rw [List.nil_append, lst_nI] at r1; exact r1); have o13 : Only w2 w3 (fun _ => False) := (Only.new (S := fun _ => False) (below_alloc0 w2 _)).trans (Only.of_grown gr1) (fun x hx e => by have e2 : x = w2.heap.size := (by simpa [Value.ownBlock] using e); omega); have R1 := Lib.hid r1'; have O13 := Lib.hid o13; clear r1 gr1 ho1 r1' o13)
  go_ret3
  refine ⟨_, V2, _, rfl, (HM2.out.only O13.out (fun _ _ h => h)).lower zz, R1.out.lower (by omega), fun k e hk => ?_, HB2.out.trans (O13.out.below (B := w.heap.size) (fun _ _ _ h => h) (by omega))⟩
  have := (R1.out.lt k e).1
  have := (HM2.out.lt hk).2
  omega
end Go.Proofs.Ytbcoklognedffaa
