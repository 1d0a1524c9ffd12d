/-
  What the model's BinPass leaves, and the program's where there are no bins.
-/
import Derived.Test.YtihbpalhbbingaaBins
import Derived.Deep.RegionLaw
import Derived.Maps.AppendAt
import Derived.Test.YtihbpalhbbingaaCat
namespace Go.Proofs.Ytihbpalhbbingaa
open Go.RowKit
open Go.PlainAid (bt get_bt bt_nonneg bt_le)

set_option maxHeartbeats 2000000 in
set_option maxRecDepth 100000 in
theorem spec_l2Bins (w : World) (a : Option Addr) (n c : Nat) (I : Nat → Int) (C : Nat → ByteArray) (h : Lts w a n I C) (hg : ∀ i, i < n → M.code (C i) = true) (hn : n ≤ 1048576) (x : Nat) (hx : x ≤ 6) :
    Calls Try.prog 63 #[.slice a n c, .int .i64 x] w (BinsOut w 10 (M.bins I C x n)) := by
  have HL := Lib.hid h
  have HG := Lib.hid hg
  obtain ⟨CC, hCC⟩ : ∃ CC, madeCells #[Value.slice none 0 0] 10 = CC := ⟨_, rfl⟩
  have hmm := fun W => mat_made W 10 (by omega) 23 Try.underlying23 .i64 .i64
  rw [hCC] at hmm
  have hmk : ∀ W : World, (Instr.makeSlice 23 (.int .i64 10) (.int .i64 10)).run Try.prog W = .ok (.slice (some ⟨W.heap.size, 0, none⟩) 10 10) (W.alloc (.cells CC 25)) := fun W => (hmm W).1
  have HM1 := Lib.hid (hmm w).2
  obtain ⟨W2, hW2⟩ : ∃ W2, w.alloc (.cells CC 25) = W2 := ⟨_, rfl⟩
  have B1 : Hid (Below w.heap.size w W2) := by rw [← hW2]; exact below_alloc0 w _
  have HL2 := Lib.hid (HL.out.on B1.out)
  have hz2 : w.heap.size ≤ W2.heap.size := B1.out.size
  rw [hW2] at HM1
  have HW2 := Lib.hid hW2
  obtain ⟨i0, hi, hz0, hz1, hz3⟩ := info_parts info_letter
  clear h hg hmm hCC hW2
  go_enter Try.func63, Try.ntmps63
  go_wp2
  rw [HW2.out]
  go_loopw [6] (fun i wr => ∃ (k : Nat) (V : Nat → Value), k ≤ n ∧ i = .int .i64 k ∧ Hid (Mat wr w.heap.size (.slice (some ⟨w.heap.size, 0, none⟩) 10 10) 10 V (M.bins I C x k)) ∧ Hid (Lts wr a n I C) ∧ Hid (Below w.heap.size w wr) ∧ w.heap.size < wr.heap.size) (fun i _ => n - (intOf i).toNat)
  case atStart => exact ⟨0, _, Nat.zero_le _, rfl, HM1, HL2, B1, by rw [← HW2.out]; simp⟩
  case round =>
    obtain ⟨k, V, hk, rfl, hm, hl, hb, hz⟩ := hrel
    by_cases hlt : k < n
    · obtain ⟨b, o, rfl, c0, c1⟩ := hl.out k hlt
      have hcode := M.code_yes (HG.out k hlt)
      have hsz := hcode.2
      have hbt := M.digs_bt hcode.1 x (by omega)
      have hgb := get_bt (C k)
      have hxi : (x : Int) < ((C k).size : Int) := by omega
      have hxn : x < (C k).size := by omega
      obtain ⟨d, hd⟩ := Int.eq_ofNat_of_zero_le (show 0 ≤ bt (C k) x - 48 by omega)
      have hd10 : d < 10 := by omega
      have hkey : M.dig1 C x k = some d := by unfold M.dig1; rw [hd, Int.toNat_natCast]
      have HK := Lib.hid (M.binTo_some hkey I C)
      have HLN := Lib.hid (M.binTo_len (M.dig1 C x) I C k d)
      have HD := Lib.hid hd
      have hab : Hid (b < w.heap.size) := HL.out.lt rfl (by omega)
      have hb48 := hbt.1
      have hb57 := hbt.2
      have hwr : IntKind.i64.wrap (bt (C k) x) = bt (C k) x := IntWalk.i64_in _ (by omega)
      obtain ⟨a2, cc, hv, hlc, _⟩ := (hm.out.2.1 d hd10).form
      obtain ⟨G', c', e1, g0, g1⟩ := hm.out.cell hd10
      cases e1
      have HR := Lib.hid (hm.out.2.1 d hd10)
      have HVV := Lib.hid hv
      rw [hv] at g0 HR
      obtain ⟨l, hl0⟩ : ∃ l, (M.bins I C x k d).length = l := ⟨_, rfl⟩
      have hll : l ≤ 1048576 := by have := HLN.out; rw [← hl0]; show (M.binTo (M.dig1 C x) I C k d).length ≤ _; omega
      obtain ⟨LL, hLL⟩ : ∃ LL, M.bins I C x k d = LL := ⟨_, rfl⟩
      have HLL := Lib.hid hLL
      rw [hLL] at HR hl0
      rw [hLL, hl0] at g0
      have HV2 := HVV.out
      rw [hLL, hl0] at HV2
      replace HVV := Lib.hid HV2
      have hrow : ∀ q, (V d).ownBlock = some q → q ≠ w.heap.size ∧ w.heap.size ≤ q ∧ q < wr.heap.size := fun q hq => ⟨fun e => by subst e; exact hm.out.outer hd10 rfl hq, (hm.out.lt (Or.inr ⟨d, hd10, hq⟩)).1, (hm.out.lt (Or.inr ⟨d, hd10, hq⟩)).2⟩
      rw [HV2] at hrow
      have HRow := Lib.hid hrow
      have HR2 : Hid (wr.ownsRow w.heap.size 50 2 (.slice a2 l cc) l (lcells LL)) := by
        have := HR.out
        unfold Row at this
        rw [hl0] at this
        exact this
      have hL0 := Lib.hid hl0
      have hdi : (d : Int) < 10 := by omega
      have hd0 : (0 : Int) ≤ (d : Int) := by omega
      have hbr : b < wr.heap.size := by have := hab.out; omega
      have hbne : b ≠ w.heap.size := by have := hab.out; omega
      have hbne2 : w.heap.size ≠ b := by have := hab.out; omega
      have hne3 : w.heap.size ≠ wr.heap.size := by omega
      have hne4 : b ≠ wr.heap.size := by omega
      clear hcode hsz hkey hbt hv hrow hl0 hLL HV2 HR hd
      go_wp2
      rw [HD.out]
      go_region_law (refine step_append_lies _ (by rfl) _ _ 25 (by rfl) w.heap.size 50 i0 _ 2 24 Try.underlying25 hi hz0 hz1 hz3 rfl (by decide) _ l (lcells LL) (by rfl) (World.ownsRow.alloc (show _ from HR2.out) _) ⟨wr.heap.size, 0, none⟩ 1 1 [.int .i64 (I k), .string (C k)] (by rfl) rfl (by intro j u hu; match j, hu with | 0, hu => (simp at hu; subst hu; simp [Addr.add]) | 1, hu => (simp at hu; subst hu; simp [Addr.add])) (by intro u hu; simp at hu; rcases hu with rfl | rfl <;> rfl) (by decide) (by unfold maxLen; omega) (by omega) (by simp; omega) (wr.heap.size + 1) (by simp) ?_; intro g' cap w3 hown hgrow hat hlt3; have o3 : Only wr w3 (fun q => (Value.slice a2 l cc).ownBlock = some q) := Only.trans (Only.new (S := fun q => (Value.slice a2 l cc).ownBlock = some q) (by go_grown)) ((Only.of_grown hgrow).mono (T := fun q => (Value.slice a2 l cc).ownBlock = some q) (fun x _ e => e.symm)) (fun _ _ h => h); have hbG : w3.heap[w.heap.size]? = wr.heap[w.heap.size]? := o3.block w.heap.size (by omega) (fun e => (HRow.out w.heap.size e).1 rfl); have s0 : w3.cell? ⟨w.heap.size, d, none⟩ = some (.slice a2 l cc) := (World.cell?_of_block (a := ⟨w.heap.size, d, none⟩) hbG).trans g0; have s1 : w3.frozen? ⟨w.heap.size, d, none⟩ = false := (World.frozen?_of_block (a := ⟨w.heap.size, d, none⟩) hbG).trans g1; have HO := Lib.hid hown; have O3 := Lib.hid o3; have HA : Hid ((Value.slice a2 l cc).ownBlock = some g' ∨ g' = wr.heap.size + 1) := hat; clear hown hgrow o3 hat hbG)
      all_goals
        have HX : Hid (∀ q, (Value.slice (some ⟨g', 0, none⟩) (l + 1) cap).ownBlock = some q → (V d).ownBlock = some q ∨ wr.heap.size ≤ q) := fun q hq => by
          have e : g' = q := by simpa [Value.ownBlock] using hq
          subst e
          rcases HA.out with h | h
          · exact Or.inl (by rw [HVV.out]; exact h)
          · exact Or.inr (by omega)
        have HRW : Row w3 w.heap.size (.slice (some ⟨g', 0, none⟩) (l + 1) cap) (LL ++ [(I k, C k)]) := by
          unfold Row
          rw [lcells_append, List.length_append, hL0.out]
          exact HO.out
        have HM := Lib.hid (hm.out.put hd10 HRW (by rw [HVV.out]; exact O3.out) HX.out)
        have HOn : Hid (Only wr (w3.setCell ⟨w.heap.size, d, none⟩ (.slice (some ⟨g', 0, none⟩) (l + 1) cap)) (inM (.slice (some ⟨w.heap.size, 0, none⟩) 10 10) 10 V)) :=
          (O3.out.mono (T := inM (.slice (some ⟨w.heap.size, 0, none⟩) 10 10) 10 V) (fun x _ e => Or.inr ⟨d, hd10, by rw [HVV.out]; exact e⟩)).trans (Only.set w3 ⟨w.heap.size, d, none⟩ _ (S := inM (.slice (some ⟨w.heap.size, 0, none⟩) 10 10) 10 V) (Or.inl rfl)) (fun _ _ h => h)
        have HL2' := Lib.hid (hl.out.only HOn.out (fun b' o' e h0 hbad => by cases e; have := (hm.out.lt hbad).1; have := hab.out; omega))
        have HB2 := Lib.hid (below_only hb.out hm.out (Nat.le_refl _) HOn.out)
        have HZ2 := HOn.out.size
        have HME : Hid (Mat (w3.setCell ⟨w.heap.size, d, none⟩ (.slice (some ⟨g', 0, none⟩) (l + 1) cap)) w.heap.size (.slice (some ⟨w.heap.size, 0, none⟩) 10 10) 10 (upd V d (.slice (some ⟨g', 0, none⟩) (l + 1) cap)) (M.bins I C x (k + 1))) := by
          unfold Hid M.bins
          rw [HK.out]
          show Mat _ _ _ _ _ (upd (M.bins I C x k) d (M.bins I C x k d ++ [(I k, C k)]))
          rw [HLL.out]
          exact HM.out
        go_wp2
        go_roundw
        case rel => exact ⟨k + 1, _, by omega, by go_num, HME, HL2', HB2, by omega⟩
        case measure => simp [intOf]; omega
    · obtain rfl : k = n := by omega
      go_wp2
      go_ret
      exact ⟨_, _, V, rfl, hm.out, hb.out⟩
end Go.Proofs.Ytihbpalhbbingaa

/-
  What the model's BinPass leaves.
-/
namespace Go.Proofs.Ytihbpalhbbingaa
open Go.RowKit
open Go.PlainAid (bt get_bt bt_nonneg bt_le)

set_option maxHeartbeats 2000000 in
set_option maxRecDepth 100000 in
theorem l9Own_any (w : World) (base : Nat) (v : Value) (n : Nat) (V : Nat → Value) (M : Nat → List (Int × ByteArray)) (h : Mat w base v n V M) (hn : n ≤ 1000) (hl : ∀ i, i < n → (M i).length ≤ 1048576) :
    Calls Try.prog 45 #[v] w (BinsOut w n M) := by
  obtain ⟨u, c, hv⟩ : ∃ u c, v = .slice u n c := by
    rcases h.form with ⟨rfl, rfl⟩ | ⟨g, c, rfl, _⟩
    · exact ⟨_, _, rfl⟩
    · exact ⟨_, _, rfl⟩
  subst hv
  have HM := Lib.hid h
  have HLn := Lib.hid hl
  obtain ⟨W1, hW1⟩ : ∃ W1, w.alloc (.cells #[] 25) = W1 := ⟨_, rfl⟩
  have k1 : Below w.heap.size w W1 := by rw [← hW1]; exact below_alloc0 w _
  have E0 : Hid (Mat W1 w.heap.size (.slice (some ⟨w.heap.size, 0, none⟩) 0 0) 0 (fun _ => .slice none 0 0) (fun _ => [])) := by
    refine ⟨?_, fun i hi => absurd hi (by omega), fun i j hi => absurd hi (by omega)⟩
    rw [← hW1]
    exact World.ownsRow_lit (base := w.heap.size) (e := 25) (size := 1) w #[] 0 (Nat.le_refl _) (by unfold maxLen; omega) rfl
  have K1 := Lib.hid k1
  have HM1 := Lib.hid (h.on k1)
  have HW1 := Lib.hid hW1
  clear h hl hW1 k1
  go_enter Try.func45, Try.ntmps45
  go_wp2
  rw [HW1.out]
  go_loopw [3, 9] (fun q i wr => ∃ (k : Nat) (V' : Nat → Value), k ≤ n ∧ i = .int .i64 k ∧ Hid (Mat wr w.heap.size q k V' M) ∧ Hid (Mat wr base (.slice u n c) n V M) ∧ Hid (Below w.heap.size w wr) ∧ Hid (q ≠ .slice none 0 0)) (fun _ i _ => n - (intOf i).toNat)
  case atStart => exact ⟨0, _, Nat.zero_le _, rfl, E0.out.congr (fun i hi => absurd hi (by omega)), HM1, K1, (fun e => by cases e)⟩
  case round =>
    obtain ⟨k, V', hk, rfl, hq, hm, hb, hnil⟩ := hrel
    by_cases hlt : k < n
    · obtain ⟨G, c', e1, g0, g1⟩ := hm.out.cell hlt
      cases e1
      obtain ⟨a2, cc, hv, hlc, hlts⟩ := (hm.out.2.1 k hlt).form
      rw [hv] at g0
      have HLT := Lib.hid hlts
      have hll := HLn.out k hlt
      have hz := hb.out.size
      clear hlts
      obtain ⟨i0, hi, hz0, hz1, hz3⟩ := info_parts info_row
      have hkm : k + 1 ≤ 1000 := by omega
      go_wp2_with (first
        | (at_builtin; (refine wpList_append_lts _ rfl _ _ rfl wr.heap.size (.slice (some ⟨wr.heap.size, 0, none⟩) 0 0) [] rfl (one_row wr) a2 _ cc (nI (M k)) (nC (M k)) rfl (HLT.out.on (by go_grown)) (by simp; omega) (by simp) ?_); intro v1 w3 r1 gr1 ho1; have r1' : Row w3 wr.heap.size v1 (M k) := (by rw [List.nil_append, lst_nI] at r1; exact r1); have o13 : Only wr w3 (fun _ => False) := (Only.new (S := fun _ => False) (below_alloc0 wr _)).trans (Only.of_grown gr1) (fun x hx e => by have e2 : x = wr.heap.size := (by simpa [Value.ownBlock] using e); omega); obtain ⟨a1, c1, hv1, _, _⟩ := r1'.form; subst hv1; have R1 := Lib.hid r1'; have O13 := Lib.hid o13; have Q3 := Lib.hid (hq.out.only o13 (fun _ _ h => h)); have z3 := o13.size; clear r1 gr1 ho1 r1' o13)
        | (at_builtin; refine wpList_append_own_at _ rfl _ _ 23 rfl w.heap.size 25 i0 _ 1 24 Try.underlying23 hi hz0 hz1 hz3 rfl (by decide) u3 k (vcells V' k) rfl (World.ownsRow.alloc Q3.out.1 _) ⟨w3.heap.size, 0, none⟩ 1 1 [.slice a1 (M k).length c1] rfl rfl (by intro j u hu; match j, hu with | 0, hu => (simp at hu; subst hu; simp [Addr.add])) (by intro u hu; simp at hu; subst hu; rfl) (by unfold maxLen; omega) (by omega) (by simp; omega) ?_; intro v2 w4 r2 gr2 hnn ho2; have hnil2 : Hid (v2 ≠ .slice none 0 0) := (fun e => by have := (hnn.1 e).2; omega); have o34 : Only w3 w4 (fun q => u3.ownBlock = some q) := (Only.new (S := fun q => u3.ownBlock = some q) (below_alloc0 w3 _)).trans ((Only.of_grown gr2).mono (T := fun q => u3.ownBlock = some q) (fun x _ e => e.symm)) (fun _ _ h => h); have P4 := Lib.hid (hq.out.push (R1.out.lower hz) O13.out (fun q hq' => (R1.out.lt q hq').1) r2 o34); have O14 : Hid (Only wr w4 (fun q => u3.ownBlock = some q)) := (O13.out.mono (T := fun q => u3.ownBlock = some q) (fun _ _ h => h.elim)).trans o34 (fun _ _ h => h); clear r2 gr2 ho2 o34 hnn))
      have hq3 : ∀ q, u3.ownBlock = some q → w.heap.size ≤ q := fun q e => (World.ownsRow.lt hq.out.1 q e).1
      have hm4 := Lib.hid (hm.out.only O14.out (fun q hq' e => by have := (HM.out.lt hq').2; have := hq3 q e; omega))
      have hb4 := Lib.hid (hb.out.trans (O14.out.below (B := w.heap.size) (fun q hq' _ e => by have := hq3 q e; omega) hz))
      go_roundw
      case rel => exact ⟨k + 1, _, by omega, by go_num, P4.out.congr (fun i _ => by unfold upd; split; (rename_i e; rw [e]); rfl), hm4, hb4, hnil2⟩
      case measure => simp [intOf]; omega
    · obtain rfl : k = n := by omega
      rcases hq.out.form with ⟨e, _⟩ | ⟨g, c', e, _⟩
      · exact absurd e hnil.out
      · subst e
        go_wp2
        go_ret
        exact ⟨g, c', V', rfl, hq.out, hb.out⟩

/-- Bins, and whether there are any. -/
def BinsRes (w : World) (ok : Bool) (n : Nat) (M : Nat → List (Int × ByteArray)) (e : Ending) (w' : World) : Prop :=
  ∃ (v : Value) (V : Nat → Value), e = .returned (.tuple #[v, .bool ok]) ∧ Mat w' w.heap.size v n V M ∧ Below w.heap.size w w'
def M.binOk (n : Nat) (I : Nat → Int) (C : Nat → ByteArray) (x : Int) : Bool := M.batch n I C && decide (0 ≤ x ∧ x ≤ 6)
theorem M.binOk_yes {n : Nat} {I : Nat → Int} {C : Nat → ByteArray} {x : Int} (h : M.binOk n I C x = true) : M.batch n I C = true ∧ 0 ≤ x ∧ x ≤ 6 := by
  unfold M.binOk at h
  rw [Bool.and_eq_true] at h
  exact ⟨h.1, of_decide_eq_true h.2⟩

set_option maxHeartbeats 400000 in
theorem spec_l2Digit (w : World) (a : Option Addr) (n c : Nat) (I : Nat → Int) (C : Nat → ByteArray) (h : Lts w a n I C) (hf : Fits n I C) (hn : n ≤ 1048576) (x : Int) :
    Calls Try.prog 62 #[.slice a n c, .int .i64 x] w fun e w' => e = .returned (.bool (M.binOk n I C x)) ∧ Below w.heap.size w w' := by
  have HL := Lib.hid h
  have HF := Lib.hid hf
  clear h hf
  cases hb : M.batch n I C
  · have hv : Hid (M.binOk n I C x = false) := by unfold Hid M.binOk; rw [hb]; rfl
    go_enter Try.func62, Try.ntmps62
    go_wp2_with fail
    refine (spec_BatchValid _ a n c I C HL.out HF.out hn).mono ?_
    rw [hb]
    rintro e w1 ⟨rfl, hb1⟩
    go_wp2
    go_ret
    exact ⟨ret_bool hv.out.symm, hb1⟩
  · have hv : Hid (M.binOk n I C x = decide (0 ≤ x ∧ x ≤ 6)) := by unfold Hid M.binOk; rw [hb]; rfl
    obtain ⟨q, hq⟩ : ∃ q, decide (0 ≤ x ∧ x ≤ 6) = q := ⟨_, rfl⟩
    rw [hq] at hv
    have HQ := Lib.hid hq
    clear hq
    go_enter Try.func62, Try.ntmps62
    go_wp2_with fail
    refine (spec_BatchValid _ a n c I C HL.out HF.out hn).mono ?_
    rw [hb]
    rintro e w1 ⟨rfl, hb1⟩
    go_wp2_with fail
    refine (spec_l1In x 0 6 _).mono ?_
    rw [HQ.out]
    rintro e w2 ⟨rfl, rfl⟩
    go_wp2
    go_ret
    exact ⟨ret_bool hv.out.symm, hb1⟩

set_option maxHeartbeats 1000000 in
theorem spec_BinPass_any (w : World) (a : Option Addr) (n c : Nat) (I : Nat → Int) (C : Nat → ByteArray) (h : Lts w a n I C) (hf : Fits n I C) (hn : n ≤ 1048576) (x : Int) :
    Calls Try.prog 28 #[.slice a n c, .int .i64 x] w (BinsRes w (M.binOk n I C x) (if M.binOk n I C x = true then 10 else 0) (M.bins I C x.toNat n)) := by
  have HL := Lib.hid h
  have HF := Lib.hid hf
  have HD := Lib.hid (fun W hl => spec_l2Digit W a n c I C hl hf hn x)
  clear h hf
  have raw : Calls Try.prog 48 #[.slice a n c, .int .i64 x] w (BinsRes w (M.binOk n I C x) (if M.binOk n I C x = true then 10 else 0) (M.bins I C x.toNat n)) := by
    cases hk : M.binOk n I C x
    · rw [hk] at HD
      go_enter Try.func48, Try.ntmps48
      go_wp2_with fail
      refine (HD.out _ HL.out).mono ?_
      rintro e w1 ⟨rfl, hb1⟩
      go_wp2
      go_ret2
      have hz1 := hb1.size
      refine ⟨_, fun _ => .slice none 0 0, rfl, ⟨?_, fun i hi => absurd hi (by simp), fun i j hi => absurd hi (by simp)⟩, by go_grown⟩
      exact World.ownsRow_lit (base := w.heap.size) (e := 25) (size := 1) w1 #[] 0 hb1.size (by unfold maxLen; omega) rfl
    · rw [hk] at HD
      obtain ⟨hbat, x0, x1⟩ := M.binOk_yes hk
      obtain ⟨q, rfl⟩ := Int.eq_ofNat_of_zero_le x0
      have hg := Lib.hid (fun i hi => ((M.batch_yes hbat).2 i hi).1)
      clear hk hbat
      go_enter Try.func48, Try.ntmps48
      go_wp2_with fail
      refine (HD.out _ HL.out).mono ?_
      rintro e w1 ⟨rfl, hb1⟩
      go_wp2_with fail
      refine (spec_l2Bins _ a n c I C (HL.out.on hb1) hg.out hn q (by omega)).mono ?_
      rintro e w2 ⟨G, c2, V, rfl, hm, hb2⟩
      go_wp2
      go_ret2
      exact ⟨_, V, rfl, (by simpa using hm.lower hb1.size), sstep hb1 hb2⟩
  have HR := Lib.hid raw
  have hlen : Hid (∀ i, (M.bins I C x.toNat n i).length ≤ 1048576) := fun i => by have := M.binTo_len (M.dig1 C x.toNat) I C n i; show (M.binTo (M.dig1 C x.toNat) I C n i).length ≤ _; omega
  have h10 : Hid ((if M.binOk n I C x = true then 10 else 0) ≤ 1000) := by unfold Hid; split <;> omega
  obtain ⟨N, hN⟩ : ∃ N, (if M.binOk n I C x = true then 10 else 0) = N := ⟨_, rfl⟩
  rw [hN] at HR h10 ⊢
  obtain ⟨ok, hok⟩ : ∃ ok, M.binOk n I C x = ok := ⟨_, rfl⟩
  rw [hok] at HR ⊢
  clear raw hN hok
  go_enter Try.func28, Try.ntmps28
  go_wp2_with fail
  refine (HR.out).mono ?_
  rintro e w1 ⟨v, V, rfl, hm, hb1⟩
  have HM := Lib.hid hm
  obtain ⟨u, c', hv⟩ : ∃ u c', v = .slice u N c' := by
    rcases hm.form with ⟨rfl, e⟩ | ⟨g, c', rfl, _⟩
    · exact ⟨_, _, by rw [e]⟩
    · exact ⟨_, _, rfl⟩
  subst hv
  clear hm
  go_wp2_with fail
  refine (l9Own_any _ _ _ N V _ HM.out h10.out (fun i _ => hlen.out i)).mono ?_
  rintro e w2 ⟨G, c2, V2, rfl, hm2, hb2⟩
  go_wp2
  go_ret2
  exact ⟨_, V2, rfl, hm2.lower hb1.size, sstep hb1 hb2⟩

end Go.Proofs.Ytihbpalhbbingaa
