/-
  What the model's BinPass leaves, and the program's where there are no bins.
-/
import Derived.Test.YtobmenbhbeflhaaBins
import Derived.Deep.RegionLaw
import Derived.Maps.AppendAt
namespace Go.Proofs.Ytobmenbhbeflhaa
open Go.RowKit
open Go.PlainAid (bt get_bt bt_nonneg bt_le)

set_option maxHeartbeats 2000000 in
set_option maxRecDepth 100000 in
theorem spec_l2Bins (w : World) (a : Option Addr) (n c : Nat) (I : Nat → Int) (C : Nat → ByteArray) (h : Lts w a n I C) (hg : ∀ i, i < n → M.code (C i) = true) (hn : n ≤ 1048576) (x : Nat) (hx : x ≤ 6) :
    Calls Try.prog 50 #[.slice a n c, .int .i64 x] w (BinsOut w 10 (M.bins I C x n)) := by
  have HL := Lib.hid h
  have HG := Lib.hid hg
  obtain ⟨CC, hCC⟩ : ∃ CC, madeCells #[Value.slice none 0 0] 10 = CC := ⟨_, rfl⟩
  have hmm := fun W => mat_made W 10 (by omega) 26 Try.underlying26 .i64 .i64
  rw [hCC] at hmm
  have hmk : ∀ W : World, (Instr.makeSlice 26 (.int .i64 10) (.int .i64 10)).run Try.prog W = .ok (.slice (some ⟨W.heap.size, 0, none⟩) 10 10) (W.alloc (.cells CC 23)) := fun W => (hmm W).1
  have HM1 := Lib.hid (hmm w).2
  obtain ⟨W2, hW2⟩ : ∃ W2, w.alloc (.cells CC 23) = W2 := ⟨_, rfl⟩
  have B1 : Hid (Below w.heap.size w W2) := by rw [← hW2]; exact below_alloc0 w _
  have HL2 := Lib.hid (HL.out.on B1.out)
  have hz2 : w.heap.size ≤ W2.heap.size := B1.out.size
  rw [hW2] at HM1
  have HW2 := Lib.hid hW2
  obtain ⟨i0, hi, hz0, hz1, hz3⟩ := info_parts info_letter
  clear h hg hmm hCC hW2
  go_enter Try.func50, Try.ntmps50
  go_wp2
  rw [HW2.out]
  go_loopw [6] (fun i wr => ∃ (k : Nat) (V : Nat → Value), k ≤ n ∧ i = .int .i64 k ∧ Hid (Mat wr w.heap.size (.slice (some ⟨w.heap.size, 0, none⟩) 10 10) 10 V (M.bins I C x k)) ∧ Hid (Lts wr a n I C) ∧ Hid (Below w.heap.size w wr) ∧ w.heap.size < wr.heap.size) (fun i _ => n - (intOf i).toNat)
  case atStart => exact ⟨0, _, Nat.zero_le _, rfl, HM1, HL2, B1, by rw [← HW2.out]; simp⟩
  case round =>
    obtain ⟨k, V, hk, rfl, hm, hl, hb, hz⟩ := hrel
    by_cases hlt : k < n
    · obtain ⟨b, o, rfl, c0, c1⟩ := hl.out k hlt
      have hcode := M.code_yes (HG.out k hlt)
      have hsz := hcode.2
      have hbt := M.digs_bt hcode.1 x (by omega)
      have hgb := get_bt (C k)
      have hxi : (x : Int) < ((C k).size : Int) := by omega
      have hxn : x < (C k).size := by omega
      obtain ⟨d, hd⟩ := Int.eq_ofNat_of_zero_le (show 0 ≤ bt (C k) x - 48 by omega)
      have hd10 : d < 10 := by omega
      have hkey : M.dig1 C x k = some d := by unfold M.dig1; rw [hd, Int.toNat_natCast]
      have HK := Lib.hid (M.binTo_some hkey I C)
      have HLN := Lib.hid (M.binTo_len (M.dig1 C x) I C k d)
      have HD := Lib.hid hd
      have hab : Hid (b < w.heap.size) := HL.out.lt rfl (by omega)
      have hb48 := hbt.1
      have hb57 := hbt.2
      have hwr : IntKind.i64.wrap (bt (C k) x) = bt (C k) x := IntWalk.i64_in _ (by omega)
      obtain ⟨a2, cc, hv, hlc, _⟩ := (hm.out.2.1 d hd10).form
      obtain ⟨G', c', e1, g0, g1⟩ := hm.out.cell hd10
      cases e1
      have HR := Lib.hid (hm.out.2.1 d hd10)
      have HVV := Lib.hid hv
      rw [hv] at g0 HR
      obtain ⟨l, hl0⟩ : ∃ l, (M.bins I C x k d).length = l := ⟨_, rfl⟩
      have hll : l ≤ 1048576 := by have := HLN.out; rw [← hl0]; show (M.binTo (M.dig1 C x) I C k d).length ≤ _; omega
      obtain ⟨LL, hLL⟩ : ∃ LL, M.bins I C x k d = LL := ⟨_, rfl⟩
      have HLL := Lib.hid hLL
      rw [hLL] at HR hl0
      rw [hLL, hl0] at g0
      have HV2 := HVV.out
      rw [hLL, hl0] at HV2
      replace HVV := Lib.hid HV2
      have hrow : ∀ q, (V d).ownBlock = some q → q ≠ w.heap.size ∧ w.heap.size ≤ q ∧ q < wr.heap.size := fun q hq => ⟨fun e => by subst e; exact hm.out.outer hd10 rfl hq, (hm.out.lt (Or.inr ⟨d, hd10, hq⟩)).1, (hm.out.lt (Or.inr ⟨d, hd10, hq⟩)).2⟩
      rw [HV2] at hrow
      have HRow := Lib.hid hrow
      have HR2 : Hid (wr.ownsRow w.heap.size 31 2 (.slice a2 l cc) l (lcells LL)) := by
        have := HR.out
        unfold Row at this
        rw [hl0] at this
        exact this
      have hL0 := Lib.hid hl0
      have hdi : (d : Int) < 10 := by omega
      have hd0 : (0 : Int) ≤ (d : Int) := by omega
      have hbr : b < wr.heap.size := by have := hab.out; omega
      have hbne : b ≠ w.heap.size := by have := hab.out; omega
      have hbne2 : w.heap.size ≠ b := by have := hab.out; omega
      have hne3 : w.heap.size ≠ wr.heap.size := by omega
      have hne4 : b ≠ wr.heap.size := by omega
      clear hcode hsz hkey hbt hv hrow hl0 hLL HV2 HR hd
      go_wp2
      rw [HD.out]
      go_region_law (refine step_append_lies _ (by rfl) _ _ 23 (by rfl) w.heap.size 31 i0 _ 2 24 Try.underlying23 hi hz0 hz1 hz3 rfl (by decide) _ l (lcells LL) (by rfl) (World.ownsRow.alloc (show _ from HR2.out) _) ⟨wr.heap.size, 0, none⟩ 1 1 [.int .i64 (I k), .string (C k)] (by rfl) rfl (by intro j u hu; match j, hu with | 0, hu => (simp at hu; subst hu; simp [Addr.add]) | 1, hu => (simp at hu; subst hu; simp [Addr.add])) (by intro u hu; simp at hu; rcases hu with rfl | rfl <;> rfl) (by decide) (by unfold maxLen; omega) (by omega) (by simp; omega) (wr.heap.size + 1) (by simp) ?_; intro g' cap w3 hown hgrow hat hlt3; have o3 : Only wr w3 (fun q => (Value.slice a2 l cc).ownBlock = some q) := Only.trans (Only.new (S := fun q => (Value.slice a2 l cc).ownBlock = some q) (by go_grown)) ((Only.of_grown hgrow).mono (T := fun q => (Value.slice a2 l cc).ownBlock = some q) (fun x _ e => e.symm)) (fun _ _ h => h); have hbG : w3.heap[w.heap.size]? = wr.heap[w.heap.size]? := o3.block w.heap.size (by omega) (fun e => (HRow.out w.heap.size e).1 rfl); have s0 : w3.cell? ⟨w.heap.size, d, none⟩ = some (.slice a2 l cc) := (World.cell?_of_block (a := ⟨w.heap.size, d, none⟩) hbG).trans g0; have s1 : w3.frozen? ⟨w.heap.size, d, none⟩ = false := (World.frozen?_of_block (a := ⟨w.heap.size, d, none⟩) hbG).trans g1; have HO := Lib.hid hown; have O3 := Lib.hid o3; have HA : Hid ((Value.slice a2 l cc).ownBlock = some g' ∨ g' = wr.heap.size + 1) := hat; clear hown hgrow o3 hat hbG)
      all_goals
        have HX : Hid (∀ q, (Value.slice (some ⟨g', 0, none⟩) (l + 1) cap).ownBlock = some q → (V d).ownBlock = some q ∨ wr.heap.size ≤ q) := fun q hq => by
          have e : g' = q := by simpa [Value.ownBlock] using hq
          subst e
          rcases HA.out with h | h
          · exact Or.inl (by rw [HVV.out]; exact h)
          · exact Or.inr (by omega)
        have HRW : Row w3 w.heap.size (.slice (some ⟨g', 0, none⟩) (l + 1) cap) (LL ++ [(I k, C k)]) := by
          unfold Row
          rw [lcells_append, List.length_append, hL0.out]
          exact HO.out
        have HM := Lib.hid (hm.out.put hd10 HRW (by rw [HVV.out]; exact O3.out) HX.out)
        have HOn : Hid (Only wr (w3.setCell ⟨w.heap.size, d, none⟩ (.slice (some ⟨g', 0, none⟩) (l + 1) cap)) (inM (.slice (some ⟨w.heap.size, 0, none⟩) 10 10) 10 V)) :=
          (O3.out.mono (T := inM (.slice (some ⟨w.heap.size, 0, none⟩) 10 10) 10 V) (fun x _ e => Or.inr ⟨d, hd10, by rw [HVV.out]; exact e⟩)).trans (Only.set w3 ⟨w.heap.size, d, none⟩ _ (S := inM (.slice (some ⟨w.heap.size, 0, none⟩) 10 10) 10 V) (Or.inl rfl)) (fun _ _ h => h)
        have HL2' := Lib.hid (hl.out.only HOn.out (fun b' o' e h0 hbad => by cases e; have := (hm.out.lt hbad).1; have := hab.out; omega))
        have HB2 := Lib.hid (below_only hb.out hm.out (Nat.le_refl _) HOn.out)
        have HZ2 := HOn.out.size
        have HME : Hid (Mat (w3.setCell ⟨w.heap.size, d, none⟩ (.slice (some ⟨g', 0, none⟩) (l + 1) cap)) w.heap.size (.slice (some ⟨w.heap.size, 0, none⟩) 10 10) 10 (upd V d (.slice (some ⟨g', 0, none⟩) (l + 1) cap)) (M.bins I C x (k + 1))) := by
          unfold Hid M.bins
          rw [HK.out]
          show Mat _ _ _ _ _ (upd (M.bins I C x k) d (M.bins I C x k d ++ [(I k, C k)]))
          rw [HLL.out]
          exact HM.out
        go_wp2
        go_roundw
        case rel => exact ⟨k + 1, _, by omega, by go_num, HME, HL2', HB2, by omega⟩
        case measure => simp [intOf]; omega
    · obtain rfl : k = n := by omega
      go_wp2
      go_ret
      exact ⟨_, _, V, rfl, hm.out, hb.out⟩
end Go.Proofs.Ytobmenbhbeflhaa
