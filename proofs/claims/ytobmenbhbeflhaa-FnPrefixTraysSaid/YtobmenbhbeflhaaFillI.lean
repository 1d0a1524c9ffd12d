/-
  What FillByPrefix, FillTrays and RepackTrays of the program return.
-/
import Derived.Test.YtobmenbhbeflhaaPutD
import Derived.Test.YtobmenbhbeflhaaFill2
namespace Go.Proofs.Ytobmenbhbeflhaa
open Go.RowKit
open Go.PlainAid (bt get_bt bt_nonneg bt_le)
set_option linter.unusedVariables false

/-- The room that is left in the last tray. -/
def roomOf (s : Int) (N : Nat) (MM : Nat → List (Int × ByteArray)) : Int := if N = 0 then 0 else s - ((MM (N - 1)).length : Int)
theorem roomOf_zero (s : Int) (MM : Nat → List (Int × ByteArray)) : roomOf s 0 MM = 0 := if_pos rfl
theorem roomOf_succ (s : Int) (m : Nat) (MM : Nat → List (Int × ByteArray)) : roomOf s (m + 1) MM = s - ((MM m).length : Int) := if_neg (by omega)
theorem row_made (w : World) (s : Int) (V : Nat → Value) (MM : Nat → List (Int × ByteArray)) : TRow (w.alloc (.cells #[.int .i64 s, .slice none 0 0, .int .i64 0] 52)) w.heap.size s (.slice none 0 0) 0 V MM 0 :=
  ⟨⟨by simp, by simp, by simp⟩, ⟨by simp, by simp, by simp⟩, Mat.nil _ _ _ _, by simp⟩

set_option maxHeartbeats 4000000 in
set_option maxRecDepth 100000 in
theorem impl_FillByPrefix (w : World) (a : Option Addr) (n c : Nat) (I : Nat → Int) (C : Nat → ByteArray) (h : Lts w a n I C) (hf : Fits n I C) (s d : Int) :
    Calls Try.prog 6 #[.slice a n c, .int .i64 s, .int .i64 d] w (TraysRes w (fillOk n I C s d) (fillN n I C s d) (fM I C s d.toNat n)) := by
  have HL := Lib.hid h
  have HF := Lib.hid hf
  clear h hf
  cases hb : M.batch n I C
  · have HO := Lib.hid (fillOk_1 (s := s) (d := d) hb)
    have HN := Lib.hid (fillN_no HO.out)
    have HB := Lib.hid hb
    rw [HO.out]
    clear hb
    go_enter Try.func6, Try.ntmps6
    go_wp2_with (first | (go_at_call 22; refine (impl_BatchValid _ _ _ _ _ _ HL.out HF.out).mono ?_; rw [HB.out]; rintro e w1 ⟨rfl, b1⟩; have HB1 := Lib.hid b1; have HL1 := Lib.hid (HL.out.on b1); clear b1))
    go_ret2
    exact ⟨.slice none 0 0, fun _ => .slice none 0 0, rfl, by rw [HN.out]; exact Mat.nil _ _ _ _, HB1.out⟩
  · have HB := Lib.hid hb
    by_cases hs : 1 ≤ s ∧ s ≤ 20
    · have D1 := Lib.hid (decide_eq_true hs)
      by_cases hd : 0 ≤ d ∧ d ≤ 7
      · have D2 := Lib.hid (decide_eq_true hd)
        have HO := Lib.hid (fillOk_4 (s := s) (d := d) hb (show sizeOk s = true from D1.out) hd)
        have HN := Lib.hid (fillN_yes HO.out)
        rw [HO.out]
        obtain ⟨d, rfl⟩ : ∃ e : Nat, d = e := ⟨d.toNat, by omega⟩
        have hd7 : d ≤ 7 := by omega
        obtain ⟨s1, s20⟩ := hs
        obtain ⟨hn, hcode⟩ := M.batch_yes hb
        have HSZ := Lib.hid (fun i (hi : i < n) => (M.code_yes (hcode i hi).1).2)
        have HFN := Lib.hid (fN_le I C s d)
        have HFL := Lib.hid (fM_len I C s d)
        have HLE := Lib.hid (fill_len I C s d s1)
        clear hb hd hcode
        go_enter Try.func6, Try.ntmps6
        go_wp2_with (first | (go_at_call 22; refine (impl_BatchValid _ _ _ _ _ _ HL.out HF.out).mono ?_; rw [HB.out]; rintro e w1 ⟨rfl, b1⟩; have HB1 := Lib.hid b1; have HL1 := Lib.hid (HL.out.on b1); clear b1) | (go_at_call 23; refine (impl_traySize _ _).mono ?_; rw [D1.out]; rintro e w2 ⟨rfl, rfl⟩) | (go_at_call 24; refine (impl_within _ _ _).mono ?_; rw [D2.out]; rintro e w3 ⟨rfl, rfl⟩))
        have hrow0 := Lib.hid (row_made w1 s (fun _ => .slice none 0 0) (fM I C s d 0))
        go_loopw [28] (fun i wr => ∃ (k : Nat) (v : Value) (V : Nat → Value), k ≤ n ∧ i = .int .i64 k ∧ Hid (TRow wr w1.heap.size s v (fN I C s d k) V (fM I C s d k) (roomOf s (fN I C s d k) (fM I C s d k))) ∧ Hid (Below w1.heap.size w1 wr)) (fun i _ => n - (intOf i).toNat)
        case atStart => exact ⟨0, _, _, Nat.zero_le _, rfl, hrow0.out, below_alloc0 _ _⟩
        case round =>
          obtain ⟨k, v, V, hk, rfl, hrow, hb⟩ := hrel
          by_cases hlt : k < n
          · obtain ⟨N, hN⟩ : ∃ N, fN I C s d k = N := ⟨_, rfl⟩
            have hNk : N ≤ k := by have := HFN.out k; omega
            obtain ⟨MM, hMM⟩ : ∃ MM, fM I C s d k = MM := ⟨_, rfl⟩
            rw [hN, hMM] at hrow
            have HNN := Lib.hid hN
            have HMM := Lib.hid hMM
            have hml := HFL.out k
            have hle := HLE.out k
            rw [hN, hMM] at hml hle
            have HML := Lib.hid hml
            have HLEK := Lib.hid hle
            obtain ⟨b, o, rfl, c0, c1⟩ := (HL1.out.on hb.out) k hlt
            have hsz := HSZ.out k hlt
            obtain ⟨Wx, hWx⟩ : ∃ Wx, wr.alloc (.cells #[.int .i64 (I k), .string (C k)] 31) = Wx := ⟨_, rfl⟩
            have KX : Hid (Below wr.heap.size wr Wx) := by rw [Hid, ← hWx]; exact below_alloc0 wr _
            have bx0 : Wx.cell? ⟨wr.heap.size, 0, none⟩ = some (.int .i64 (I k)) := by rw [← hWx]; simp
            have bx1 : Wx.cell? ⟨wr.heap.size, 1, none⟩ = some (.string (C k)) := by rw [← hWx]; simp
            have HWX := Lib.hid hWx
            have hz := hb.out.size
            clear hN hMM hml hle hWx
            have dd0 : (0 : Int) ≤ (d : Int) := by omega
            have dd3 : ((d : Int)).toNat = d := rfl
            have kn : (k : Int) < (n : Int) := by omega
            by_cases hk0 : k = 0
            · have hN0 : N = 0 := by omega
              have HC : Hid (cutAt C s d k (fN I C s d k) (fM I C s d k) = true) := by rw [Hid, HNN.out, hN0]; exact cut_none
              have d0 : decide ((0 : Int) < (k : Int)) = false := decide_eq_false (by omega)
              have d1 : decide (0 < k) = false := decide_eq_false (by omega)
              have hroom : Hid (roomOf s N MM = 0) := by rw [Hid, hN0, roomOf_zero]
              rw [hroom.out] at hrow
              have HK0 := Lib.hid hk0
              clear hk0 hN0
              go_wp2
              rw [HWX.out]
              go_quiet (fail)
              obtain ⟨wq, hwq⟩ : ∃ wq, Wx.drewN nq = wq := ⟨_, rfl⟩
              have kq : Below wr.heap.size wr wq := hwq ▸ (show Below wr.heap.size wr (Wx.drewN nq) from sstep KX.out ⟨rfl, rfl, rfl, Nat.le_refl _, fun _ _ => rfl⟩)
              have q0 : wq.cell? ⟨wr.heap.size, 0, none⟩ = some (.int .i64 (I (k))) := hwq ▸ bx0
              have q1 : wq.cell? ⟨wr.heap.size, 1, none⟩ = some (.string (C (k))) := hwq ▸ bx1
              rw [hwq]
              have HRQ := Lib.hid (hrow.out.below kq)
              have HBQ := Lib.hid (sstep hb.out kq)
              have HRA := Lib.hid (HRQ.out.below (below_alloc0 wq (.cells #[(.iface 31 (.agg #[.int .i64 (I (k)), .string (C (k))]))] 72)))
              clear hwq kq bx0 bx1 c0 c1
              have HF1 := Lib.hid ((fill_cut HC.out).1.trans (by rw [HNN.out]))
              have HF2 : Hid (fM I C s d (k + 1) = upd MM (N) [(I (k), C (k))]) := by rw [Hid, (fill_cut HC.out).2, HNN.out, HMM.out]
              have HRM : Hid (roomOf s (N + 1) (upd MM (N) [(I (k), C (k))]) = s - 1) := by rw [Hid, roomOf_succ, upd_same]; rfl
              go_wp2_with (go_at_call 25; refine (put_none _ _ s v N V MM HRA.out ⟨s1, s20⟩ (by omega) _ _ (I k) (C k) (by simp)).mono ?_; rintro e w5 ⟨g5, c5, V5, rfl, t5, o5, x5⟩)
              have T5 := Lib.hid t5
              have B5 : Hid (Below w1.heap.size w1 w5) := (sstep HBQ.out (below_alloc0 wq _)).trans (o5.below (B := w1.heap.size) (fun q hq _ e => by
                rcases e with e | e
                · omega
                · have := (HRQ.out.2.2.1.lt e).1; omega) (by have := HBQ.out.size; simp; omega))
              clear t5 o5 x5
              go_roundw
              case rel => exact ⟨k + 1, _, V5, by omega, by go_num, by rw [Hid, HF1.out, HF2.out, HRM.out]; exact T5.out, B5⟩
              case measure => simp [intOf]; omega
            · obtain ⟨j, rfl⟩ : ∃ j, k = j + 1 := ⟨k - 1, by omega⟩
              obtain ⟨m, rfl⟩ : ∃ m, N = m + 1 := ⟨N - 1, by have := fN_pos I C s d j; have := HNN.out; omega⟩
              obtain ⟨_, _, e1, p0, p1⟩ := (HL1.out.on (sstep hb.out KX.out)) j (by omega)
              cases e1
              have hsz2 := HSZ.out j (by omega)
              have w3 : IntKind.i64.wrap (((j + 1 : Nat) : Int) - 1) = (j : Int) := by rw [IntWalk.i64_in _ (by omega)]; omega
              have w4 : IntKind.i64.wrap ((j : Int) + 1 - 1) = (j : Int) := by rw [IntWalk.i64_in _ (by omega)]; omega
              have d0 : decide ((0 : Int) < ((j + 1 : Nat) : Int)) = true := decide_eq_true (by omega)
              have d1 : decide ((0 : Int) < (j : Int) + 1) = true := decide_eq_true (by omega)
              have dd1 : (d : Int) ≤ ((C (j + 1)).size : Int) := by omega
              have dd2 : (d : Int) ≤ ((C j).size : Int) := by omega
              have jn : (j : Int) + 1 < (n : Int) := by omega
              have jn2 : (j : Int) < (n : Int) := by omega
              obtain ⟨hl1, hl2⟩ := HLEK.out m (by omega)
              have hroom : Hid (roomOf s (m + 1) MM = s - ((MM m).length : Int)) := roomOf_succ s m MM
              rw [hroom.out] at hrow
              obtain ⟨lm, hlm⟩ : ∃ lm, (MM m).length = lm := ⟨_, rfl⟩
              have hcut : Hid (cutAt C s d (j + 1) (fN I C s d (j + 1)) (fM I C s d (j + 1)) = (decide ((lm : Int) = s) || decide ((C (j + 1)).extract 0 d ≠ (C j).extract 0 d))) := by
                rw [Hid, HNN.out, HMM.out, cut_some (by omega)]
                show (decide (((MM m).length : Int) = s) || _) = _
                rw [hlm]; rfl
              rw [hlm] at hrow hl1 hl2
              have HLM := Lib.hid hlm
              obtain ⟨P1, hP1⟩ : ∃ P1, (C (j + 1)).extract 0 d = P1 := ⟨_, rfl⟩
              obtain ⟨P2, hP2⟩ : ∃ P2, (C j).extract 0 d = P2 := ⟨_, rfl⟩
              rw [hP1, hP2] at hcut
              clear hlm
              by_cases hc2 : P1 = P2
              · have e5 : (P1.toList == P2.toList) = true := by rw [M.list_eq]; exact decide_eq_true hc2
                by_cases hc1 : (lm : Int) = s
                · have HC : Hid (cutAt C s d (j + 1) (fN I C s d (j + 1)) (fM I C s d (j + 1)) = true) := by rw [Hid, hcut.out, decide_eq_true hc1]; rfl
                  rw [show s - (lm : Int) = 0 by omega] at hrow
                  clear hc1 hc2
                  go_wp2
                  rw [HWX.out]
                  go_quiet (fail)
                  obtain ⟨wq, hwq⟩ : ∃ wq, Wx.drewN nq = wq := ⟨_, rfl⟩
                  have kq : Below wr.heap.size wr wq := hwq ▸ (show Below wr.heap.size wr (Wx.drewN nq) from sstep KX.out ⟨rfl, rfl, rfl, Nat.le_refl _, fun _ _ => rfl⟩)
                  have q0 : wq.cell? ⟨wr.heap.size, 0, none⟩ = some (.int .i64 (I (j + 1))) := hwq ▸ bx0
                  have q1 : wq.cell? ⟨wr.heap.size, 1, none⟩ = some (.string (C (j + 1))) := hwq ▸ bx1
                  rw [hwq]
                  have HRQ := Lib.hid (hrow.out.below kq)
                  have HBQ := Lib.hid (sstep hb.out kq)
                  have HRA := Lib.hid (HRQ.out.below (below_alloc0 wq (.cells #[(.iface 31 (.agg #[.int .i64 (I (j + 1)), .string (C (j + 1))]))] 72)))
                  clear hwq kq bx0 bx1 c0 c1 p0 p1
                  have HF1 := Lib.hid ((fill_cut HC.out).1.trans (by rw [HNN.out]))
                  have HF2 : Hid (fM I C s d (j + 1 + 1) = upd MM (m + 1) [(I (j + 1), C (j + 1))]) := by rw [Hid, (fill_cut HC.out).2, HNN.out, HMM.out]
                  have HRM : Hid (roomOf s (m + 1 + 1) (upd MM (m + 1) [(I (j + 1), C (j + 1))]) = s - 1) := by rw [Hid, roomOf_succ, upd_same]; rfl
                  go_wp2_with (go_at_call 25; refine (put_none _ _ s v (m + 1) V MM HRA.out ⟨s1, s20⟩ (by omega) _ _ (I (j + 1)) (C (j + 1)) (by simp)).mono ?_; rintro e w5 ⟨g5, c5, V5, rfl, t5, o5, x5⟩)
                  have T5 := Lib.hid t5
                  have B5 : Hid (Below w1.heap.size w1 w5) := (sstep HBQ.out (below_alloc0 wq _)).trans (o5.below (B := w1.heap.size) (fun q hq _ e => by
                    rcases e with e | e
                    · omega
                    · have := (HRQ.out.2.2.1.lt e).1; omega) (by have := HBQ.out.size; simp; omega))
                  clear t5 o5 x5
                  go_roundw
                  case rel => exact ⟨j + 1 + 1, _, V5, by omega, by go_num, by rw [Hid, HF1.out, HF2.out, HRM.out]; exact T5.out, B5⟩
                  case measure => simp [intOf]; omega
                · have HC : Hid (cutAt C s d (j + 1) (fN I C s d (j + 1)) (fM I C s d (j + 1)) = false) := by rw [Hid, hcut.out, decide_eq_false hc1, decide_eq_false (fun h => h hc2)]; rfl
                  have HF1 := Lib.hid ((fill_stay HC.out).1.trans HNN.out)
                  have HF2 : Hid (fM I C s d (j + 1 + 1) = upd MM m (MM m ++ [(I (j + 1), C (j + 1))])) := by rw [Hid, (fill_stay HC.out).2, HNN.out, HMM.out]; rfl
                  have HRM : Hid (roomOf s (m + 1) (upd MM m (MM m ++ [(I (j + 1), C (j + 1))])) = s - (lm : Int) - 1) := by rw [Hid, roomOf_succ, upd_same, List.length_append, HLM.out]; simp; omega
                  obtain ⟨g, cc, hv⟩ : ∃ g cc, v = .slice (some ⟨g, 0, none⟩) (m + 1) cc := by
                    rcases hrow.out.2.2.1.form with ⟨_, e⟩ | ⟨g, cc, e, _⟩
                    · omega
                    · exact ⟨g, cc, e⟩
                  subst hv
                  have hr1 : 1 ≤ s - (lm : Int) ∧ s - (lm : Int) ≤ 20 := by omega
                  have hll : (MM m).length ≤ 1048576 := by rw [HLM.out]; omega
                  have HLL := Lib.hid hll
                  clear hc1 hc2 hll
                  go_wp2
                  rw [HWX.out]
                  go_quiet (fail)
                  obtain ⟨wq, hwq⟩ : ∃ wq, Wx.drewN nq = wq := ⟨_, rfl⟩
                  have kq : Below wr.heap.size wr wq := hwq ▸ (show Below wr.heap.size wr (Wx.drewN nq) from sstep KX.out ⟨rfl, rfl, rfl, Nat.le_refl _, fun _ _ => rfl⟩)
                  have q0 : wq.cell? ⟨wr.heap.size, 0, none⟩ = some (.int .i64 (I (j + 1))) := hwq ▸ bx0
                  have q1 : wq.cell? ⟨wr.heap.size, 1, none⟩ = some (.string (C (j + 1))) := hwq ▸ bx1
                  rw [hwq]
                  have HRQ := Lib.hid (hrow.out.below kq)
                  have HBQ := Lib.hid (sstep hb.out kq)
                  have HRA := Lib.hid (HRQ.out.below (below_alloc0 wq (.cells #[(.iface 31 (.agg #[.int .i64 (I (j + 1)), .string (C (j + 1))]))] 72)))
                  clear hwq kq bx0 bx1 c0 c1 p0 p1
                  go_wp2_with (go_at_call 25; refine (put_room _ _ s g cc m V MM (s - (lm : Int)) HRA.out hr1 (by omega) HLL.out _ _ (I (j + 1)) (C (j + 1)) (by simp)).mono ?_; rintro e w5 ⟨g5, c5, V5, rfl, t5, o5, x5⟩)
                  have T5 := Lib.hid t5
                  have B5 : Hid (Below w1.heap.size w1 w5) := (sstep HBQ.out (below_alloc0 wq _)).trans (o5.below (B := w1.heap.size) (fun q hq _ e => by
                    rcases e with e | e
                    · omega
                    · have := (HRQ.out.2.2.1.lt e).1; omega) (by have := HBQ.out.size; simp; omega))
                  clear t5 o5 x5
                  go_roundw
                  case rel => exact ⟨j + 1 + 1, _, V5, by omega, by go_num, by rw [Hid, HF1.out, HF2.out, HRM.out]; exact T5.out, B5⟩
                  case measure => simp [intOf]; omega
              · have e5 : (P1.toList == P2.toList) = false := by rw [M.list_eq]; exact decide_eq_false hc2
                have HC : Hid (cutAt C s d (j + 1) (fN I C s d (j + 1)) (fM I C s d (j + 1)) = true) := by rw [Hid, hcut.out, decide_eq_true hc2]; simp
                clear hc2
                go_wp2
                rw [HWX.out]
                go_quiet (fail)
                obtain ⟨wq, hwq⟩ : ∃ wq, Wx.drewN nq = wq := ⟨_, rfl⟩
                have kq : Below wr.heap.size wr wq := hwq ▸ (show Below wr.heap.size wr (Wx.drewN nq) from sstep KX.out ⟨rfl, rfl, rfl, Nat.le_refl _, fun _ _ => rfl⟩)
                have q0 : wq.cell? ⟨wr.heap.size, 0, none⟩ = some (.int .i64 (I (j + 1))) := hwq ▸ bx0
                have q1 : wq.cell? ⟨wr.heap.size, 1, none⟩ = some (.string (C (j + 1))) := hwq ▸ bx1
                rw [hwq]
                have HRQ := Lib.hid (hrow.out.below kq)
                have HBQ := Lib.hid (sstep hb.out kq)
                have HRA := Lib.hid (HRQ.out.below (below_alloc0 wq (.cells #[(.iface 55 (.agg #[])), (.iface 31 (.agg #[.int .i64 (I (j + 1)), .string (C (j + 1))]))] 72)))
                clear hwq kq bx0 bx1 c0 c1 p0 p1
                have HF1 := Lib.hid ((fill_cut HC.out).1.trans (by rw [HNN.out]))
                have HF2 : Hid (fM I C s d (j + 1 + 1) = upd MM (m + 1) [(I (j + 1), C (j + 1))]) := by rw [Hid, (fill_cut HC.out).2, HNN.out, HMM.out]
                have HRM : Hid (roomOf s (m + 1 + 1) (upd MM (m + 1) [(I (j + 1), C (j + 1))]) = s - 1) := by rw [Hid, roomOf_succ, upd_same]; rfl
                have hXT : wq.heap.size ≠ w1.heap.size := by have := HRQ.out.2.2.2; omega
                go_wp2_with (go_at_call 25; refine (put_divided _ _ s v (m + 1) V MM _ HRA.out ⟨s1, s20⟩ (by omega) _ _ (I (j + 1)) (C (j + 1)) (by simp) (by simp) hXT).mono ?_; rintro e w5 ⟨g5, c5, V5, rfl, t5, o5, x5⟩)
                have T5 := Lib.hid t5
                have B5 : Hid (Below w1.heap.size w1 w5) := (sstep HBQ.out (below_alloc0 wq _)).trans (o5.below (B := w1.heap.size) (fun q hq _ e => by
                  rcases e with e | e
                  · omega
                  · have := (HRQ.out.2.2.1.lt e).1; omega) (by have := HBQ.out.size; simp; omega))
                clear t5 o5 x5
                go_roundw
                case rel => exact ⟨j + 1 + 1, _, V5, by omega, by go_num, by rw [Hid, HF1.out, HF2.out, HRM.out]; exact T5.out, B5⟩
                case measure => simp [intOf]; omega
          · obtain rfl : k = n := by omega
            obtain ⟨⟨_, y1, _⟩, _, hmm, _⟩ := hrow.out
            have HMT := Lib.hid hmm
            clear hmm
            go_wp2
            go_ret2
            exact ⟨_, _, rfl, by rw [HN.out]; exact HMT.out.lower (Nat.le_trans HB1.out.size (Nat.le_succ _)), sstep HB1.out hb.out⟩
      · have D2 := Lib.hid (decide_eq_false hd)
        have HO := Lib.hid (fillOk_3 (n := n) (I := I) (C := C) (s := s) (d := d) hd)
        have HN := Lib.hid (fillN_no HO.out)
        rw [HO.out]
        clear hb hs hd
        go_enter Try.func6, Try.ntmps6
        go_wp2_with (first | (go_at_call 22; refine (impl_BatchValid _ _ _ _ _ _ HL.out HF.out).mono ?_; rw [HB.out]; rintro e w1 ⟨rfl, b1⟩; have HB1 := Lib.hid b1; have HL1 := Lib.hid (HL.out.on b1); clear b1) | (go_at_call 23; refine (impl_traySize _ _).mono ?_; rw [D1.out]; rintro e w2 ⟨rfl, rfl⟩) | (go_at_call 24; refine (impl_within _ _ _).mono ?_; rw [D2.out]; rintro e w3 ⟨rfl, rfl⟩))
        go_ret2
        exact ⟨.slice none 0 0, fun _ => .slice none 0 0, rfl, by rw [HN.out]; exact Mat.nil _ _ _ _, HB1.out⟩
    · have D1 := Lib.hid (decide_eq_false hs)
      have HO := Lib.hid (fillOk_2 (n := n) (I := I) (C := C) (s := s) (d := d) (show sizeOk s = false from D1.out))
      have HN := Lib.hid (fillN_no HO.out)
      rw [HO.out]
      clear hb hs
      go_enter Try.func6, Try.ntmps6
      go_wp2_with (first | (go_at_call 22; refine (impl_BatchValid _ _ _ _ _ _ HL.out HF.out).mono ?_; rw [HB.out]; rintro e w1 ⟨rfl, b1⟩; have HB1 := Lib.hid b1; have HL1 := Lib.hid (HL.out.on b1); clear b1) | (go_at_call 23; refine (impl_traySize _ _).mono ?_; rw [D1.out]; rintro e w2 ⟨rfl, rfl⟩))
      go_ret2
      exact ⟨.slice none 0 0, fun _ => .slice none 0 0, rfl, by rw [HN.out]; exact Mat.nil _ _ _ _, HB1.out⟩

end Go.Proofs.Ytobmenbhbeflhaa
