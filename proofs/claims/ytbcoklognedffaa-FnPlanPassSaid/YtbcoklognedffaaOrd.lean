/-
  What InOrder returns, in the program and in the model of the document.
-/
import Derived.Test.YtbcoklognedffaaRank
import Derived.Test.YtbcoklognedffaaBatch
namespace Go.Proofs.Ytbcoklognedffaa
open Go.RowKit
open Go.PlainAid (bt get_bt bt_nonneg bt_le)

set_option maxHeartbeats 400000 in
theorem spec_l3Ready (w : World) (b p : Int) (a : Option Addr) (n c : Nat) (S : Nat → ByteArray) (h : Strs w a n S) (hf : SFits n S) (hn : n ≤ 1048576) (a2 : Option Addr) (m c2 : Nat) (I : Nat → Int) (C : Nat → ByteArray) (h2 : Lts w a2 m I C) (hf2 : Fits m I C) (hm : m ≤ 1048576) :
    Calls Try.prog 64 #[.agg #[.int .i64 b, .int .i64 p, .slice a n c], .slice a2 m c2] w fun e w' => e = .returned (.bool (M.plan b p n S && M.batch m I C)) ∧ Below w.heap.size w w' := by
  have HL := Lib.hid (h.on ((Below.refl _ _).alloc (Nat.le_refl _) (.cells #[.int .i64 b, .int .i64 p, .slice a n c] 25)))
  have HL2 := Lib.hid (h2.on ((Below.refl _ _).alloc (Nat.le_refl _) (.cells #[.int .i64 b, .int .i64 p, .slice a n c] 25)))
  have HF := Lib.hid hf
  have HF2 := Lib.hid hf2
  clear h hf h2 hf2
  cases hp : M.plan b p n S
  · go_enter Try.func64, Try.ntmps64
    go_wp2_with fail
    refine (spec_PlanValid _ b p a n c S HL.out HF.out hn).mono ?_
    rw [hp]
    rintro e w1 ⟨rfl, hb1⟩
    go_wp2
    go_ret
    exact ⟨rfl, sstep (by go_grown) hb1⟩
  · go_enter Try.func64, Try.ntmps64
    go_wp2_with fail
    refine (spec_PlanValid _ b p a n c S HL.out HF.out hn).mono ?_
    rw [hp]
    rintro e w1 ⟨rfl, hb1⟩
    go_wp2_with fail
    refine (spec_BatchValid _ a2 m c2 I C (HL2.out.on hb1) HF2.out hm).mono ?_
    rintro e w2 ⟨rfl, hb2⟩
    go_wp2
    go_ret
    exact ⟨rfl, sstep (sstep (by go_grown) hb1) hb2⟩

set_option maxHeartbeats 1000000 in
theorem impl_InOrder (w : World) (b p : Int) (a : Option Addr) (n c : Nat) (S : Nat → ByteArray) (h : Strs w a n S) (hf : SFits n S) (hn : n ≤ 1048576) (a2 : Option Addr) (m c2 : Nat) (I : Nat → Int) (C : Nat → ByteArray) (h2 : Lts w a2 m I C) (hf2 : Fits m I C) :
    Calls Try.prog 23 #[.agg #[.int .i64 b, .int .i64 p, .slice a n c], .slice a2 m c2] w fun e w' => e = .returned (.bool (M.inOrder b p n S m I C)) ∧ Below w.heap.size w w' := by
  have HL := Lib.hid (h.on ((Below.refl _ _).alloc (Nat.le_refl _) (.cells #[.int .i64 b, .int .i64 p, .slice a n c] 25)))
  have HL2 := Lib.hid (h2.on ((Below.refl _ _).alloc (Nat.le_refl _) (.cells #[.int .i64 b, .int .i64 p, .slice a n c] 25)))
  have bx := Lib.hid (tri_made w (.int .i64 b) (.int .i64 p) (.slice a n c) 25)
  have HF := Lib.hid hf
  have HF2 := Lib.hid hf2
  clear h hf h2 hf2
  cases hp : M.plan b p n S
  · have hv := Lib.hid (M.inOrder_no (m := m) (I := I) (C := C) (Or.inl hp))
    go_enter Try.func23, Try.ntmps23
    go_wp2_with fail
    refine (impl_PlanValid _ b p a n c S HL.out HF.out hn).mono ?_
    rw [hp]
    rintro e w1 ⟨rfl, hb1⟩
    go_wp2
    go_ret
    exact ⟨ret_bool hv.out.symm, sstep (by go_grown) hb1⟩
  cases hb : M.batch m I C
  · have hv := Lib.hid (M.inOrder_no (b := b) (p := p) (n := n) (S := S) (Or.inr (Or.inl hb)))
    go_enter Try.func23, Try.ntmps23
    go_wp2_with fail
    refine (impl_PlanValid _ b p a n c S HL.out HF.out hn).mono ?_
    rw [hp]
    rintro e w1 ⟨rfl, hb1⟩
    go_wp2_with fail
    refine (impl_BatchValid _ a2 m c2 I C (HL2.out.on hb1) HF2.out).mono ?_
    rw [hb]
    rintro e w2 ⟨rfl, hb2⟩
    go_wp2
    go_ret
    exact ⟨ret_bool hv.out.symm, sstep (sstep (by go_grown) hb1) hb2⟩
  have hm60 := (M.batch_yes hb).1
  have HP := Lib.hid hp
  have HB := Lib.hid hb
  clear hp hb
  go_enter Try.func23, Try.ntmps23
  go_wp2_with fail
  refine (impl_PlanValid _ b p a n c S HL.out HF.out hn).mono ?_
  rw [HP.out]
  rintro e w1 ⟨rfl, hb1⟩
  go_wp2_with fail
  refine (impl_BatchValid _ a2 m c2 I C (HL2.out.on hb1) HF2.out).mono ?_
  rw [HB.out]
  rintro e w2 ⟨rfl, hb2⟩
  have HS := Lib.hid ((HL.out.on hb1).on hb2)
  have HT := Lib.hid ((HL2.out.on hb1).on hb2)
  have BX := Lib.hid ((bx.out.on hb1).on hb2)
  have BL : Hid (Below w.heap.size w w2) := sstep (sstep (by go_grown) hb1) hb2
  clear hb1 hb2
  go_wp2
  go_loopw [5, 19] (fun r i wr => ∃ k : Nat, k ≤ m ∧ i = .int .i64 k ∧ r = .int .i64 (M.ordTo S n C k) ∧ Hid (0 ≤ M.ordTo S n C k) ∧ Below w2.heap.size w2 wr) (fun _ i _ => m - (intOf i).toNat)
  case atStart => exact ⟨0, Nat.zero_le _, rfl, rfl, Int.le_refl _, Below.refl _ _⟩
  case round =>
    obtain ⟨k, hk, rfl, rfl, h0, hb⟩ := hrel
    have hz := hb.size
    by_cases hlt : k < m
    · obtain ⟨b1, o1, rfl, c0, c1⟩ := (HT.out.on hb) k hlt
      have hzl : w.heap.size < wr.heap.size := (BX.out.on hb).lt
      obtain ⟨⟨t0, t1, t2⟩, _⟩ := BX.out.on hb
      have hst := Lib.hid (HS.out.on hb)
      have st := Lib.hid (fun h2 => M.ordTo_step (S := S) (n := n) (C := C) (k := k) h0.out h2)
      have fl := Lib.hid (fun h2 => M.ordTo_fail (S := S) (n := n) (C := C) (k := k) (m := m) hlt h0.out h2)
      have hbd := M.rank_bd S (C k) n
      have hSI := Lib.hid (fun W h => slices_Index W a n c S h hn (C k))
      obtain ⟨r, hr⟩ : ∃ r, M.rankTo S (C k) n = r := ⟨_, rfl⟩
      obtain ⟨q, hq⟩ : ∃ q, M.ordTo S n C k = q := ⟨_, rfl⟩
      rw [hr, hq] at st fl
      rw [hr] at hbd hSI
      rw [hq] at h0 ⊢
      clear hr hq
      by_cases hrq : r < q
      · have hv := Lib.hid (M.inOrder_no (b := b) (p := p) (n := n) (S := S) (m := m) (I := I) (C := C) (Or.inr (Or.inr (fl.out hrq))))
        go_wp2_with fail
        refine (hSI.out _ (hst.out.on (by go_grown))).mono ?_
        rintro e w3 ⟨rfl, rfl⟩
        go_wp2
        go_ret
        exact ⟨ret_bool hv.out.symm, BL.out.trans ((by go_grown : Below w2.heap.size w2 _).mono BL.out.size)⟩
      · have hst2 := Lib.hid (st.out (by omega))
        have hq0 := h0.out
        go_wp2_with fail
        refine (hSI.out _ (hst.out.on (by go_grown))).mono ?_
        rintro e w3 ⟨rfl, rfl⟩
        go_wp2
        go_roundw
        case rel => exact ⟨k + 1, by omega, by go_num, by rw [hst2.out], (by show 0 ≤ M.ordTo S n C (k + 1); rw [hst2.out]; omega), by go_grown⟩
        case measure => simp [intOf]; omega
    · obtain rfl : k = m := by omega
      have hv := Lib.hid (M.inOrder_yes HP.out HB.out h0.out)
      go_wp2
      go_ret
      exact ⟨ret_bool hv.out.symm, BL.out.trans (hb.mono BL.out.size)⟩

set_option maxHeartbeats 1000000 in
theorem spec_InOrder (w : World) (b p : Int) (a : Option Addr) (n c : Nat) (S : Nat → ByteArray) (h : Strs w a n S) (hf : SFits n S) (hn : n ≤ 1048576) (a2 : Option Addr) (m c2 : Nat) (I : Nat → Int) (C : Nat → ByteArray) (h2 : Lts w a2 m I C) (hf2 : Fits m I C) (hm : m ≤ 1048576) :
    Calls Try.prog 27 #[.agg #[.int .i64 b, .int .i64 p, .slice a n c], .slice a2 m c2] w fun e w' => e = .returned (.bool (M.inOrder b p n S m I C)) ∧ Below w.heap.size w w' := by
  have HL := Lib.hid (h.on ((Below.refl _ _).alloc (Nat.le_refl _) (.cells #[.int .i64 b, .int .i64 p, .slice a n c] 25)))
  have HL2 := Lib.hid (h2.on ((Below.refl _ _).alloc (Nat.le_refl _) (.cells #[.int .i64 b, .int .i64 p, .slice a n c] 25)))
  have bx := Lib.hid (tri_made w (.int .i64 b) (.int .i64 p) (.slice a n c) 25)
  have HF := Lib.hid hf
  have HF2 := Lib.hid hf2
  have b0 := below_alloc0 w (.cells #[.int .i64 b, .int .i64 p, .slice a n c] 25)
  have B0 := Lib.hid b0
  clear h hf h2 hf2
  have hRd := Lib.hid (fun W hs ht => spec_l3Ready W b p a n c S hs HF.out hn a2 m c2 I C ht HF2.out hm)
  cases hr : (M.plan b p n S && M.batch m I C)
  · have hv : Hid (M.inOrder b p n S m I C = false) := by unfold Hid M.inOrder; rw [hr]; rfl
    rw [hr] at hRd
    clear hr b0
    go_enter Try.func27, Try.ntmps27
    go_wp2
    refine wp_loop_rounds 1 ?_
    rw [rounds_succ]
    go_wp2_with fail
    refine (hRd.out _ HL.out HL2.out).mono ?_
    rintro e w1 ⟨rfl, hb1⟩
    obtain ⟨⟨t0, t1, t2⟩, _⟩ := bx.out.on hb1
    go_wp2_with fail
    refine (hRd.out _ (HL.out.on hb1) (HL2.out.on hb1)).mono ?_
    rintro e w2 ⟨rfl, hb2⟩
    go_wp2
    go_ret
    exact ⟨ret_bool hv.out.symm, sstep (sstep B0.out hb1) hb2⟩
  rw [hr] at hRd
  rw [Bool.and_eq_true] at hr
  have HP := Lib.hid hr.1
  have HB := Lib.hid hr.2
  clear hr
  go_enter Try.func27, Try.ntmps27
  go_wp2
  go_loopw [5, 6] (fun r i wr => ∃ k : Nat, k ≤ m ∧ i = .int .i64 k ∧ r = .int .i64 (M.ordTo S n C k) ∧ Hid (0 ≤ M.ordTo S n C k) ∧ Hid (Strs wr a n S) ∧ Hid (Lts wr a2 m I C) ∧ Hid (Tri wr w.heap.size (.int .i64 b) (.int .i64 p) (.slice a n c)) ∧ Hid (Below w.heap.size w wr)) (fun _ i _ => m - (intOf i).toNat)
  case atStart => exact ⟨0, Nat.zero_le _, rfl, rfl, Int.le_refl _, HL, HL2, bx, B0⟩
  case round =>
    obtain ⟨k, hk, rfl, rfl, h0, hs0, ht0, hx0, hb0⟩ := hrel
    clear b0
    obtain ⟨⟨t0, t1, t2⟩, _⟩ := hx0.out
    by_cases hlt : k < m
    · have st := Lib.hid (fun h2 => M.ordTo_step (S := S) (n := n) (C := C) (k := k) h0.out h2)
      have fl := Lib.hid (fun h2 => M.ordTo_fail (S := S) (n := n) (C := C) (k := k) (m := m) hlt h0.out h2)
      have hbd := M.rank_bd S (C k) n
      have hSI := Lib.hid (fun W h => spec_l3Rank W a n c S h hn (C k))
      obtain ⟨r, hr⟩ : ∃ r, M.rankTo S (C k) n = r := ⟨_, rfl⟩
      obtain ⟨q, hq⟩ : ∃ q, M.ordTo S n C k = q := ⟨_, rfl⟩
      rw [hr, hq] at st fl
      rw [hr] at hbd hSI
      rw [hq] at h0 ⊢
      clear hr hq
      go_wp2_with fail
      refine (hRd.out _ hs0.out ht0.out).mono ?_
      rintro e w1 ⟨rfl, hb1⟩
      have hs1 := Lib.hid (hs0.out.on hb1)
      have ht1 := Lib.hid (ht0.out.on hb1)
      have hx1 := Lib.hid (hx0.out.on hb1)
      obtain ⟨b1, o1, rfl, c0, c1⟩ := ht1.out k hlt
      obtain ⟨⟨u0, u1, u2⟩, _⟩ := hx1.out
      have hb2 : Hid (Below w.heap.size w w1) := sstep hb0.out hb1
      clear hb1 hs0 ht0 hx0 hb0 t0 t1 t2
      by_cases hrq : r < q
      · have hv := Lib.hid (M.inOrder_no (b := b) (p := p) (n := n) (S := S) (m := m) (I := I) (C := C) (Or.inr (Or.inr (fl.out hrq))))
        go_wp2
        go_quiet ((go_at_call 67; exact Calls.quiet_of_same (quiet_flip (hSI.out _ hs1.out))))
        go_wp2
        go_ret
        exact ⟨ret_bool hv.out.symm, below_drewN0 hb2.out _⟩
      · have hst2 := Lib.hid (st.out (by omega))
        have hq0 := h0.out
        go_wp2
        go_quiet ((go_at_call 67; exact Calls.quiet_of_same (quiet_flip (hSI.out _ hs1.out))))
        go_wp2
        go_roundw
        case rel => exact ⟨k + 1, by omega, by go_num, by rw [hst2.out], (by show 0 ≤ M.ordTo S n C (k + 1); rw [hst2.out]; omega), hs1.out, ht1.out, hx1.out, below_drewN0 hb2.out _⟩
        case measure => simp [intOf]; omega
    · obtain rfl : k = m := by omega
      have hv := Lib.hid (M.inOrder_yes HP.out HB.out h0.out)
      go_wp2_with fail
      refine (hRd.out _ hs0.out ht0.out).mono ?_
      rintro e w1 ⟨rfl, hb1⟩
      obtain ⟨⟨u0, u1, u2⟩, _⟩ := hx0.out.on hb1
      go_wp2_with fail
      refine (hRd.out _ (hs0.out.on hb1) (ht0.out.on hb1)).mono ?_
      rintro e w2 ⟨rfl, hb2⟩
      go_wp2
      go_ret
      exact ⟨ret_bool hv.out.symm, sstep (sstep hb0.out hb1) hb2⟩
end Go.Proofs.Ytbcoklognedffaa
