/-
  What PlanRank, PlanBin and InOrder return, in the program and in the model of the document.
-/
import Derived.Test.YtbcoklognedffaaPlan
namespace Go.Proofs.Ytbcoklognedffaa
open Go.RowKit
open Go.PlainAid (bt get_bt bt_nonneg bt_le)

set_option maxHeartbeats 400000 in
theorem spec_l3Rank (w : World) (a : Option Addr) (n c : Nat) (S : Nat → ByteArray) (h : Strs w a n S) (hn : n ≤ 1048576) (x : ByteArray) :
    Calls Try.prog 67 #[.slice a n c, .string x] w fun e w' => e = .returned (.int .i64 (M.rankTo S x n)) ∧ w = w' := by
  have HL := Lib.hid h
  clear h
  go_enter Try.func67, Try.ntmps67
  go_wp2
  go_loop [5] (fun i => ∃ k : Nat, k ≤ n ∧ i = .int .i64 k ∧ Hid (∀ j, j < k → S j ≠ x)) (fun i => n - (intOf i).toNat)
  case atStart => exact ⟨0, Nat.zero_le _, rfl, fun j hj => absurd hj (by omega)⟩
  case round =>
    obtain ⟨k, hk, rfl, hno⟩ := hrel
    by_cases hlt : k < n
    · obtain ⟨b, o, rfl, c1⟩ := HL.out k hlt
      by_cases he : S k = x
      · have hd : ((S k).toList == x.toList) = true := by rw [he]; simp
        have hv := Lib.hid (M.rank_hit hlt he hno.out)
        clear he
        go_wp2
        go_ret
        exact ⟨ret_int hv.out.symm, rfl⟩
      · have hd : ((S k).toList == x.toList) = false := neq_list0 he
        have HE := Lib.hid he
        clear he
        go_wp2
        go_round
        case rel => exact ⟨k + 1, by omega, by go_num, fun q hq => by by_cases e : q = k; (subst e; exact HE.out); exact hno.out q (by omega)⟩
        case measure => simp [intOf]; omega
    · obtain rfl : k = n := by omega
      have hv := Lib.hid (M.rank_miss hno.out)
      go_wp2
      go_ret
      exact ⟨ret_int hv.out.symm, rfl⟩

set_option maxHeartbeats 400000 in
theorem slices_Index (w : World) (a : Option Addr) (n c : Nat) (S : Nat → ByteArray) (h : Strs w a n S) (hn : n ≤ 1048576) (x : ByteArray) :
    Calls Try.prog 61 #[.slice a n c, .string x] w fun e w' => e = .returned (.int .i64 (M.rankTo S x n)) ∧ w = w' := by
  have HL := Lib.hid h
  clear h
  go_enter Try.func61, Try.ntmps61
  go_wp2
  go_loop [8] (fun i => ∃ k : Nat, k ≤ n ∧ i = .int .i64 k ∧ Hid (∀ j, j < k → S j ≠ x)) (fun i => n - (intOf i).toNat)
  case atStart => exact ⟨0, Nat.zero_le _, rfl, fun j hj => absurd hj (by omega)⟩
  case round =>
    obtain ⟨k, hk, rfl, hno⟩ := hrel
    by_cases hlt : k < n
    · obtain ⟨b, o, rfl, c1⟩ := HL.out k hlt
      by_cases he : S k = x
      · have hd : (x.toList == (S k).toList) = true := by rw [he]; simp
        have hv := Lib.hid (M.rank_hit hlt he hno.out)
        clear he
        go_wp2
        go_ret
        exact ⟨ret_int hv.out.symm, rfl⟩
      · have hd : (x.toList == (S k).toList) = false := neq_list0 (fun e => he e.symm)
        have HE := Lib.hid he
        clear he
        go_wp2
        go_round
        case rel => exact ⟨k + 1, by omega, by go_num, fun q hq => by by_cases e : q = k; (subst e; exact HE.out); exact hno.out q (by omega)⟩
        case measure => simp [intOf]; omega
    · obtain rfl : k = n := by omega
      have hv := Lib.hid (M.rank_miss hno.out)
      go_wp2
      go_ret
      exact ⟨ret_int hv.out.symm, rfl⟩

set_option maxHeartbeats 400000 in
theorem impl_PlanRank (w : World) (b p : Int) (a : Option Addr) (n c : Nat) (S : Nat → ByteArray) (h : Strs w a n S) (hf : SFits n S) (hn : n ≤ 1048576) (x : ByteArray) :
    Calls Try.prog 19 #[.agg #[.int .i64 b, .int .i64 p, .slice a n c], .string x] w fun e w' => e = .returned (.int .i64 (M.planRank b p n S x)) ∧ Below w.heap.size w w' := by
  have HL := Lib.hid (h.on ((Below.refl _ _).alloc (Nat.le_refl _) (.cells #[.int .i64 b, .int .i64 p, .slice a n c] 25)))
  have HF := Lib.hid hf
  have bx := Lib.hid (tri_made w (.int .i64 b) (.int .i64 p) (.slice a n c) 25)
  clear h hf
  cases hp : M.plan b p n S
  · have hv := Lib.hid (M.planRank_no (c := x) hp)
    go_enter Try.func19, Try.ntmps19
    go_wp2_with fail
    refine (impl_PlanValid _ b p a n c S HL.out HF.out hn).mono ?_
    rw [hp]
    rintro e w1 ⟨rfl, hb1⟩
    go_wp2
    go_ret
    exact ⟨ret_int hv.out.symm, sstep (by go_grown) hb1⟩
  · have hv := Lib.hid (M.planRank_yes (c := x) hp)
    go_enter Try.func19, Try.ntmps19
    go_wp2_with fail
    refine (impl_PlanValid _ b p a n c S HL.out HF.out hn).mono ?_
    rw [hp]
    rintro e w1 ⟨rfl, hb1⟩
    obtain ⟨⟨t0, t1, t2⟩, _⟩ := bx.out.on hb1
    go_wp2_with fail
    refine (slices_Index _ a n c S (HL.out.on hb1) hn x).mono ?_
    rintro e w2 ⟨rfl, rfl⟩
    go_wp2
    go_ret
    exact ⟨ret_int hv.out.symm, sstep (by go_grown) hb1⟩

/-- Rank and digit as the walk has them. -/
theorem M.rankBin_t (b r : Int) (k : Nat) (b0 : 2 ≤ b) (b1 : b ≤ 16) (hk : k ≤ 4) (r0 : 0 ≤ r) : (r / M.pw b k).tmod b = M.rankBin b r k := by
  have := M.pw_pos b k b0 b1 hk
  unfold M.rankBin
  rw [Int.tmod_eq_emod_of_nonneg (Int.ediv_nonneg r0 (by omega))]

set_option maxHeartbeats 400000 in
theorem impl_rankBin (w : World) (b p : Int) (s : Value) (r : Int) (k : Nat) (b0 : 2 ≤ b) (b1 : b ≤ 16) (hk : k ≤ 3) (r0 : 0 ≤ r) (r1 : r ≤ 1048576) :
    Calls Try.prog 57 #[.agg #[.int .i64 b, .int .i64 p, s], .int .i64 r, .int .i64 k] w fun e w' => e = .returned (.int .i64 (M.rankBin b r k)) ∧ Below w.heap.size w w' := by
  have hp := M.pw_pos b k b0 b1 (by omega)
  have hpb := M.pw_bd b k (by omega) b1 (by omega)
  have hq := Lib.hid (impl_power b k · (by omega) b1 (by omega))
  have hv := Lib.hid (M.rankBin_t b r k b0 b1 (by omega) r0)
  obtain ⟨P, hP⟩ : ∃ P, M.pw b k = P := ⟨_, rfl⟩
  rw [hP] at hp hpb hq hv
  clear hP
  have e0 : (P == 0) = false := by rw [beq_eq_false_iff_ne]; omega
  have e1 : (b == 0) = false := by rw [beq_eq_false_iff_ne]; omega
  go_enter Try.func57, Try.ntmps57
  go_wp2
  go_quiet ((go_at_call 85; exact Calls.quiet_of_same (quiet_flip (hq.out _))))
  go_wp2
  go_ret
  exact ⟨ret_int hv.out, below_drewN0 (by go_grown) _⟩

set_option maxHeartbeats 400000 in
theorem spec_l3Bin (w : World) (b p : Int) (a : Option Addr) (n c : Nat) (S : Nat → ByteArray) (h : Strs w a n S) (hn : n ≤ 1048576) (x : ByteArray) (k : Nat) (b0 : 2 ≤ b) (b1 : b ≤ 16) (hk : k ≤ 3) :
    Calls Try.prog 89 #[.agg #[.int .i64 b, .int .i64 p, .slice a n c], .string x, .int .i64 k] w fun e w' => e = .returned (.int .i64 (if M.rankTo S x n < 0 then -1 else M.rankBin b (M.rankTo S x n) k)) ∧ Below w.heap.size w w' := by
  have HL := Lib.hid (h.on ((Below.refl _ _).alloc (Nat.le_refl _) (.cells #[.int .i64 b, .int .i64 p, .slice a n c] 25)))
  have hr := M.rank_bd S x n
  have hS := Lib.hid (spec_l3Rank · a n c S · hn x)
  obtain ⟨r, hr0⟩ : ∃ r, M.rankTo S x n = r := ⟨_, rfl⟩
  rw [hr0] at hr hS ⊢
  clear h hr0
  by_cases h0 : r < 0
  · rw [if_pos h0]
    go_enter Try.func89, Try.ntmps89
    go_wp2_with fail
    refine (hS.out _ HL.out).mono ?_
    rintro e w1 ⟨rfl, rfl⟩
    go_wp2
    go_ret
    exact ⟨rfl, by go_grown⟩
  · rw [if_neg h0]
    have hp := M.pw_pos b k b0 b1 (by omega)
    have hpb := M.pw_bd b k (by omega) b1 (by omega)
    have hq := Lib.hid (spec_l3Power b k · (by omega) b1 (by omega))
    have hv := Lib.hid (M.rankBin_t b r k b0 b1 (by omega) (by omega))
    obtain ⟨P, hP⟩ : ∃ P, M.pw b k = P := ⟨_, rfl⟩
    rw [hP] at hp hpb hq hv
    clear hP
    have e0 : (P == 0) = false := by rw [beq_eq_false_iff_ne]; omega
    have e1 : (b == 0) = false := by rw [beq_eq_false_iff_ne]; omega
    go_enter Try.func89, Try.ntmps89
    go_wp2_with fail
    refine (hS.out _ HL.out).mono ?_
    rintro e w1 ⟨rfl, rfl⟩
    go_wp2
    go_quiet ((go_at_call 92; exact Calls.quiet_of_same (quiet_flip (hq.out _))))
    go_wp2
    go_ret
    exact ⟨ret_int hv.out, below_drewN0 (by go_grown) _⟩

set_option maxHeartbeats 400000 in
theorem impl_hasPass (w : World) (b p : Int) (s : Value) (x : Int) (p0 : 1 ≤ p) (p1 : p ≤ 4) :
    Calls Try.prog 55 #[.agg #[.int .i64 b, .int .i64 p, s], .int .i64 x] w fun e w' => e = .returned (.bool (decide (0 ≤ x ∧ x < p))) ∧ Below w.heap.size w w' := by
  have hv := Lib.hid (show decide (0 ≤ x ∧ x ≤ p - 1) = decide (0 ≤ x ∧ x < p) from decide_eq_decide.2 (by omega))
  obtain ⟨q, hq⟩ : ∃ q, decide (0 ≤ x ∧ x < p) = q := ⟨_, rfl⟩
  rw [hq] at hv ⊢
  clear hq
  go_enter Try.func55, Try.ntmps55
  go_wp2_with fail
  refine (impl_within x (p - 1) _).mono ?_
  rw [hv.out]
  rintro e w1 ⟨rfl, rfl⟩
  go_wp2
  go_ret
  exact ⟨rfl, by go_grown⟩

set_option maxHeartbeats 1000000 in
theorem impl_PlanBin (w : World) (b p : Int) (a : Option Addr) (n c : Nat) (S : Nat → ByteArray) (h : Strs w a n S) (hf : SFits n S) (hn : n ≤ 1048576) (x : ByteArray) (k : Int) :
    Calls Try.prog 17 #[.agg #[.int .i64 b, .int .i64 p, .slice a n c], .string x, .int .i64 k] w fun e w' => e = .returned (.int .i64 (M.planBin b p n S x k)) ∧ Below w.heap.size w w' := by
  have HL := Lib.hid (h.on ((Below.refl _ _).alloc (Nat.le_refl _) (.cells #[.int .i64 b, .int .i64 p, .slice a n c] 25)))
  have HF := Lib.hid hf
  have bx := Lib.hid (tri_made w (.int .i64 b) (.int .i64 p) (.slice a n c) 25)
  clear h hf
  cases hp : M.plan b p n S
  · have hv := Lib.hid (M.planBin_no (c := x) (x := k) (Or.inl hp))
    have hr := Lib.hid (M.planRank_no (c := x) hp)
    clear hp
    go_enter Try.func17, Try.ntmps17
    go_wp2_with fail
    refine (impl_PlanRank _ b p a n c S HL.out HF.out hn x).mono ?_
    rw [hr.out]
    rintro e w1 ⟨rfl, hb1⟩
    go_wp2
    go_ret
    exact ⟨ret_int hv.out.symm, sstep (by go_grown) hb1⟩
  obtain ⟨s1, s2, s3, s4⟩ := M.plan_shape hp
  have hbd := M.rank_bd S x n
  have hr := Lib.hid (M.planRank_yes (c := x) hp)
  by_cases h0 : M.rankTo S x n < 0
  · have hv := Lib.hid (M.planBin_no (b := b) (p := p) (c := x) (x := k) (Or.inr (Or.inr (Or.inr h0))))
    obtain ⟨r, hr0⟩ : ∃ r, M.rankTo S x n = r := ⟨_, rfl⟩
    rw [hr0] at hbd hr h0
    clear hp hr0
    go_enter Try.func17, Try.ntmps17
    go_wp2_with fail
    refine (impl_PlanRank _ b p a n c S HL.out HF.out hn x).mono ?_
    rw [hr.out]
    rintro e w1 ⟨rfl, hb1⟩
    go_wp2
    go_ret
    exact ⟨ret_int hv.out.symm, sstep (by go_grown) hb1⟩
  by_cases hk : 0 ≤ k ∧ k < p
  · have hv := Lib.hid (M.planBin_yes (c := x) (x := k) hp hk.1 hk.2 (by omega))
    have hd := Lib.hid (decide_eq_true hk)
    obtain ⟨j, rfl⟩ := Int.eq_ofNat_of_zero_le hk.1
    have hj : j ≤ 3 := by omega
    obtain ⟨r, hr0⟩ : ∃ r, M.rankTo S x n = r := ⟨_, rfl⟩
    rw [hr0] at hbd hr h0 hv
    rw [Int.toNat_natCast] at hv
    clear hp hr0 hk
    go_enter Try.func17, Try.ntmps17
    go_wp2_with fail
    refine (impl_PlanRank _ b p a n c S HL.out HF.out hn x).mono ?_
    rw [hr.out]
    rintro e w1 ⟨rfl, hb1⟩
    have by1 := Lib.hid (bx.out.on hb1)
    obtain ⟨⟨t0, t1, t2⟩, _⟩ := by1.out
    go_wp2_with fail
    refine (impl_hasPass _ b p _ j s3 s4).mono ?_
    rw [hd.out]
    rintro e w2 ⟨rfl, hb2⟩
    obtain ⟨⟨u0, u1, u2⟩, _⟩ := by1.out.on hb2
    go_wp2_with fail
    refine (impl_rankBin _ b p _ r j s1 s2 hj (by omega) (by omega)).mono ?_
    rintro e w3 ⟨rfl, hb3⟩
    go_wp2
    go_ret
    exact ⟨ret_int hv.out.symm, sstep (sstep (sstep (by go_grown) hb1) hb2) hb3⟩
  · have hv := Lib.hid (M.planBin_no (b := b) (p := p) (n := n) (S := S) (c := x) (x := k) (by omega))
    have hd := Lib.hid (decide_eq_false hk)
    obtain ⟨r, hr0⟩ : ∃ r, M.rankTo S x n = r := ⟨_, rfl⟩
    rw [hr0] at hbd hr h0
    clear hp hr0 hk
    go_enter Try.func17, Try.ntmps17
    go_wp2_with fail
    refine (impl_PlanRank _ b p a n c S HL.out HF.out hn x).mono ?_
    rw [hr.out]
    rintro e w1 ⟨rfl, hb1⟩
    have by1 := Lib.hid (bx.out.on hb1)
    obtain ⟨⟨t0, t1, t2⟩, _⟩ := by1.out
    go_wp2_with fail
    refine (impl_hasPass _ b p _ k s3 s4).mono ?_
    rw [hd.out]
    rintro e w2 ⟨rfl, hb2⟩
    go_wp2
    go_ret
    exact ⟨ret_int hv.out.symm, sstep (sstep (by go_grown) hb1) hb2⟩

end Go.Proofs.Ytbcoklognedffaa
