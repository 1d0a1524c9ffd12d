/-
  What PlanRank, PlanBin and InOrder return, in the program and in the model of the document.
-/
import Derived.Test.YthnaglnmmgpiaaaPlan
namespace Go.Proofs.Ythnaglnmmgpiaaa
open Go.RowKit
open Go.PlainAid (bt get_bt bt_nonneg bt_le)

set_option maxHeartbeats 400000 in
theorem spec_l3Rank (w : World) (a : Option Addr) (n c : Nat) (S : Nat → ByteArray) (h : Strs w a n S) (hn : n ≤ 1048576) (x : ByteArray) :
    Calls Try.prog 61 #[.slice a n c, .string x] w fun e w' => e = .returned (.int .i64 (M.rankTo S x n)) ∧ w = w' := by
  have HL := Lib.hid h
  clear h
  go_enter Try.func61, Try.ntmps61
  go_wp2
  go_loop [5] (fun i => ∃ k : Nat, k ≤ n ∧ i = .int .i64 k ∧ Hid (∀ j, j < k → S j ≠ x)) (fun i => n - (intOf i).toNat)
  case atStart => exact ⟨0, Nat.zero_le _, rfl, fun j hj => absurd hj (by omega)⟩
  case round =>
    obtain ⟨k, hk, rfl, hno⟩ := hrel
    by_cases hlt : k < n
    · obtain ⟨b, o, rfl, c1⟩ := HL.out k hlt
      by_cases he : S k = x
      · have hd : ((S k).toList == x.toList) = true := by rw [he]; simp
        have hv := Lib.hid (M.rank_hit hlt he hno.out)
        clear he
        go_wp2
        go_ret
        exact ⟨ret_int hv.out.symm, rfl⟩
      · have hd : ((S k).toList == x.toList) = false := neq_list0 he
        have HE := Lib.hid he
        clear he
        go_wp2
        go_round
        case rel => exact ⟨k + 1, by omega, by go_num, fun q hq => by by_cases e : q = k; (subst e; exact HE.out); exact hno.out q (by omega)⟩
        case measure => simp [intOf]; omega
    · obtain rfl : k = n := by omega
      have hv := Lib.hid (M.rank_miss hno.out)
      go_wp2
      go_ret
      exact ⟨ret_int hv.out.symm, rfl⟩

/-- Rank and digit as the walk has them. -/
theorem M.rankBin_t (b r : Int) (k : Nat) (b0 : 2 ≤ b) (b1 : b ≤ 16) (hk : k ≤ 4) (r0 : 0 ≤ r) : (r / M.pw b k).tmod b = M.rankBin b r k := by
  have := M.pw_pos b k b0 b1 hk
  unfold M.rankBin
  rw [Int.tmod_eq_emod_of_nonneg (Int.ediv_nonneg r0 (by omega))]

set_option maxHeartbeats 400000 in
theorem impl_rankBin (w : World) (b p : Int) (s : Value) (r : Int) (k : Nat) (b0 : 2 ≤ b) (b1 : b ≤ 16) (hk : k ≤ 3) (r0 : 0 ≤ r) (r1 : r ≤ 1048576) :
    Calls Try.prog 53 #[.agg #[.int .i64 b, .int .i64 p, s], .int .i64 r, .int .i64 k] w fun e w' => e = .returned (.int .i64 (M.rankBin b r k)) ∧ Below w.heap.size w w' := by
  have hp := M.pw_pos b k b0 b1 (by omega)
  have hpb := M.pw_bd b k (by omega) b1 (by omega)
  have hq := Lib.hid (impl_power b k · (by omega) b1 (by omega))
  have hv := Lib.hid (M.rankBin_t b r k b0 b1 (by omega) r0)
  obtain ⟨P, hP⟩ : ∃ P, M.pw b k = P := ⟨_, rfl⟩
  rw [hP] at hp hpb hq hv
  clear hP
  have e0 : (P == 0) = false := by rw [beq_eq_false_iff_ne]; omega
  have e1 : (b == 0) = false := by rw [beq_eq_false_iff_ne]; omega
  go_enter Try.func53, Try.ntmps53
  go_wp2
  go_quiet ((go_at_call 55; exact Calls.quiet_of_same (quiet_flip (hq.out _))))
  go_wp2
  go_ret
  exact ⟨ret_int hv.out, below_drewN0 (by go_grown) _⟩

set_option maxHeartbeats 400000 in
theorem impl_hasPass (w : World) (b p : Int) (s : Value) (x : Int) (p0 : 1 ≤ p) (p1 : p ≤ 4) :
    Calls Try.prog 51 #[.agg #[.int .i64 b, .int .i64 p, s], .int .i64 x] w fun e w' => e = .returned (.bool (decide (0 ≤ x ∧ x < p))) ∧ Below w.heap.size w w' := by
  have hv := Lib.hid (show decide (0 ≤ x ∧ x ≤ p - 1) = decide (0 ≤ x ∧ x < p) from decide_eq_decide.2 (by omega))
  obtain ⟨q, hq⟩ : ∃ q, decide (0 ≤ x ∧ x < p) = q := ⟨_, rfl⟩
  rw [hq] at hv ⊢
  clear hq
  go_enter Try.func51, Try.ntmps51
  go_wp2_with fail
  refine (impl_within x (p - 1) _).mono ?_
  rw [hv.out]
  rintro e w1 ⟨rfl, rfl⟩
  go_wp2
  go_ret
  exact ⟨rfl, by go_grown⟩

end Go.Proofs.Ythnaglnmmgpiaaa
