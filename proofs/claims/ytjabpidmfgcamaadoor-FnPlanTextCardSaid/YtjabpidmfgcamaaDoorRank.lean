/-
  What PlanRank, PlanBin and InOrder return, in the program and in the model of the document.
-/
import Derived.Test.YtjabpidmfgcamaaDoorPlan
namespace Go.Proofs.YtjabpidmfgcamaaDoor
open Go.RowKit
open Go.PlainAid (bt get_bt bt_nonneg bt_le)

set_option maxHeartbeats 400000 in
theorem spec_l3Rank (w : World) (a : Option Addr) (n c : Nat) (S : Nat → ByteArray) (h : Strs w a n S) (hn : n ≤ 1048576) (x : ByteArray) :
    Calls Tryd.prog 60 #[.slice a n c, .string x] w fun e w' => e = .returned (.int .i64 (M.rankTo S x n)) ∧ w = w' := by
  have HL := Lib.hid h
  clear h
  go_enter Tryd.func60, Tryd.ntmps60
  go_wp2
  go_loop [5] (fun i => ∃ k : Nat, k ≤ n ∧ i = .int .i64 k ∧ Hid (∀ j, j < k → S j ≠ x)) (fun i => n - (intOf i).toNat)
  case atStart => exact ⟨0, Nat.zero_le _, rfl, fun j hj => absurd hj (by omega)⟩
  case round =>
    obtain ⟨k, hk, rfl, hno⟩ := hrel
    by_cases hlt : k < n
    · obtain ⟨b, o, rfl, c1⟩ := HL.out k hlt
      by_cases he : S k = x
      · have hd : ((S k).toList == x.toList) = true := by rw [he]; simp
        have hv := Lib.hid (M.rank_hit hlt he hno.out)
        clear he
        go_wp2
        go_ret
        exact ⟨ret_int hv.out.symm, rfl⟩
      · have hd : ((S k).toList == x.toList) = false := neq_list0 he
        have HE := Lib.hid he
        clear he
        go_wp2
        go_round
        case rel => exact ⟨k + 1, by omega, by go_num, fun q hq => by by_cases e : q = k; (subst e; exact HE.out); exact hno.out q (by omega)⟩
        case measure => simp [intOf]; omega
    · obtain rfl : k = n := by omega
      have hv := Lib.hid (M.rank_miss hno.out)
      go_wp2
      go_ret
      exact ⟨ret_int hv.out.symm, rfl⟩

/-- Rank and digit as the walk has them. -/
theorem M.rankBin_t (b r : Int) (k : Nat) (b0 : 2 ≤ b) (b1 : b ≤ 16) (hk : k ≤ 4) (r0 : 0 ≤ r) : (r / M.pw b k).tmod b = M.rankBin b r k := by
  have := M.pw_pos b k b0 b1 hk
  unfold M.rankBin
  rw [Int.tmod_eq_emod_of_nonneg (Int.ediv_nonneg r0 (by omega))]

end Go.Proofs.YtjabpidmfgcamaaDoor
