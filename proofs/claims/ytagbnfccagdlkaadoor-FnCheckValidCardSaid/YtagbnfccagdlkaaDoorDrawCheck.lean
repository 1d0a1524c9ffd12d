/-
  What the drawn arguments of CheckDigit and CheckValid are. For every input.
-/
import Derived.Test.YtagbnfccagdlkaaDoorDrawCode
import Derived.Test.YtagbnfccagdlkaaDoorCheck
import Derived.Deep.RegionWith
namespace Go.Proofs.YtagbnfccagdlkaaDoor
open Go.RowKit

set_option maxHeartbeats 2000000 in
theorem DrawCheckValid_any (a : Option Addr) (l k : Nat) (z : List Int) (w : World) (h : IsRow .u8 w a l k z) :
    Calls Tryd.prog 4 #[.slice a l k] w (StrOf 0 40 w) := by
  go_enter Tryd.func4, Tryd.ntmps4
  go_wp2_with fail
  refine (open_any a l k z w h).mono ?_
  rintro e w1 ⟨r, rfl, st1⟩
  clear h
  go_wp2_with fail
  refine (l1Some_any w _ r 0 st1 (by omega)).mono ?_
  rintro e w2 ⟨c, rfl, c0, c1, st2⟩
  clear st1
  go_wp2_with fail
  refine (spec_CheckDigit _ _ (by unfold maxLen; omega)).mono ?_
  rintro e w3 ⟨rfl, rfl⟩
  have hcd : -1 ≤ M.checkDigit c ∧ M.checkDigit c ≤ 9 := by
    cases hd : M.digs c
    · rw [M.checkDigit_no hd]; omega
    · have := M.checkDigit_bd hd; omega
  obtain ⟨k0, k1⟩ := hcd
  go_wp2_with fail
  refine (l9Dec_any _ _ k0 k1).mono ?_
  rintro e w4 ⟨t, rfl, t0, t1, hb4⟩
  have st4 := st2.below hb4
  clear st2 hb4 k0 k1
  obtain ⟨S, hS⟩ : ∃ S, c ++ t = S := ⟨_, rfl⟩
  have hsz : S.size = c.size + t.size := by rw [← hS, ByteArray.size_append]
  have z0 : 8 ≤ S.size := by omega
  have z1 : S.size ≤ 9 := by omega
  clear hsz
  go_wp2_with fail
  clear hS
  refine (pick_st w _ _ r _ st4 (by omega) (by omega) (by omega)).mono ?_
  rintro e w5 ⟨v, rfl, v0, v1, st5⟩
  obtain ⟨j, rfl⟩ := Int.eq_ofNat_of_zero_le v0
  clear st4
  have j1 : j ≤ S.size := by omega
  have j2 : j + 1 ≤ S.size := by omega
  go_wp2_with fail
  refine (pick_st w _ _ r _ st5 (by omega) (by omega) (by omega)).mono ?_
  rintro e w6 ⟨v2, rfl, v20, v21, st6⟩
  clear st5
  cases h0 : (v2 == 0)
  · cases h1 : (v2 == 1)
    · go_wp2
      go_ret
      exact ⟨_, rfl, by omega, by omega, st6.2.1⟩
    · go_wp2_with fail
      refine (l1Bad_any w _ r _ S st6 (by omega) (by omega) (by omega)).mono ?_
      rintro e w7 ⟨s, rfl, s0, s1, st7⟩
      go_wp2
      go_ret
      exact ⟨_, rfl, by omega, by omega, st7.2.1⟩
  · go_wp2_with fail
    have j3 : (j : Int) + 1 ≤ (S.size : Int) := by omega
    have sj : IntKind.i64.wrap ((j : Int) + 1) = (j : Int) + 1 := IntWalk.i64_in _ (by omega)
    have tj : ((j : Int) + 1).toNat = j + 1 := by omega
    go_region_with (first | (go_at_call 14; refine (pick_st w _ _ r _ (st6.drew) (by omega) (by omega) (by omega)).mono ?_; rintro e w7 ⟨x, rfl, x0, x1, st7⟩) | (go_at_call 12; refine (l9Dec_any _ _ (by omega) (by omega)).mono ?_; rintro e w8 ⟨s, rfl, s0, s1, hb8⟩))
    all_goals
      go_wp2
      go_ret
      exact ⟨_, rfl, by omega, by simp only [ByteArray.size_append, ByteArray.size_extract]; omega, (st7.below hb8).2.1⟩

end Go.Proofs.YtagbnfccagdlkaaDoor
