/-
  What the drawn arguments of CheckDigit and CheckValid are. For every input.
-/
import Derived.Test.YteaekomdbiaemaaDoorDrawCode
import Derived.Test.YteaekomdbiaemaaDoorCheck
import Derived.Deep.RegionWith
namespace Go.Proofs.YteaekomdbiaemaaDoor
open Go.RowKit

set_option maxHeartbeats 2000000 in
theorem DrawCheckValid_any (a : Option Addr) (l k : Nat) (z : List Int) (w : World) (h : IsRow .u8 w a l k z) :
    Calls Tryd.prog 18 #[.slice a l k] w (StrOf 0 40 w) := by
  go_enter Tryd.func18, Tryd.ntmps18
  go_wp2_with fail
  refine (open_any a l k z w h).mono ?_
  rintro e w1 ⟨r, rfl, st1⟩
  clear h
  go_wp2_with fail
  refine (l1Some_any w _ r 0 st1 (by omega)).mono ?_
  rintro e w2 ⟨c, rfl, c0, c1, st2⟩
  clear st1
  go_wp2_with fail
  refine (spec_CheckDigit _ _ (by unfold maxLen; omega)).mono ?_
  rintro e w3 ⟨rfl, rfl⟩
  have hcd : -1 ≤ M.checkDigit c ∧ M.checkDigit c ≤ 9 := by
    cases hd : M.digs c
    · rw [M.checkDigit_no hd]; omega
    · have := M.checkDigit_bd hd; omega
  obtain ⟨k0, k1⟩ := hcd
  go_wp2_with fail
  refine (l9Dec_any _ _ k0 k1).mono ?_
  rintro e w4 ⟨t, rfl, t0, t1, hb4⟩
  have st4 := st2.below hb4
  clear st2 hb4 k0 k1
  obtain ⟨S, hS⟩ : ∃ S, c ++ t = S := ⟨_, rfl⟩
  have hsz : S.size = c.size + t.size := by rw [← hS, ByteArray.size_append]
  have z0 : 8 ≤ S.size := by omega
  have z1 : S.size ≤ 9 := by omega
  clear hsz
  go_wp2_with fail
  clear hS
  refine (pick_st w _ _ r _ st4 (by omega) (by omega) (by omega)).mono ?_
  rintro e w5 ⟨v, rfl, v0, v1, st5⟩
  obtain ⟨j, rfl⟩ := Int.eq_ofNat_of_zero_le v0
  clear st4
  have j1 : j ≤ S.size := by omega
  have j2 : j + 1 ≤ S.size := by omega
  go_wp2_with fail
  refine (pick_st w _ _ r _ st5 (by omega) (by omega) (by omega)).mono ?_
  rintro e w6 ⟨v2, rfl, v20, v21, st6⟩
  clear st5
  cases h0 : (v2 == 0)
  · cases h1 : (v2 == 1)
    · go_wp2
      go_ret
      exact ⟨_, rfl, by omega, by omega, st6.2.1⟩
    · go_wp2_with fail
      refine (l1Bad_any w _ r _ S st6 (by omega) (by omega) (by omega)).mono ?_
      rintro e w7 ⟨s, rfl, s0, s1, st7⟩
      go_wp2
      go_ret
      exact ⟨_, rfl, by omega, by omega, st7.2.1⟩
  · go_wp2_with fail
    have j3 : (j : Int) + 1 ≤ (S.size : Int) := by omega
    have sj : IntKind.i64.wrap ((j : Int) + 1) = (j : Int) + 1 := IntWalk.i64_in _ (by omega)
    have tj : ((j : Int) + 1).toNat = j + 1 := by omega
    go_region_with (first | (go_at_call 38; refine (pick_st w _ _ r _ (st6.drew) (by omega) (by omega) (by omega)).mono ?_; rintro e w7 ⟨x, rfl, x0, x1, st7⟩) | (go_at_call 37; refine (l9Dec_any _ _ (by omega) (by omega)).mono ?_; rintro e w8 ⟨s, rfl, s0, s1, hb8⟩))
    all_goals
      go_wp2
      go_ret
      exact ⟨_, rfl, by omega, by simp only [ByteArray.size_append, ByteArray.size_extract]; omega, (st7.below hb8).2.1⟩

set_option maxHeartbeats 1000000 in
theorem l9Many_any (n : Int) (w : World) (hn : n = 20 ∨ n = 21) :
    Calls Tryd.prog 47 #[.string ⟨#[55]⟩, .int .i64 n] w (StrOf 0 40 w) := by
  rcases hn with rfl | rfl
  · go_enter Tryd.func47, Tryd.ntmps47
    go_wp2
    go_rounds 6
    go_ret
    exact ⟨_, rfl, by omega, by decide, Below.refl _ _⟩
  · go_enter Tryd.func47, Tryd.ntmps47
    go_wp2
    go_rounds 6
    go_ret
    exact ⟨_, rfl, by omega, by decide, Below.refl _ _⟩

set_option maxHeartbeats 2000000 in
theorem DrawDigitsValid_any (a : Option Addr) (l k : Nat) (z : List Int) (w : World) (h : IsRow .u8 w a l k z) :
    Calls Tryd.prog 29 #[.slice a l k] w (StrOf 0 40 w) := by
  go_enter Tryd.func29, Tryd.ntmps29
  go_wp2_with fail
  refine (open_any a l k z w h).mono ?_
  rintro e w1 ⟨r, rfl, st1⟩
  clear h
  go_wp2_with fail
  refine (l1Some_any w _ r 0 st1 (by omega)).mono ?_
  rintro e w2 ⟨c, rfl, c0, c1, st2⟩
  clear st1
  go_wp2_with fail
  refine (pick_st w _ _ r _ st2 (by omega) (by omega) (by omega)).mono ?_
  rintro e w3 ⟨v, rfl, v0, v1, st3⟩
  clear st2
  obtain ⟨j, rfl⟩ := Int.eq_ofNat_of_zero_le v0
  have j1 : j ≤ c.size := by omega
  go_wp2_with fail
  refine (pick_st w _ _ r _ st3 (by omega) (by omega) (by omega)).mono ?_
  rintro e w4 ⟨v2, rfl, v20, v21, st4⟩
  clear st3
  have hr := st4.1.lt
  have hX : (c.extract 0 j).size ≤ 7 := by simp; omega
  cases h0 : (v2 == 0)
  · cases h1 : (v2 == 1)
    · go_wp2
      go_ret
      exact ⟨_, rfl, by omega, by omega, st4.2.1⟩
    · go_wp2_with fail
      refine (num_st w [20, 21] w4.heap.size _ r _ (st4.alloc _) (by omega) (by decide) (by decide) (by omega) (cells_int [20, 21] _ w4)).mono ?_
      rintro e w5 ⟨v5, rfl, hm5, st5⟩
      have hv5 : v5 = 20 ∨ v5 = 21 := by simpa using hm5
      clear hm5
      go_wp2_with fail
      refine (l9Many_any v5 _ hv5).mono ?_
      rintro e w6 ⟨s, rfl, s0, s1, hb6⟩
      go_wp2
      go_ret
      exact ⟨_, rfl, by omega, by omega, (st5.below hb6).2.1⟩
  · go_wp2_with fail
    refine (of_st w [⟨#[120]⟩, ⟨#[32]⟩, ⟨#[45]⟩, ⟨#[47]⟩] w4.heap.size _ r _ (st4.alloc _) (by omega) (by decide) (by decide) (by omega) (cells_str [⟨#[120]⟩, ⟨#[32]⟩, ⟨#[45]⟩, ⟨#[47]⟩] _ w4)).mono ?_
    rintro e w5 ⟨s, rfl, hs, st5⟩
    have hz := (show ∀ x ∈ [(⟨#[120]⟩ : ByteArray), ⟨#[32]⟩, ⟨#[45]⟩, ⟨#[47]⟩], x.size ≤ 1 from by decide) s hs
    clear hs
    go_wp2
    go_ret
    exact ⟨_, rfl, by omega, by rw [ByteArray.size_append]; omega, st5.2.1⟩

theorem DrawCheckDigit_any (a : Option Addr) (l k : Nat) (z : List Int) (w : World) (h : IsRow .u8 w a l k z) :
    Calls Tryd.prog 12 #[.slice a l k] w (StrOf 0 40 w) := by
  go_enter Tryd.func12, Tryd.ntmps12
  go_wp2_with fail
  refine (DrawDigitsValid_any a l k z w h).mono ?_
  rintro e w1 ⟨s, rfl, s0, s1, hb⟩
  go_wp2
  go_ret
  exact ⟨s, rfl, s0, s1, hb⟩
end Go.Proofs.YteaekomdbiaemaaDoor
