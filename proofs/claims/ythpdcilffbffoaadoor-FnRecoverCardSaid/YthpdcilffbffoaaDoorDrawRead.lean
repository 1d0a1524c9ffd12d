/-
  What the drawn arguments of the functions that read bars are. For every input.
-/
import Derived.Test.YthpdcilffbffoaaDoorDrawBars
import Derived.Test.YthpdcilffbffoaaDoorDrawCode
import Derived.Test.YthpdcilffbffoaaDoorBarsOf
import Derived.Test.YthpdcilffbffoaaDoorTurnSpec
import Derived.Test.YthpdcilffbffoaaDoorReadM
import Derived.Deep.RegionWith
import Derived.IntWalk
namespace Go.Proofs.YthpdcilffbffoaaDoor
open Go.RowKit

set_option maxHeartbeats 1000000 in
theorem DrawCodeValid_any (a : Option Addr) (l k : Nat) (z : List Int) (w : World) (h : IsRow .u8 w a l k z) :
    Calls Tryd.prog 27 #[.slice a l k] w (SomeStr 100 w) := by
  go_enter Tryd.func27, Tryd.ntmps27
  go_wp2_with fail
  refine (open_any a l k z w h).mono ?_
  rintro e w1 ⟨r, rfl, st1⟩
  go_wp2_with fail
  refine (l1Some_any w _ r 0 st1 (by omega)).mono ?_
  rintro e w2 ⟨s, rfl, s0, s1, st2⟩
  go_wp2_with fail
  refine (l1Bad_any w _ r _ s st2 (by omega) (by omega) (by omega)).mono ?_
  rintro e w3 ⟨t, rfl, t0, t1, st3⟩
  go_wp2
  go_ret
  exact ⟨_, rfl, by omega, st3.2.1⟩
set_option maxHeartbeats 1000000 in
theorem DrawBarsOf_any (a : Option Addr) (l k : Nat) (z : List Int) (w : World) (h : IsRow .u8 w a l k z) :
    Calls Tryd.prog 11 #[.slice a l k] w (SomeStr 100 w) := by
  go_enter Tryd.func11, Tryd.ntmps11
  go_wp2_with fail
  refine (DrawCodeValid_any a l k z w h).mono ?_
  rintro e w1 ⟨s, rfl, s0, hb⟩
  go_wp2
  go_ret
  exact ⟨_, rfl, s0, hb⟩

set_option maxHeartbeats 2000000 in
theorem l1Smudge_any (W w : World) (r N : Nat) (b : ByteArray) (h : St W w r N) (hN : N ≤ 90000) (hb : b.size ≤ 60) :
    Calls Tryd.prog 43 #[.pointer (some ⟨r, 0, none⟩), .string b] w (StrSt W 0 61 r (N + 10)) := by
  go_enter Tryd.func43, Tryd.ntmps43
  go_wp2_with fail
  have hr := h.1.lt
  refine (num_st W [0, 1, 0, 2, 3] w.heap.size _ r _ (h.alloc _) (by omega) (by decide) (by decide) (by omega) (cells_int [0, 1, 0, 2, 3] _ w)).mono ?_
  rintro e w1 ⟨v, rfl, hm1, st1⟩
  have hv := (show ∀ x ∈ [(0 : Int), 1, 0, 2, 3], 0 ≤ x ∧ x ≤ 3 from by decide) v hm1
  clear hm1 h hr
  obtain ⟨n, rfl⟩ := Int.eq_ofNat_of_zero_le hv.1
  have hn : n ≤ 3 := by omega
  clear hv
  go_wp2
  go_loopw [1, 5] (fun s i wr => ∃ (m j : Nat) (t : ByteArray), m + j ≤ 3 ∧ i = .int .i64 j ∧ s = .string t ∧ t.size ≤ 60 ∧ St W wr r (N + 1 + 2 * m)) (fun _ i _ => (intOf i).toNat)
  case atStart => exact ⟨0, n, b, by omega, rfl, rfl, hb, st1⟩
  case round =>
    obtain ⟨m, j, t, hmj, rfl, rfl, ht, st⟩ := hrel
    by_cases h0 : 0 < j
    · obtain ⟨j', rfl⟩ : ∃ j', j = j' + 1 := ⟨j - 1, by omega⟩
      by_cases hz : 0 < t.size
      · go_wp2_with fail
        refine (pick_st W _ _ r _ st (by omega) (by omega) (by omega)).mono ?_
        rintro e w5 ⟨v, rfl, v0, v1, st5⟩
        obtain ⟨q, rfl⟩ := Int.eq_ofNat_of_zero_le v0
        have hr := st5.1.lt
        have q1 : (q : Int) ≤ (t.size : Int) := by omega
        have q3 : (q : Int) + 1 ≤ (t.size : Int) := by omega
        have q4 : (0 : Int) ≤ (q : Int) + 1 := by omega
        have sj : IntKind.i64.wrap ((q : Int) + 1) = (q : Int) + 1 := IntWalk.i64_in _ (by omega)
        have tj : ((q : Int) + 1).toNat = q + 1 := by omega
        clear st v1
        go_wp2
        go_region_with (go_at_call 54; refine (of_st W [⟨#[124]⟩, ⟨#[46]⟩, ⟨#[63]⟩] w5.heap.size _ r _ ((st5.alloc _).drew) (by omega) (by decide) (by decide) (by omega) (cells_str [⟨#[124]⟩, ⟨#[46]⟩, ⟨#[63]⟩] _ w5)).mono ?_; rintro e w6 ⟨s, rfl, hs, st6⟩; have hz1 := (show ∀ x ∈ [(⟨#[124]⟩ : ByteArray), ⟨#[46]⟩, ⟨#[63]⟩], x.size ≤ 1 from by decide) s hs; clear hs)
        all_goals
          go_wp2
          refine ⟨⟨m + 1, j', _, by omega, by go_num, rfl, by simp only [ByteArray.size_append, ByteArray.size_extract]; omega, st6.mono (by omega) (by omega)⟩, by simp [intOf]⟩
      · have hz' : ¬ (0 : Int) < (t.size : Int) := by omega
        go_wp2_with fail
        refine (pick_st W _ _ r _ st (by omega) (by omega) (by omega)).mono ?_
        rintro e w2 ⟨v, rfl, v0, v1, st2⟩
        clear st
        cases hv : (v == 0)
        · go_wp2
          go_ret
          exact ⟨_, rfl, by omega, by omega, st2.mono (by omega) (by omega)⟩
        · go_wp2
          go_ret
          exact ⟨_, rfl, by omega, by rw [ByteArray.size_append, show (⟨#[124]⟩ : ByteArray).size = 1 from rfl]; omega, st2.mono (by omega) (by omega)⟩
    · obtain rfl : j = 0 := by omega
      go_wp2_with fail
      refine (pick_st W _ _ r _ st (by omega) (by omega) (by omega)).mono ?_
      rintro e w2 ⟨v, rfl, v0, v1, st2⟩
      clear st
      cases hv : (v == 0)
      · go_wp2
        go_ret
        exact ⟨_, rfl, by omega, by omega, st2.mono (by omega) (by omega)⟩
      · go_wp2
        go_ret
        exact ⟨_, rfl, by omega, by rw [ByteArray.size_append, show (⟨#[124]⟩ : ByteArray).size = 1 from rfl]; omega, st2.mono (by omega) (by omega)⟩

set_option maxHeartbeats 1000000 in
theorem spec_BarsOf_size (W w : World) (r N : Nat) (s : ByteArray) (h : St W w r N) (hs : s.size ≤ 7) :
    Calls Tryd.prog 13 #[.string s] w fun e w' => ∃ (t : ByteArray) (ok : Bool), e = .returned (.tuple #[.string t, .bool ok]) ∧ t.size ≤ 42 ∧ St W w' r N := by
  cases hc : M.code s
  · exact (spec_BarsOf_no s w (by unfold maxLen; omega) hc).mono fun e w' h' => ⟨⟨#[]⟩, false, h'.1, by decide, by rw [← h'.2]; exact h⟩
  · exact (spec_BarsOf_yes s w hc).mono fun e w' h' => ⟨M.barsOf s, true, h'.1, by rw [M.bars_size hc]; exact Nat.le_refl _, h.below h'.2⟩

set_option maxHeartbeats 2000000 in
theorem DrawReadBars_any (a : Option Addr) (l k : Nat) (z : List Int) (w : World) (h : IsRow .u8 w a l k z) :
    Calls Tryd.prog 18 #[.slice a l k] w (SomeStr 100 w) := by
  go_enter Tryd.func18, Tryd.ntmps18
  go_wp2_with fail
  refine (open_any a l k z w h).mono ?_
  rintro e w1 ⟨r, rfl, st1⟩
  go_wp2_with fail
  refine (l1Some_any w _ r 0 st1 (by omega)).mono ?_
  rintro e w2 ⟨s, rfl, s0, s1, st2⟩
  go_wp2_with fail
  refine (spec_BarsOf_size w _ r _ s st2 s1).mono ?_
  rintro e w3 ⟨t, ok, rfl, t1, st3⟩
  go_wp2_with fail
  refine (pick_st w _ _ r _ st3 (by omega) (by omega) (by omega)).mono ?_
  rintro e w4 ⟨v, rfl, v0, v1, st4⟩
  clear st1 st2 st3 h
  cases hv : (v == 0)
  · go_wp2_with fail
    refine (pick_st w _ _ r _ st4 (by omega) (by omega) (by omega)).mono ?_
    rintro e w5 ⟨x, rfl, x0, x1, st5⟩
    cases hx : (x == 0)
    · go_wp2_with fail
      refine (l1Smudge_any w _ r _ t st5 (by omega) (by omega)).mono ?_
      rintro e w6 ⟨y, rfl, y0, y1, st6⟩
      go_wp2
      go_ret
      exact ⟨_, rfl, by omega, st6.2.1⟩
    · go_wp2
      go_ret
      exact ⟨_, rfl, by omega, st5.2.1⟩
  · go_wp2_with fail
    refine (spec_TurnBars _ _ (by omega)).mono ?_
    rintro e w7 ⟨rfl, hb7⟩
    have st7 := st4.below hb7
    have hts := turn_size t
    clear st4 hb7
    generalize turn t = t' at *
    go_wp2_with fail
    refine (pick_st w _ _ r _ st7 (by omega) (by omega) (by omega)).mono ?_
    rintro e w5 ⟨x, rfl, x0, x1, st5⟩
    cases hx : (x == 0)
    · go_wp2_with fail
      refine (l1Smudge_any w _ r _ t' st5 (by omega) (by omega)).mono ?_
      rintro e w6 ⟨y, rfl, y0, y1, st6⟩
      go_wp2
      go_ret
      exact ⟨_, rfl, by omega, st6.2.1⟩
    · go_wp2
      go_ret
      exact ⟨_, rfl, by omega, st5.2.1⟩
set_option maxHeartbeats 1000000 in
theorem DrawReadEither_any (a : Option Addr) (l k : Nat) (z : List Int) (w : World) (h : IsRow .u8 w a l k z) :
    Calls Tryd.prog 21 #[.slice a l k] w (SomeStr 100 w) := by
  go_enter Tryd.func21, Tryd.ntmps21
  go_wp2_with fail
  refine (DrawReadBars_any a l k z w h).mono ?_
  rintro e w1 ⟨s, rfl, s0, hb⟩
  go_wp2
  go_ret
  exact ⟨_, rfl, s0, hb⟩
set_option maxHeartbeats 1000000 in
theorem DrawRecoverBars_any (a : Option Addr) (l k : Nat) (z : List Int) (w : World) (h : IsRow .u8 w a l k z) :
    Calls Tryd.prog 24 #[.slice a l k] w (SomeStr 100 w) := by
  go_enter Tryd.func24, Tryd.ntmps24
  go_wp2_with fail
  refine (DrawReadBars_any a l k z w h).mono ?_
  rintro e w1 ⟨s, rfl, s0, hb⟩
  go_wp2
  go_ret
  exact ⟨_, rfl, s0, hb⟩
end Go.Proofs.YthpdcilffbffoaaDoor
