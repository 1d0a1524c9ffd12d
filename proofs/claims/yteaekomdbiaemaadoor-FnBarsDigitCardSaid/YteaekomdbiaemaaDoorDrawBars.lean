/-
  What the drawn arguments of DigitBars and BarsDigit are. For every input.
-/
import Derived.Test.YteaekomdbiaemaaDoorDraw
import Derived.Test.YteaekomdbiaemaaDoorBars
import Derived.Deep.RegionWith
import Derived.Outline
namespace Go.Proofs.YteaekomdbiaemaaDoor
open Go.RowKit

/-- A number, and new memory alone. -/
def SomeNum (w : World) (e : Ending) (w' : World) : Prop := ∃ v : Int, e = .returned (.int .i64 v) ∧ Below w.heap.size w w'
/-- A string of at most n bytes, and new memory alone. -/
def SomeStr (n : Nat) (w : World) (e : Ending) (w' : World) : Prop := ∃ s : ByteArray, e = .returned (.string s) ∧ s.size ≤ n ∧ Below w.heap.size w w'

set_option maxHeartbeats 1000000 in
theorem DrawDigitBars_any (a : Option Addr) (l k : Nat) (z : List Int) (w : World) (h : IsRow .u8 w a l k z) :
    Calls Tryd.prog 21 #[.slice a l k] w (SomeNum w) := by
  go_enter Tryd.func21, Tryd.ntmps21
  go_wp2_with fail
  refine (open_any a l k z w h).mono ?_
  rintro e w1 ⟨r, rfl, st1⟩
  go_wp2_with fail
  refine (pick_st w _ _ r 0 st1 (by omega) (by omega) (by omega)).mono ?_
  rintro e w2 ⟨v, rfl, v0, v1, st2⟩
  cases hv : (v == 0)
  · go_wp2_with fail
    refine (pick_st w _ _ r _ st2 (by omega) (by omega) (by omega)).mono ?_
    rintro e w3 ⟨v', rfl, v0', v1', st3⟩
    go_wp2
    go_ret
    exact ⟨_, rfl, st3.2.1⟩
  · go_wp2_with fail
    have hr := st2.1.lt
    refine (num_st w [-1, 10, 9223372036854775807] w2.heap.size _ r _ (st2.alloc _) (by omega) (by decide) (by decide) (by omega) ?_).mono ?_
    · intro i hi
      match i, hi with
      | 0, _ => simp
      | 1, _ => simp
      | 2, _ => simp
    rintro e w3 ⟨v', rfl, _, st3⟩
    go_wp2
    go_ret
    exact ⟨_, rfl, st3.2.1⟩

set_option maxHeartbeats 2000000 in
theorem DrawBarsDigit_any (a : Option Addr) (l k : Nat) (z : List Int) (w : World) (h : IsRow .u8 w a l k z) :
    Calls Tryd.prog 25 #[.slice a l k] w (SomeStr 10 w) := by
  go_enter Tryd.func25, Tryd.ntmps25
  go_wp2_with fail
  refine (open_any a l k z w h).mono ?_
  rintro e w1 ⟨r, rfl, st1⟩
  go_wp2_with fail
  refine (pick_st w _ _ r 0 st1 (by omega) (by omega) (by omega)).mono ?_
  rintro e w2 ⟨v, rfl, v0, v1, st2⟩
  go_wp2_with fail
  refine (spec_l1Bars _ _ v0 (by omega)).mono ?_
  rintro e w3 ⟨rfl, hb3⟩
  have st3 := st2.below hb3
  have hs := M.bar_size v0 (by omega)
  clear st2 st1 hb3 h
  generalize M.bar v = B at hs ⊢
  have h5a : 5 ≤ B.size := by omega
  have h5b : B.size ≤ 5 := by omega
  clear hs
  go_wp2_with fail
  refine (pick_st w _ _ r _ st3 (by omega) (by omega) (by omega)).mono ?_
  rintro e w4 ⟨v', rfl, v0', v1', st4⟩
  obtain ⟨j, rfl⟩ := Int.eq_ofNat_of_zero_le v0'
  have j1 : j ≤ B.size := by omega
  have j2 : j + 1 ≤ B.size := by omega
  clear st3
  go_wp2_with fail
  refine (pick_st w _ _ r _ st4 (by omega) (by omega) (by omega)).mono ?_
  rintro e w5 ⟨v2, rfl, v20, v21, st5⟩
  clear st4
  cases hv : (v2 == 0)
  · cases hv1 : (v2 == 1)
    · go_wp2
      go_ret
      exact ⟨_, rfl, by omega, st5.2.1⟩
    · go_wp2_with fail
      have hr := st5.1.lt
      refine (of_st w [⟨#[]⟩, ⟨#[124]⟩, ⟨#[46]⟩] w5.heap.size _ r _ (st5.alloc _) (by omega) (by decide) (by decide) (by omega) ?_).mono ?_
      · intro i hi
        match i, hi with
        | 0, _ => simp
        | 1, _ => simp
        | 2, _ => simp
      rintro e w6 ⟨s, rfl, hs, st6⟩
      have hz : s.size ≤ 1 := by
        simp only [List.mem_cons, List.not_mem_nil, or_false] at hs
        rcases hs with rfl | rfl | rfl <;> decide
      clear hs
      go_wp2
      go_ret
      exact ⟨_, rfl, by rw [ByteArray.size_append]; omega, st6.2.1⟩
  · go_wp2_with fail
    have hr := st5.1.lt
    have j3 : (j : Int) + 1 ≤ (B.size : Int) := by omega
    have sj : IntKind.i64.wrap ((j : Int) + 1) = (j : Int) + 1 := IntWalk.i64_in _ (by omega)
    have tj : ((j : Int) + 1).toNat = j + 1 := by omega
    go_region_with (go_at_call 44; refine (of_st w [⟨#[124]⟩, ⟨#[46]⟩, ⟨#[63]⟩] w5.heap.size _ r _ ((st5.alloc _).drew) (by omega) (by decide) (by decide) (by omega) (cells_str [⟨#[124]⟩, ⟨#[46]⟩, ⟨#[63]⟩] _ w5)).mono ?_; rintro e w6 ⟨s, rfl, hs, st6⟩; have hz := (show ∀ x ∈ [(⟨#[124]⟩ : ByteArray), ⟨#[46]⟩, ⟨#[63]⟩], x.size ≤ 1 from by decide) s hs; clear hs)
    all_goals
      go_wp2
      go_ret
      exact ⟨_, rfl, by simp only [ByteArray.size_append, ByteArray.size_extract]; omega, st6.2.1⟩
end Go.Proofs.YteaekomdbiaemaaDoor
