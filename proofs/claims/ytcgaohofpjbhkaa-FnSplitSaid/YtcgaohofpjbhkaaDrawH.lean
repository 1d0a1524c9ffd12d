/-
  Drawn prefixes, and letters with one.
-/
import Derived.Test.YtcgaohofpjbhkaaDrawB
namespace Go.Proofs.Ytcgaohofpjbhkaa
open Go.RowKit

def OfSg (W : World) (S : List ByteArray) (r N : Nat) (e : Ending) (w' : World) : Prop := ∃ v : ByteArray, e = .returned (.string v) ∧ v ∈ S ∧ Sg W w' r (N + 1)
set_option maxHeartbeats 400000 in
theorem of_sg (W : World) (S : List ByteArray) (b : Nat) (w : World) (r N : Nat) (h : Sg W w r N) (hN : N < 100000) (z1 : 1 ≤ S.length) (z2 : S.length ≤ 1000) (hb : b ≠ r) (hc : ∀ i, i < S.length → w.cell? ⟨b, i, none⟩ = some (.string (S.getD i ByteArray.empty))) :
    Calls Try.prog 59 #[.pointer (some ⟨r, 0, none⟩), .slice (some ⟨b, 0, none⟩) S.length S.length] w (OfSg W S r N) := by
  have HC := Lib.hid hc
  clear hc
  go_enter Try.func59, Try.ntmps59
  go_wp2_with fail
  refine (pick_any _ _ r N h.1 hN (by omega) (by omega)).mono ?_
  rintro e w1 ⟨v, rfl, v0, v1, hr, hg⟩
  have hst := h.picked hr hg
  obtain ⟨j, rfl⟩ := Int.eq_ofNat_of_zero_le v0
  have hj : j < S.length := by omega
  have hcell := hg.cell (HC.out j hj) (by intro e; injection e with e; exact hb e)
  go_wp2
  go_ret
  exact ⟨_, rfl, List.getElem_mem hj, hst⟩

set_option maxHeartbeats 1000000 in
theorem l2Head_any (w : World) (r N : Nat) (h : Rd w r N) (hN : N ≤ 80000) :
    Calls Try.prog 43 #[.pointer (some ⟨r, 0, none⟩)] w (StrSg w 0 8 r (N + 20)) := by
  have hr := h.lt
  go_enter Try.func43, Try.ntmps43
  go_wp2_with fail
  refine (pick_sg _ _ _ r _ (Sg.start h) (by omega) (by omega) (by omega)).mono ?_
  rintro e w1 ⟨t, rfl, t0, t1, sg1⟩
  have hr1 := sg1.1.lt
  cases c0 : (t == 0)
  · cases c1 : (t == 1)
    · go_wp2_with (first
        | (go_at_call 60; refine (l1Some_sg w _ r _ sg1 (by omega)).mono ?_; rintro e w2 ⟨s, rfl, s0, s1, sg2⟩)
        | (go_at_call 51; refine (pick_sg w _ _ r _ sg2 (by omega) (by omega) (by omega)).mono ?_; rintro e w3 ⟨q, rfl, q0, q1, sg3⟩; obtain ⟨q, rfl⟩ := Int.eq_ofNat_of_zero_le q0; have q2 : (q : Int) ≤ (s.size : Int) := (by omega)))
      go_ret
      exact ⟨_, rfl, Nat.zero_le _, by rw [ByteArray.size_extract]; omega, sg3.mono (by omega) (by omega)⟩
    · go_wp2
      go_ret
      exact ⟨_, rfl, by omega, by decide, sg1.mono (by omega) (by omega)⟩
  · go_wp2_with fail
    refine (of_sg w [⟨#[120]⟩, ⟨#[49, 50, 48, 48, 49, 48, 49, 48]⟩, ⟨#[45]⟩] w1.heap.size _ r _ (sg1.alloc _) (by omega) (by decide) (by decide) (by omega) (cells_str [⟨#[120]⟩, ⟨#[49, 50, 48, 48, 49, 48, 49, 48]⟩, ⟨#[45]⟩] _ w1)).mono ?_
    rintro e w2 ⟨s, rfl, hm, sg2⟩
    have hz := (show ∀ x ∈ [(⟨#[120]⟩ : ByteArray), ⟨#[49, 50, 48, 48, 49, 48, 49, 48]⟩, ⟨#[45]⟩], x.size ≤ 8 from by decide) s hm
    go_wp2
    go_ret
    exact ⟨_, rfl, Nat.zero_le _, hz, sg2.mono (by omega) (by omega)⟩

set_option maxHeartbeats 1000000 in
theorem DrawSplitBatch_any (a : Option Addr) (l k : Nat) (z : List Int) (w : World) (h : IsRow .u8 w a l k z) :
    Calls Try.prog 16 #[.slice a l k] w (LetsStr w) := by
  go_enter Try.func16, Try.ntmps16
  go_wp2_with fail
  refine (open_any a l k z w h).mono ?_
  rintro e w1 ⟨r, rfl, rd1, b1, hwr⟩
  go_wp2_with fail
  refine (l2Open_any _ r _ rd1 (by omega)).mono ?_
  rintro e w2 ⟨base, v, L, rfl, hrb, R2, l2, S2, rd2, b2⟩
  have B2 := Lib.hid (b1.trans (b2.mono hwr))
  have hr2 := rd2.lt
  clear b1 b2 rd1 h
  go_wp2_with fail
  refine (l2Head_any _ r _ rd2 (by omega)).mono ?_
  rintro e w3 ⟨s, rfl, _, s1, sg3⟩
  have B3 := B2.out.trans ((sg3.below_r hr2).mono hwr)
  have R3 := R2.sg sg3 hrb
  clear sg3 rd2 R2 B2
  go_wp2
  go_ret2
  exact ⟨_, _, rfl, by omega, lets_of R3 l2 S2 B3⟩
set_option maxHeartbeats 1000000 in
theorem DrawCountPrefix_any (a : Option Addr) (l k : Nat) (z : List Int) (w : World) (h : IsRow .u8 w a l k z) :
    Calls Try.prog 20 #[.slice a l k] w (LetsStr w) := by
  go_enter Try.func20, Try.ntmps20
  go_wp2_with fail
  refine (DrawSplitBatch_any a l k z w h).mono ?_
  rintro e w1 ⟨v, s, rfl, s0, hl⟩
  go_wp2
  go_ret2
  exact ⟨_, _, rfl, s0, hl⟩
end Go.Proofs.Ytcgaohofpjbhkaa
