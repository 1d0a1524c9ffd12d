/-
  Drawn orders, and codes beside them.
-/
import Derived.Test.YtbfbbpmddgfeiaaDrawF
namespace Go.Proofs.Ytbfbbpmddgfeiaa
open Go.RowKit
open Go.PlainAid (bt get_bt bt_nonneg bt_le)
set_option linter.unusedVariables false

def FRowOpen (w : World) (r N : Nat) (e : Ending) (w' : World) : Prop := ∃ (base : Nat) (v' : Value) (L' : List (ByteArray × ByteArray)), e = .returned v' ∧ r < base ∧ FRow w' base v' L' ∧ L'.length ≤ 31 ∧ SmallF 30 L' ∧ Rd w' r N ∧ Below r w w'
set_option maxHeartbeats 1000000 in
theorem l4Open_any (w : World) (r N : Nat) (h : Rd w r N) (hN : N ≤ 70000) :
    Calls Try.prog 53 #[.pointer (some ⟨r, 0, none⟩)] w (FRowOpen w r (N + 100)) := by
  have hr := h.lt
  go_enter Try.func53, Try.ntmps53
  go_wp2_with fail
  refine (l4Some_any _ r _ h (by omega)).mono ?_
  rintro e w2 ⟨v, L, rfl, R2, l2, S2, sg2⟩
  have B2 := Lib.hid (sg2.below_r hr)
  have hz := sg2.2.size
  go_wp2_with fail
  refine (l4Bad_any _ r _ _ v L sg2.1 (by omega) R2 hr (by omega) S2 hz).mono ?_
  rintro e w3 ⟨v', L', rfl, R3, l3, S3, rd3, B3⟩
  have B4 := B2.out.trans B3
  clear R2 S2 sg2 B2 B3
  go_wp2
  go_ret
  exact ⟨_, _, _, rfl, hr, R3, l3, S3, rd3.mono (by omega) (by omega), B4⟩
/-- Orders that the law may read. -/
def FwsOut (w w' : World) (v : Value) : Prop := ∃ (a : Option Addr) (n c : Nat) (F T : Nat → ByteArray), v = .slice a n c ∧ Fws w' a n F T ∧ FFits n F T ∧ n ≤ 31 ∧ Below w.heap.size w w'
theorem fws_of {w w' : World} {base : Nat} {v : Value} {L : List (ByteArray × ByteArray)} (h : FRow w' base v L) (hl : L.length ≤ 31) (hs : SmallF 30 L) (hb : Below w.heap.size w w') : FwsOut w w' v := by
  obtain ⟨a, c, rfl, _, hL⟩ := h.form
  refine ⟨a, _, c, _, _, rfl, hL, fun i hi => ?_, hl, hb⟩
  have := hs _ (List.getElem_mem hi)
  rw [nF_at hi, nT_at hi]
  exact ⟨by unfold maxLen; omega, by unfold maxLen; omega⟩
def FwsOne (w : World) (e : Ending) (w' : World) : Prop := ∃ v : Value, e = .returned v ∧ FwsOut w w' v
def FwsStr (w : World) (e : Ending) (w' : World) : Prop := ∃ (v : Value) (s : ByteArray), e = .returned (.tuple #[v, .string s]) ∧ s.size ≤ 30 ∧ FwsOut w w' v
def FwsStr2 (w : World) (e : Ending) (w' : World) : Prop := ∃ (v : Value) (s t : ByteArray), e = .returned (.tuple #[v, .string s, .string t]) ∧ s.size ≤ 30 ∧ t.size ≤ 30 ∧ FwsOut w w' v
set_option maxHeartbeats 1000000 in
theorem DrawLongestChain_any (a : Option Addr) (l k : Nat) (z : List Int) (w : World) (h : IsRow .u8 w a l k z) :
    Calls Try.prog 43 #[.slice a l k] w (FwsOne w) := by
  go_enter Try.func43, Try.ntmps43
  go_wp2_with fail
  refine (open_any a l k z w h).mono ?_
  rintro e w1 ⟨r, rfl, rd1, b1, hwr⟩
  go_wp2_with fail
  refine (l4Open_any _ r _ rd1 (by omega)).mono ?_
  rintro e w2 ⟨base, v, L, rfl, hrb, R2, l2, S2, rd2, b2⟩
  have B2 := b1.trans (b2.mono hwr)
  clear h
  go_wp2
  go_ret
  exact ⟨_, rfl, fws_of R2 l2 S2 B2⟩
set_option maxHeartbeats 1000000 in
theorem DrawEndlessCodes_any (a : Option Addr) (l k : Nat) (z : List Int) (w : World) (h : IsRow .u8 w a l k z) :
    Calls Try.prog 23 #[.slice a l k] w (FwsOne w) := by
  go_enter Try.func23, Try.ntmps23
  go_wp2_with fail
  refine (open_any a l k z w h).mono ?_
  rintro e w1 ⟨r, rfl, rd1, b1, hwr⟩
  go_wp2_with fail
  refine (l4Open_any _ r _ rd1 (by omega)).mono ?_
  rintro e w2 ⟨base, v, L, rfl, hrb, R2, l2, S2, rd2, b2⟩
  have B2 := b1.trans (b2.mono hwr)
  clear h
  go_wp2
  go_ret
  exact ⟨_, rfl, fws_of R2 l2 S2 B2⟩
set_option maxHeartbeats 1000000 in
theorem DrawDirectForwards_any (a : Option Addr) (l k : Nat) (z : List Int) (w : World) (h : IsRow .u8 w a l k z) :
    Calls Try.prog 36 #[.slice a l k] w (FwsOne w) := by
  go_enter Try.func36, Try.ntmps36
  go_wp2_with fail
  refine (open_any a l k z w h).mono ?_
  rintro e w1 ⟨r, rfl, rd1, b1, hwr⟩
  go_wp2_with fail
  refine (l4Open_any _ r _ rd1 (by omega)).mono ?_
  rintro e w2 ⟨base, v, L, rfl, hrb, R2, l2, S2, rd2, b2⟩
  have B2 := b1.trans (b2.mono hwr)
  clear h
  go_wp2
  go_ret
  exact ⟨_, rfl, fws_of R2 l2 S2 B2⟩
set_option maxHeartbeats 1000000 in
theorem DrawNextCode_any (a : Option Addr) (l k : Nat) (z : List Int) (w : World) (h : IsRow .u8 w a l k z) :
    Calls Try.prog 15 #[.slice a l k] w (FwsStr w) := by
  go_enter Try.func15, Try.ntmps15
  go_wp2_with fail
  refine (open_any a l k z w h).mono ?_
  rintro e w1 ⟨r, rfl, rd1, b1, hwr⟩
  go_wp2_with fail
  refine (l4Open_any _ r _ rd1 (by omega)).mono ?_
  rintro e w2 ⟨base, v, L, rfl, hrb, R2, l2, S2, rd2, b2⟩
  have B2 := Lib.hid (b1.trans (b2.mono hwr))
  have SM := Lib.hid S2
  have HR := Lib.hid R2
  have SG := Lib.hid (Sg.start rd2)
  have hr2 := rd2.lt
  clear b1 b2 rd1 rd2 S2 R2 h
  go_wp2_with fail
  refine (l4Code_sg _ _ r _ SG.out (by omega)).mono ?_
  rintro e w3 ⟨s, rfl, s0, s1, sg3⟩
  have B3 := Lib.hid (B2.out.trans ((sg3.below_r hr2).mono hwr))
  have R3 := Lib.hid (HR.out.sg sg3 hrb)
  have hr3 := sg3.1.lt
  have SG3 := Lib.hid (Sg.start sg3.1)
  clear sg3 HR SG B2
  go_wp2_with fail
  refine (l1Bad_sg _ _ r _ _ SG3.out (by omega) (by omega) (by omega)).mono ?_
  rintro e w4 ⟨t, rfl, t0, t1, sg4⟩
  have B4 := Lib.hid (B3.out.trans ((sg4.below_r hr3).mono hwr))
  have R4 := Lib.hid (R3.out.sg sg4 hrb)
  clear sg4 R3 SG3 B3
  go_wp2
  go_ret2
  exact ⟨_, _, rfl, by omega, fws_of R4.out l2 SM.out B4.out⟩
set_option maxHeartbeats 1000000 in
theorem DrawAddForward_any (a : Option Addr) (l k : Nat) (z : List Int) (w : World) (h : IsRow .u8 w a l k z) :
    Calls Try.prog 28 #[.slice a l k] w (FwsStr2 w) := by
  go_enter Try.func28, Try.ntmps28
  go_wp2_with fail
  refine (open_any a l k z w h).mono ?_
  rintro e w1 ⟨r, rfl, rd1, b1, hwr⟩
  go_wp2_with fail
  refine (l4Open_any _ r _ rd1 (by omega)).mono ?_
  rintro e w2 ⟨base, v, L, rfl, hrb, R2, l2, S2, rd2, b2⟩
  have B2 := Lib.hid (b1.trans (b2.mono hwr))
  have SM := Lib.hid S2
  have HR := Lib.hid R2
  have SG := Lib.hid (Sg.start rd2)
  have hr2 := rd2.lt
  clear b1 b2 rd1 rd2 S2 R2 h
  go_wp2_with fail
  refine (l4Code_sg _ _ r _ SG.out (by omega)).mono ?_
  rintro e w3 ⟨s, rfl, s0, s1, sg3⟩
  have B3 := Lib.hid (B2.out.trans ((sg3.below_r hr2).mono hwr))
  have R3 := Lib.hid (HR.out.sg sg3 hrb)
  have hr3 := sg3.1.lt
  have SG3 := Lib.hid (Sg.start sg3.1)
  clear sg3 HR SG B2
  go_wp2_with fail
  refine (l1Bad_sg _ _ r _ _ SG3.out (by omega) (by omega) (by omega)).mono ?_
  rintro e w4 ⟨t, rfl, t0, t1, sg4⟩
  have B4 := Lib.hid (B3.out.trans ((sg4.below_r hr3).mono hwr))
  have R4 := Lib.hid (R3.out.sg sg4 hrb)
  have hr4 := sg4.1.lt
  have SG4 := Lib.hid (Sg.start sg4.1)
  clear sg4 R3 SG3 B3
  go_wp2_with fail
  refine (l4Code_sg _ _ r _ SG4.out (by omega)).mono ?_
  rintro e w5 ⟨s2, rfl, p0, p1, sg5⟩
  have B5 := Lib.hid (B4.out.trans ((sg5.below_r hr4).mono hwr))
  have R5 := Lib.hid (R4.out.sg sg5 hrb)
  have hr5 := sg5.1.lt
  have SG5 := Lib.hid (Sg.start sg5.1)
  clear sg5 R4 SG4 B4
  go_wp2_with fail
  refine (l1Bad_sg _ _ r _ _ SG5.out (by omega) (by omega) (by omega)).mono ?_
  rintro e w6 ⟨t2, rfl, q0, q1, sg6⟩
  have B6 := Lib.hid (B5.out.trans ((sg6.below_r hr5).mono hwr))
  have R6 := Lib.hid (R5.out.sg sg6 hrb)
  clear sg6 R5 SG5 B5
  go_wp2
  go_ret3
  exact ⟨_, _, _, rfl, by omega, by omega, fws_of R6.out l2 SM.out B6.out⟩
set_option maxHeartbeats 1000000 in
theorem DrawResolveCode_any (a : Option Addr) (l k : Nat) (z : List Int) (w : World) (h : IsRow .u8 w a l k z) :
    Calls Try.prog 19 #[.slice a l k] w (FwsStr w) := by
  go_enter Try.func19, Try.ntmps19
  go_wp2_with fail
  refine (DrawNextCode_any a l k z w h).mono ?_
  rintro e w1 ⟨v, s, rfl, hs, hv⟩
  clear h
  go_wp2
  go_ret2
  exact ⟨_, _, rfl, hs, hv⟩
set_option maxHeartbeats 1000000 in
theorem DrawRemoveForward_any (a : Option Addr) (l k : Nat) (z : List Int) (w : World) (h : IsRow .u8 w a l k z) :
    Calls Try.prog 33 #[.slice a l k] w (FwsStr w) := by
  go_enter Try.func33, Try.ntmps33
  go_wp2_with fail
  refine (DrawNextCode_any a l k z w h).mono ?_
  rintro e w1 ⟨v, s, rfl, hs, hv⟩
  clear h
  go_wp2
  go_ret2
  exact ⟨_, _, rfl, hs, hv⟩
set_option maxHeartbeats 1000000 in
theorem DrawSourcesOf_any (a : Option Addr) (l k : Nat) (z : List Int) (w : World) (h : IsRow .u8 w a l k z) :
    Calls Try.prog 40 #[.slice a l k] w (FwsStr w) := by
  go_enter Try.func40, Try.ntmps40
  go_wp2_with fail
  refine (DrawNextCode_any a l k z w h).mono ?_
  rintro e w1 ⟨v, s, rfl, hs, hv⟩
  clear h
  go_wp2
  go_ret2
  exact ⟨_, _, rfl, hs, hv⟩
end Go.Proofs.Ytbfbbpmddgfeiaa
