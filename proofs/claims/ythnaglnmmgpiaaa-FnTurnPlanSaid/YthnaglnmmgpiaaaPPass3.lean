/-
  What PlanPass returns, in the program and in the model of the document.
-/
import Derived.Test.YthnaglnmmgpiaaaPPass2
namespace Go.Proofs.Ythnaglnmmgpiaaa
open Go.RowKit
open Go.PlainAid (bt get_bt bt_nonneg bt_le)

theorem M.passOk_yes {b p : Int} {n : Nat} {S : Nat → ByteArray} {m : Nat} {I : Nat → Int} {C : Nat → ByteArray} {x : Int} (h : M.passOk b p n S m I C x = true) : M.plan b p n S = true ∧ M.batch m I C = true ∧ 0 ≤ x ∧ x < p := by
  unfold M.passOk at h
  rw [Bool.and_eq_true, Bool.and_eq_true] at h
  exact ⟨h.1.1, h.1.2, of_decide_eq_true h.2⟩
/-- What a pass of a plan returns. -/
def PassRet (w : World) (b p : Int) (n : Nat) (S : Nat → ByteArray) (m : Nat) (I : Nat → Int) (C : Nat → ByteArray) (x : Int) : Ending → World → Prop :=
  PassRes w (M.passOk b p n S m I C x) (if M.passOk b p n S m I C x = true then b.toNat else 0) (M.binTo (M.planKey b n S C x.toNat) I C m) (if M.passOk b p n S m I C x = true then M.restTo (M.planKey b n S C x.toNat) I C m else [])

theorem nil_own : ∀ k, (Value.slice none 0 0).ownBlock = some k → False := fun k e => by simp [Value.ownBlock] at e

set_option maxHeartbeats 1000000 in
theorem impl_PlanPass_any (w : World) (b p : Int) (a : Option Addr) (n c : Nat) (S : Nat → ByteArray) (h : Strs w a n S) (hf : SFits n S) (hn : n ≤ 1048576) (a2 : Option Addr) (m c2 : Nat) (I : Nat → Int) (C : Nat → ByteArray) (h2 : Lts w a2 m I C) (hf2 : Fits m I C) (x : Int) :
    Calls Try.prog 31 #[.agg #[.int .i64 b, .int .i64 p, .slice a n c], .slice a2 m c2, .int .i64 x] w (PassRet w b p n S m I C x) := by
  unfold PassRet
  cases hk : M.passOk b p n S m I C x
  · have HL := Lib.hid (h.on (below_alloc0 w (.cells #[.int .i64 b, .int .i64 p, .slice a n c] 25)))
    have HL2 := Lib.hid (h2.on (below_alloc0 w (.cells #[.int .i64 b, .int .i64 p, .slice a n c] 25)))
    have bx := Lib.hid (tri_made w (.int .i64 b) (.int .i64 p) (.slice a n c) 25)
    have HF := Lib.hid hf
    have HF2 := Lib.hid hf2
    clear h hf h2 hf2
    cases hp : M.plan b p n S
    · clear hk
      go_enter Try.func31, Try.ntmps31
      go_wp2_with fail
      apply wp_scope_straight
      go_wp2_with fail
      refine (impl_PlanValid _ b p a n c S HL.out HF.out hn).mono ?_
      rw [hp]
      rintro e w1 ⟨rfl, hb1⟩
      go_wp2
      go_ret3
      exact ⟨_, fun _ => .slice none 0 0, _, rfl, Mat.nil _ _ _ _, Row.nil _ _, fun k e => (nil_own k e).elim, sstep (by go_grown) hb1⟩
    cases hb : M.batch m I C
    · clear hk
      go_enter Try.func31, Try.ntmps31
      go_wp2_with fail
      apply wp_scope_straight
      go_wp2_with fail
      refine (impl_PlanValid _ b p a n c S HL.out HF.out hn).mono ?_
      rw [hp]
      rintro e w1 ⟨rfl, hb1⟩
      obtain ⟨⟨t0, t1, t2⟩, _⟩ := bx.out.on hb1
      go_wp2_with fail
      refine (impl_BatchValid _ a2 m c2 I C (HL2.out.on hb1) HF2.out).mono ?_
      rw [hb]
      rintro e w2 ⟨rfl, hb2⟩
      go_wp2
      go_ret3
      exact ⟨_, fun _ => .slice none 0 0, _, rfl, Mat.nil _ _ _ _, Row.nil _ _, fun k e => (nil_own k e).elim, sstep (sstep (by go_grown) hb1) hb2⟩
    · obtain ⟨s1, s2, s3, s4⟩ := M.plan_shape hp
      have hq : Hid (decide (0 ≤ x ∧ x < p) = false) := by
        unfold M.passOk at hk
        rw [hp, hb] at hk
        exact hk
      clear hk
      go_enter Try.func31, Try.ntmps31
      go_wp2_with fail
      apply wp_scope_straight
      go_wp2_with fail
      refine (impl_PlanValid _ b p a n c S HL.out HF.out hn).mono ?_
      rw [hp]
      rintro e w1 ⟨rfl, hb1⟩
      have bx1 := Lib.hid (bx.out.on hb1)
      obtain ⟨⟨t0, t1, t2⟩, _⟩ := bx1.out
      go_wp2_with fail
      refine (impl_BatchValid _ a2 m c2 I C (HL2.out.on hb1) HF2.out).mono ?_
      rw [hb]
      rintro e w2 ⟨rfl, hb2⟩
      clear t0 t1 t2
      obtain ⟨⟨t0, t1, t2⟩, _⟩ := bx1.out.on hb2
      go_wp2_with fail
      refine (impl_hasPass _ b p _ x s3 s4).mono ?_
      rw [hq.out]
      rintro e w3 ⟨rfl, hb3⟩
      go_wp2
      go_ret3
      exact ⟨_, fun _ => .slice none 0 0, _, rfl, Mat.nil _ _ _ _, Row.nil _ _, fun k e => (nil_own k e).elim, sstep (sstep (sstep (by go_grown) hb1) hb2) hb3⟩
  · obtain ⟨hp, hb, x0, x1⟩ := M.passOk_yes hk
    obtain ⟨q, rfl⟩ := Int.eq_ofNat_of_zero_le x0
    have := impl_PlanPass_yes w b p a n c S h hf hn a2 m c2 I C h2 hf2 hp hb q x1
    rw [Int.toNat_natCast, if_pos rfl, if_pos rfl]
    exact this

theorem passRet_len {b p : Int} {n : Nat} {S : Nat → ByteArray} {m : Nat} {I : Nat → Int} {C : Nat → ByteArray} {x : Int} : (if M.passOk b p n S m I C x = true then b.toNat else 0) ≤ 16 ∧ (if M.passOk b p n S m I C x = true then M.restTo (M.planKey b n S C x.toNat) I C m else []).length ≤ m := by
  by_cases h : M.passOk b p n S m I C x = true
  · obtain ⟨hp, _⟩ := M.passOk_yes h
    obtain ⟨s1, s2, s3, s4⟩ := M.plan_shape hp
    rw [if_pos h, if_pos h]
    exact ⟨by omega, M.restTo_len _ _ _ _⟩
  · rw [if_neg h, if_neg h]
    exact ⟨by omega, Nat.zero_le _⟩

end Go.Proofs.Ythnaglnmmgpiaaa
