/-
  What PlanPass returns, in the program and in the model of the document.
-/
import Derived.Test.YtbcoklognedffaaPPass2
namespace Go.Proofs.Ytbcoklognedffaa
open Go.RowKit
open Go.PlainAid (bt get_bt bt_nonneg bt_le)

theorem M.passOk_yes {b p : Int} {n : Nat} {S : Nat → ByteArray} {m : Nat} {I : Nat → Int} {C : Nat → ByteArray} {x : Int} (h : M.passOk b p n S m I C x = true) : M.plan b p n S = true ∧ M.batch m I C = true ∧ 0 ≤ x ∧ x < p := by
  unfold M.passOk at h
  rw [Bool.and_eq_true, Bool.and_eq_true] at h
  exact ⟨h.1.1, h.1.2, of_decide_eq_true h.2⟩
/-- What a pass of a plan returns. -/
def PassRet (w : World) (b p : Int) (n : Nat) (S : Nat → ByteArray) (m : Nat) (I : Nat → Int) (C : Nat → ByteArray) (x : Int) : Ending → World → Prop :=
  PassRes w (M.passOk b p n S m I C x) (if M.passOk b p n S m I C x = true then b.toNat else 0) (M.binTo (M.planKey b n S C x.toNat) I C m) (if M.passOk b p n S m I C x = true then M.restTo (M.planKey b n S C x.toNat) I C m else [])

theorem nil_own : ∀ k, (Value.slice none 0 0).ownBlock = some k → False := fun k e => by simp [Value.ownBlock] at e

set_option maxHeartbeats 1000000 in
theorem impl_PlanPass_any (w : World) (b p : Int) (a : Option Addr) (n c : Nat) (S : Nat → ByteArray) (h : Strs w a n S) (hf : SFits n S) (hn : n ≤ 1048576) (a2 : Option Addr) (m c2 : Nat) (I : Nat → Int) (C : Nat → ByteArray) (h2 : Lts w a2 m I C) (hf2 : Fits m I C) (x : Int) :
    Calls Try.prog 12 #[.agg #[.int .i64 b, .int .i64 p, .slice a n c], .slice a2 m c2, .int .i64 x] w (PassRet w b p n S m I C x) := by
  unfold PassRet
  cases hk : M.passOk b p n S m I C x
  · have HL := Lib.hid (h.on (below_alloc0 w (.cells #[.int .i64 b, .int .i64 p, .slice a n c] 25)))
    have HL2 := Lib.hid (h2.on (below_alloc0 w (.cells #[.int .i64 b, .int .i64 p, .slice a n c] 25)))
    have bx := Lib.hid (tri_made w (.int .i64 b) (.int .i64 p) (.slice a n c) 25)
    have HF := Lib.hid hf
    have HF2 := Lib.hid hf2
    clear h hf h2 hf2
    cases hp : M.plan b p n S
    · clear hk
      go_enter Try.func12, Try.ntmps12
      go_wp2_with fail
      apply wp_scope_straight
      go_wp2_with fail
      refine (impl_PlanValid _ b p a n c S HL.out HF.out hn).mono ?_
      rw [hp]
      rintro e w1 ⟨rfl, hb1⟩
      go_wp2
      go_ret3
      exact ⟨_, fun _ => .slice none 0 0, _, rfl, Mat.nil _ _ _ _, Row.nil _ _, fun k e => (nil_own k e).elim, sstep (by go_grown) hb1⟩
    cases hb : M.batch m I C
    · clear hk
      go_enter Try.func12, Try.ntmps12
      go_wp2_with fail
      apply wp_scope_straight
      go_wp2_with fail
      refine (impl_PlanValid _ b p a n c S HL.out HF.out hn).mono ?_
      rw [hp]
      rintro e w1 ⟨rfl, hb1⟩
      obtain ⟨⟨t0, t1, t2⟩, _⟩ := bx.out.on hb1
      go_wp2_with fail
      refine (impl_BatchValid _ a2 m c2 I C (HL2.out.on hb1) HF2.out).mono ?_
      rw [hb]
      rintro e w2 ⟨rfl, hb2⟩
      go_wp2
      go_ret3
      exact ⟨_, fun _ => .slice none 0 0, _, rfl, Mat.nil _ _ _ _, Row.nil _ _, fun k e => (nil_own k e).elim, sstep (sstep (by go_grown) hb1) hb2⟩
    · obtain ⟨s1, s2, s3, s4⟩ := M.plan_shape hp
      have hq : Hid (decide (0 ≤ x ∧ x < p) = false) := by
        unfold M.passOk at hk
        rw [hp, hb] at hk
        exact hk
      clear hk
      go_enter Try.func12, Try.ntmps12
      go_wp2_with fail
      apply wp_scope_straight
      go_wp2_with fail
      refine (impl_PlanValid _ b p a n c S HL.out HF.out hn).mono ?_
      rw [hp]
      rintro e w1 ⟨rfl, hb1⟩
      have bx1 := Lib.hid (bx.out.on hb1)
      obtain ⟨⟨t0, t1, t2⟩, _⟩ := bx1.out
      go_wp2_with fail
      refine (impl_BatchValid _ a2 m c2 I C (HL2.out.on hb1) HF2.out).mono ?_
      rw [hb]
      rintro e w2 ⟨rfl, hb2⟩
      clear t0 t1 t2
      obtain ⟨⟨t0, t1, t2⟩, _⟩ := bx1.out.on hb2
      go_wp2_with fail
      refine (impl_hasPass _ b p _ x s3 s4).mono ?_
      rw [hq.out]
      rintro e w3 ⟨rfl, hb3⟩
      go_wp2
      go_ret3
      exact ⟨_, fun _ => .slice none 0 0, _, rfl, Mat.nil _ _ _ _, Row.nil _ _, fun k e => (nil_own k e).elim, sstep (sstep (sstep (by go_grown) hb1) hb2) hb3⟩
  · obtain ⟨hp, hb, x0, x1⟩ := M.passOk_yes hk
    obtain ⟨q, rfl⟩ := Int.eq_ofNat_of_zero_le x0
    have := impl_PlanPass_yes w b p a n c S h hf hn a2 m c2 I C h2 hf2 hp hb q x1
    rw [Int.toNat_natCast, if_pos rfl, if_pos rfl]
    exact this

set_option maxHeartbeats 1000000 in
theorem spec_PlanPass_raw (w : World) (b p : Int) (a : Option Addr) (n c : Nat) (S : Nat → ByteArray) (h : Strs w a n S) (hf : SFits n S) (hn : n ≤ 1048576) (a2 : Option Addr) (m c2 : Nat) (I : Nat → Int) (C : Nat → ByteArray) (h2 : Lts w a2 m I C) (hf2 : Fits m I C) (hm : m ≤ 1048576) (x : Int) :
    Calls Try.prog 58 #[.agg #[.int .i64 b, .int .i64 p, .slice a n c], .slice a2 m c2, .int .i64 x] w (PassRet w b p n S m I C x) := by
  have HL := Lib.hid (h.on (below_alloc0 w (.cells #[.int .i64 b, .int .i64 p, .slice a n c] 25)))
  have HL2 := Lib.hid (h2.on (below_alloc0 w (.cells #[.int .i64 b, .int .i64 p, .slice a n c] 25)))
  have bx := Lib.hid (tri_made w (.int .i64 b) (.int .i64 p) (.slice a n c) 25)
  have HF := Lib.hid hf
  have HF2 := Lib.hid hf2
  clear h hf h2 hf2
  unfold PassRet
  have fin : ∀ W : World, Below w.heap.size w W → ∀ (b p : Int) (MM : Nat → List (Int × ByteArray)), PassRes w false 0 MM [] (.returned (.tuple #[.slice (some ⟨W.heap.size, 0, none⟩) 0 0, .slice (some ⟨W.heap.size + 1, 0, none⟩) 0 0, .bool false])) ((W.alloc (.cells #[] 26)).alloc (.cells #[] 37)) := by
    intro W hW b p MM
    refine ⟨_, fun _ => .slice none 0 0, _, rfl, ⟨?_, fun i hi => absurd hi (by omega), fun i j hi => absurd hi (by omega)⟩, ?_, ?_, ?_⟩
    · exact World.ownsRow.alloc (World.ownsRow_lit (base := w.heap.size) (e := 26) (size := 1) W #[] 0 hW.size (by unfold maxLen; omega) rfl) _
    · have := one_row (W.alloc (.cells #[] 26))
      simp only [World.size_alloc] at this
      exact this.lower (by have := hW.size; omega)
    · intro k e hk
      have e1 : W.heap.size + 1 = k := by simpa [Value.ownBlock] using e
      rcases hk with e2 | ⟨i, hi, _⟩
      · have : W.heap.size = k := by simpa [Value.ownBlock] using e2
        omega
      · omega
    · exact (hW.alloc hW.size _).alloc (by have := hW.size; simp; omega) _
  have FIN := Lib.hid fin
  clear fin
  cases hr : (M.plan b p n S && M.batch m I C)
  · have hk : M.passOk b p n S m I C x = false := by unfold M.passOk; rw [hr]; rfl
    rw [hk]
    clear hk
    go_enter Try.func58, Try.ntmps58
    go_wp2_with fail
    refine (spec_l3Ready _ b p a n c S HL.out HF.out hn a2 m c2 I C HL2.out HF2.out hm).mono ?_
    rw [hr]
    rintro e w1 ⟨rfl, hb1⟩
    go_wp2
    go_ret3
    exact FIN.out w1 (sstep (by go_grown) hb1) b p _
  · obtain ⟨hp, hb⟩ := (Bool.and_eq_true _ _).mp hr
    obtain ⟨s1, s2, s3, s4⟩ := M.plan_shape hp
    have HR := Lib.hid hr
    clear hr hb
    by_cases hx : 0 ≤ x ∧ x ≤ p - 1
    · have hd := Lib.hid (decide_eq_true hx)
      have hk : M.passOk b p n S m I C x = true := by unfold M.passOk; rw [HR.out]; exact decide_eq_true (by omega)
      obtain ⟨q, rfl⟩ := Int.eq_ofNat_of_zero_le hx.1
      obtain ⟨B, rfl⟩ := Int.eq_ofNat_of_zero_le (show 0 ≤ b by omega)
      have hq3 : q ≤ 3 := by omega
      rw [hk, if_pos rfl, if_pos rfl, Int.toNat_natCast, Int.toNat_natCast]
      clear hk hx hp
      go_enter Try.func58, Try.ntmps58
      go_wp2_with fail
      refine (spec_l3Ready _ (B : Int) p a n c S HL.out HF.out hn a2 m c2 I C HL2.out HF2.out hm).mono ?_
      rw [HR.out]
      rintro e w1 ⟨rfl, hb1⟩
      have BL : Hid (Below w.heap.size w w1) := sstep (by go_grown) hb1
      have zz := BL.out.size
      obtain ⟨⟨t0, t1, t2⟩, _⟩ := bx.out.on hb1
      go_wp2_with fail
      refine (spec_l1In q 0 (p - 1) _).mono ?_
      rw [hd.out]
      rintro e w2 ⟨rfl, rfl⟩
      go_wp2_with fail
      refine (spec_l3Pass _ B p a n c S (HL.out.on hb1) hn a2 m c2 I C (HL2.out.on hb1) hm q s1 s2 hq3).mono ?_
      rintro e w3 ⟨G, V, u, rfl, m3, r3, h3, hb3⟩
      go_wp2
      go_ret3
      exact ⟨_, V, _, rfl, m3.lower zz, r3.lower zz, h3, sstep BL.out hb3⟩
    · have hd := Lib.hid (decide_eq_false hx)
      have hk : M.passOk b p n S m I C x = false := by unfold M.passOk; rw [HR.out]; exact decide_eq_false (by omega)
      rw [hk]
      clear hk hx hp
      go_enter Try.func58, Try.ntmps58
      go_wp2_with fail
      refine (spec_l3Ready _ b p a n c S HL.out HF.out hn a2 m c2 I C HL2.out HF2.out hm).mono ?_
      rw [HR.out]
      rintro e w1 ⟨rfl, hb1⟩
      obtain ⟨⟨t0, t1, t2⟩, _⟩ := bx.out.on hb1
      go_wp2_with fail
      refine (spec_l1In x 0 (p - 1) _).mono ?_
      rw [hd.out]
      rintro e w2 ⟨rfl, rfl⟩
      go_wp2
      go_ret3
      exact FIN.out w1 (sstep (by go_grown) hb1) b p _

theorem passRet_len {b p : Int} {n : Nat} {S : Nat → ByteArray} {m : Nat} {I : Nat → Int} {C : Nat → ByteArray} {x : Int} : (if M.passOk b p n S m I C x = true then b.toNat else 0) ≤ 16 ∧ (if M.passOk b p n S m I C x = true then M.restTo (M.planKey b n S C x.toNat) I C m else []).length ≤ m := by
  by_cases h : M.passOk b p n S m I C x = true
  · obtain ⟨hp, _⟩ := M.passOk_yes h
    obtain ⟨s1, s2, s3, s4⟩ := M.plan_shape hp
    rw [if_pos h, if_pos h]
    exact ⟨by omega, M.restTo_len _ _ _ _⟩
  · rw [if_neg h, if_neg h]
    exact ⟨by omega, Nat.zero_le _⟩

set_option maxHeartbeats 1000000 in
theorem spec_PlanPass_any (w : World) (b p : Int) (a : Option Addr) (n c : Nat) (S : Nat → ByteArray) (h : Strs w a n S) (hf : SFits n S) (hn : n ≤ 1048576) (a2 : Option Addr) (m c2 : Nat) (I : Nat → Int) (C : Nat → ByteArray) (h2 : Lts w a2 m I C) (hf2 : Fits m I C) (hm : m ≤ 1048576) (x : Int) :
    Calls Try.prog 13 #[.agg #[.int .i64 b, .int .i64 p, .slice a n c], .slice a2 m c2, .int .i64 x] w (PassRet w b p n S m I C x) := by
  have HL := Lib.hid (h.on (below_alloc0 w (.cells #[.int .i64 b, .int .i64 p, .slice a n c] 25)))
  have HL2 := Lib.hid (h2.on (below_alloc0 w (.cells #[.int .i64 b, .int .i64 p, .slice a n c] 25)))
  have HR := Lib.hid (fun W h h2 => spec_PlanPass_raw W b p a n c S h hf hn a2 m c2 I C h2 hf2 hm x)
  obtain ⟨l1, l2⟩ := passRet_len (b := b) (p := p) (n := n) (S := S) (m := m) (I := I) (C := C) (x := x)
  have hlen : Hid (∀ i, (M.binTo (M.planKey b n S C x.toNat) I C m i).length ≤ 1048576) := fun i => by have := M.binTo_len (M.planKey b n S C x.toNat) I C m i; omega
  unfold PassRet at HR ⊢
  obtain ⟨N, hN⟩ : ∃ N, (if M.passOk b p n S m I C x = true then b.toNat else 0) = N := ⟨_, rfl⟩
  obtain ⟨LL, hLL⟩ : ∃ LL, (if M.passOk b p n S m I C x = true then M.restTo (M.planKey b n S C x.toNat) I C m else []) = LL := ⟨_, rfl⟩
  rw [hN, hLL] at HR ⊢
  rw [hN] at l1
  rw [hLL] at l2
  obtain ⟨ok, hok⟩ : ∃ ok, M.passOk b p n S m I C x = ok := ⟨_, rfl⟩
  obtain ⟨MM, hMM⟩ : ∃ MM, M.binTo (M.planKey b n S C x.toNat) I C m = MM := ⟨_, rfl⟩
  rw [hok, hMM] at HR ⊢
  rw [hMM] at hlen
  clear h hf h2 hf2 hN hLL hok hMM
  go_enter Try.func13, Try.ntmps13
  go_wp2_with fail
  refine (HR.out _ HL.out HL2.out).mono ?_
  rintro e w1 ⟨v, V, u, rfl, hm1, hr1, hap, hb1⟩
  have BL : Hid (Below w.heap.size w w1) := sstep (by go_grown) hb1
  have zz := BL.out.size
  have HM := Lib.hid hm1
  obtain ⟨u1, c', hv⟩ : ∃ u c', v = .slice u N c' := by
    rcases hm1.form with ⟨rfl, e⟩ | ⟨g, c', rfl, _⟩
    · exact ⟨_, _, by rw [e]⟩
    · exact ⟨_, _, rfl⟩
  subst hv
  obtain ⟨a3, c3, hu, hlc, hlts⟩ := hr1.form
  subst hu
  have HLT := Lib.hid hlts
  clear hm1 hr1 hap hb1 hlts HL HL2
  go_wp2_with fail
  refine (l9Own_any _ _ _ N V _ HM.out (by omega) (fun i _ => hlen.out i)).mono ?_
  rintro e w2 ⟨G, d2, V2, rfl, hm2, hb2⟩
  have HM2 := Lib.hid hm2
  have HB2 := Lib.hid (sstep BL.out hb2)
  have z2 := hb2.size
  have HLT2 := Lib.hid (HLT.out.on hb2)
  clear hm2 hb2
  go_wp2_with (at_builtin; refine wpList_append_lts _ rfl _ _ rfl w2.heap.size (.slice (some ⟨w2.heap.size, 0, none⟩) 0 0) [] rfl (one_row w2) a3 _ c3 (nI LL) (nC LL) rfl (HLT2.out.on (by go_grown)) (by simp; omega) (by simp) ?_; intro v1 w3 r1 gr1 ho1; have r1' : Row w3 w2.heap.size v1 LL := (by rw [List.nil_append, lst_nI] at r1; exact r1); have o13 : Only w2 w3 (fun _ => False) := (Only.new (S := fun _ => False) (below_alloc0 w2 _)).trans (Only.of_grown gr1) (fun x hx e => by have e2 : x = w2.heap.size := (by simpa [Value.ownBlock] using e); omega); have R1 := Lib.hid r1'; have O13 := Lib.hid o13; clear r1 gr1 ho1 r1' o13)
  go_ret3
  refine ⟨_, V2, _, rfl, (HM2.out.only O13.out (fun _ _ h => h)).lower zz, R1.out.lower (by omega), fun k e hk => ?_, HB2.out.trans (O13.out.below (B := w.heap.size) (fun _ _ _ h => h) (by omega))⟩
  have := (R1.out.lt k e).1
  have := (HM2.out.lt hk).2
  omega
end Go.Proofs.Ytbcoklognedffaa
