/-
  What FaultyPass of the model returns.
-/
import Derived.Test.YthlfbdapkjhmaaaDoorMSpec
import Derived.Test.YthlfbdapkjhmaaaDoorMFaulty
namespace Go.Proofs.YthlfbdapkjhmaaaDoor
open Go.RowKit
open Go.PlainAid (bt get_bt bt_nonneg bt_le)
set_option linter.unusedVariables false

theorem faultyOk_eq {b p : Int} {n : Nat} {S : Nat → ByteArray} {m : Nat} {I' : Nat → Int} {C : Nat → ByteArray} {x : Int} {m3 : Nat} {I B : Nat → Int} : faultyOk b p n S m I' C x m3 I B = ((M.plan b p n S && M.batch m I' C) && decide (0 ≤ x ∧ x ≤ p - 1) && M.mis b p n S m3 I B) := by
  unfold faultyOk
  by_cases h : M.plan b p n S = true ∧ (0 ≤ x ∧ x < p) ∧ M.batch m I' C = true ∧ M.mis b p n S m3 I B = true
  · rw [@decide_eq_true _ (Classical.propDecidable _) h, h.1, h.2.2.1, h.2.2.2, decide_eq_true (show 0 ≤ x ∧ x ≤ p - 1 by have := h.2.1; omega)]
    rfl
  · rw [@decide_eq_false _ (Classical.propDecidable _) h]
    symm
    rw [Bool.eq_false_iff]
    intro e
    simp only [Bool.and_eq_true, decide_eq_true_eq] at e
    exact h ⟨e.1.1.1, ⟨e.1.2.1, by have := e.1.2.2; omega⟩, e.1.1.2, e.2⟩

set_option maxHeartbeats 1000000 in
theorem spec_l7Ready (w : World) (b p : Int) (a : Option Addr) (n c : Nat) (S : Nat → ByteArray) (h : Strs w a n S) (hf : SFits n S) (hn : n ≤ 1048576) (a2 : Option Addr) (m c2 : Nat) (I' : Nat → Int) (C : Nat → ByteArray) (h2 : Lts w a2 m I' C) (hf2 : Fits m I' C) (hm : m ≤ 1048576) (x : Int)
    (a3 : Option Addr) (m3 c3 : Nat) (I B : Nat → Int) (h3 : Mss w a3 m3 I B) (hf3 : MFits m3 I B) (hm3 : m3 ≤ 1048576) :
    Calls Tryd.prog 68 #[.agg #[.int .i64 b, .int .i64 p, .slice a n c], .slice a2 m c2, .int .i64 x, .slice a3 m3 c3] w fun e w' => e = .returned (.bool (faultyOk b p n S m I' C x m3 I B)) ∧ Below w.heap.size w w' := by
  have HL := Lib.hid (h.on (below_alloc0 w (.cells #[.int .i64 b, .int .i64 p, .slice a n c] 34)))
  have HL2 := Lib.hid (h2.on (below_alloc0 w (.cells #[.int .i64 b, .int .i64 p, .slice a n c] 34)))
  have HL3 := Lib.hid (h3.on (below_alloc0 w (.cells #[.int .i64 b, .int .i64 p, .slice a n c] 34)))
  have bx := Lib.hid (tri_made w (.int .i64 b) (.int .i64 p) (.slice a n c) 34)
  have HF := Lib.hid hf
  have HF2 := Lib.hid hf2
  have HF3 := Lib.hid hf3
  clear h hf h2 hf2 h3 hf3
  rw [faultyOk_eq]
  obtain ⟨⟨t0, t1, t2⟩, _⟩ := bx.out
  cases hr : (M.plan b p n S && M.batch m I' C)
  · go_enter Tryd.func68, Tryd.ntmps68
    go_wp2_with fail
    refine (spec_l3Ready _ b p a n c S HL.out HF.out hn a2 m c2 I' C HL2.out HF2.out hm).mono ?_
    rw [hr]
    rintro e w1 ⟨rfl, hb1⟩
    go_wp2
    go_ret
    exact ⟨rfl, sstep (by go_grown) hb1⟩
  · obtain ⟨hp, hb⟩ := (Bool.and_eq_true _ _).mp hr
    obtain ⟨s1, s2, s3, s4⟩ := M.plan_shape hp
    have HR := Lib.hid hr
    clear hr hb hp
    cases hd : decide (0 ≤ x ∧ x ≤ p - 1)
    · have HD := Lib.hid hd
      clear hd
      go_enter Tryd.func68, Tryd.ntmps68
      go_wp2_with fail
      refine (spec_l3Ready _ b p a n c S HL.out HF.out hn a2 m c2 I' C HL2.out HF2.out hm).mono ?_
      rw [HR.out]
      rintro e w1 ⟨rfl, hb1⟩
      clear t0 t1 t2
      obtain ⟨⟨t0, t1, t2⟩, _⟩ := bx.out.on hb1
      go_wp2_with fail
      refine (spec_l1In x 0 (p - 1) _).mono ?_
      rw [HD.out]
      rintro e w2 ⟨rfl, rfl⟩
      go_wp2
      go_ret
      exact ⟨rfl, sstep (by go_grown) hb1⟩
    · have HD := Lib.hid hd
      clear hd
      go_enter Tryd.func68, Tryd.ntmps68
      go_wp2_with fail
      refine (spec_l3Ready _ b p a n c S HL.out HF.out hn a2 m c2 I' C HL2.out HF2.out hm).mono ?_
      rw [HR.out]
      rintro e w1 ⟨rfl, hb1⟩
      clear t0 t1 t2
      obtain ⟨⟨t0, t1, t2⟩, _⟩ := bx.out.on hb1
      go_wp2_with fail
      refine (spec_l1In x 0 (p - 1) _).mono ?_
      rw [HD.out]
      rintro e w2 ⟨rfl, rfl⟩
      go_wp2_with fail
      refine (spec_MissortsValid _ b p a n c S (HL.out.on hb1) HF.out hn a3 m3 c3 I B (HL3.out.on hb1) HF3.out hm3).mono ?_
      rintro e w3 ⟨rfl, hb3⟩
      go_wp2
      go_ret
      exact ⟨rfl, sstep (sstep (by go_grown) hb1) hb3⟩

set_option maxHeartbeats 1000000 in
theorem spec_FaultyPass_raw (w : World) (b p : Int) (a : Option Addr) (n c : Nat) (S : Nat → ByteArray) (h : Strs w a n S) (hf : SFits n S) (hn : n ≤ 1048576) (a2 : Option Addr) (m c2 : Nat) (I' : Nat → Int) (C : Nat → ByteArray) (h2 : Lts w a2 m I' C) (hf2 : Fits m I' C) (hm : m ≤ 1048576) (x : Int)
    (a3 : Option Addr) (m3 c3 : Nat) (I B : Nat → Int) (h3 : Mss w a3 m3 I B) (hf3 : MFits m3 I B) (hm3 : m3 ≤ 1048576) :
    Calls Tryd.prog 44 #[.agg #[.int .i64 b, .int .i64 p, .slice a n c], .slice a2 m c2, .int .i64 x, .slice a3 m3 c3] w
      (PassRes w (faultyOk b p n S m I' C x m3 I B) (faultyN b p n S m I' C x m3 I B) (M.binTo (fkey b n S C x.toNat I' m3 I B) I' C m) (faultyL b p n S m I' C x m3 I B)) := by
  have HL := Lib.hid (h.on (below_alloc0 w (.cells #[.int .i64 b, .int .i64 p, .slice a n c] 34)))
  have HL2 := Lib.hid (h2.on (below_alloc0 w (.cells #[.int .i64 b, .int .i64 p, .slice a n c] 34)))
  have HL3 := Lib.hid (h3.on (below_alloc0 w (.cells #[.int .i64 b, .int .i64 p, .slice a n c] 34)))
  have bx := Lib.hid (tri_made w (.int .i64 b) (.int .i64 p) (.slice a n c) 34)
  have HF := Lib.hid hf
  have HF2 := Lib.hid hf2
  have HF3 := Lib.hid hf3
  clear h hf h2 hf2 h3 hf3
  have fin : ∀ W : World, Below w.heap.size w W → ∀ (MM : Nat → List (Int × ByteArray)), PassRes w false 0 MM [] (.returned (.tuple #[.slice (some ⟨W.heap.size, 0, none⟩) 0 0, .slice (some ⟨W.heap.size + 1, 0, none⟩) 0 0, .bool false])) ((W.alloc (.cells #[] 31)).alloc (.cells #[] 66)) := by
    intro W hW MM
    refine ⟨_, fun _ => .slice none 0 0, _, rfl, ⟨?_, fun i hi => absurd hi (by omega), fun i j hi => absurd hi (by omega)⟩, ?_, ?_, ?_⟩
    · exact World.ownsRow.alloc (World.ownsRow_lit (base := w.heap.size) (e := 31) (size := 1) W #[] 0 hW.size (by unfold maxLen; omega) rfl) _
    · have := one_row (W.alloc (.cells #[] 31))
      simp only [World.size_alloc] at this
      exact this.lower (by have := hW.size; omega)
    · intro k e hk
      have e1 : W.heap.size + 1 = k := by simpa [Value.ownBlock] using e
      rcases hk with e2 | ⟨i, hi, _⟩
      · have : W.heap.size = k := by simpa [Value.ownBlock] using e2
        omega
      · omega
    · exact (hW.alloc hW.size _).alloc (by have := hW.size; simp; omega) _
  have FIN := Lib.hid fin
  clear fin
  obtain ⟨⟨t0, t1, t2⟩, _⟩ := bx.out
  unfold faultyN faultyL
  cases hr : faultyOk b p n S m I' C x m3 I B
  · rw [if_neg (by decide), if_neg (by decide)]
    go_enter Tryd.func44, Tryd.ntmps44
    go_wp2_with fail
    refine (spec_l7Ready _ b p a n c S HL.out HF.out hn a2 m c2 I' C HL2.out HF2.out hm x a3 m3 c3 I B HL3.out HF3.out hm3).mono ?_
    rw [hr]
    rintro e w1 ⟨rfl, hb1⟩
    go_wp2
    go_ret3
    exact FIN.out w1 (sstep (by go_grown) hb1) _
  · have hk := hr
    rw [faultyOk_eq] at hk
    simp only [Bool.and_eq_true, decide_eq_true_eq] at hk
    obtain ⟨⟨⟨hp, hb⟩, hx⟩, hmi⟩ := hk
    obtain ⟨_, hm60, hmt⟩ := M.mis_true hmi
    obtain ⟨s1, s2, s3, s4⟩ := M.plan_shape hp
    have HR := Lib.hid hr
    have HMT := Lib.hid hmt
    obtain ⟨q, rfl⟩ := Int.eq_ofNat_of_zero_le hx.1
    obtain ⟨N, rfl⟩ := Int.eq_ofNat_of_zero_le (show 0 ≤ b by omega)
    have hq3 : q ≤ 3 := by omega
    rw [if_pos rfl, if_pos rfl, Int.toNat_natCast, Int.toNat_natCast]
    clear hr hb hp hx hmi hmt
    go_enter Tryd.func44, Tryd.ntmps44
    go_wp2_with fail
    refine (spec_l7Ready _ (N : Int) p a n c S HL.out HF.out hn a2 m c2 I' C HL2.out HF2.out hm q a3 m3 c3 I B HL3.out HF3.out hm3).mono ?_
    rw [HR.out]
    rintro e w1 ⟨rfl, hb1⟩
    have BL : Hid (Below w.heap.size w w1) := sstep (by go_grown) hb1
    have zz := BL.out.size
    clear t0 t1 t2
    obtain ⟨⟨t0, t1, t2⟩, _⟩ := bx.out.on hb1
    go_wp2_with fail
    refine (spec_l7Faulty _ N p a n c S (HL.out.on hb1) hn a2 m c2 I' C (HL2.out.on hb1) hm q s1 s2 hq3 a3 m3 c3 I B (HL3.out.on hb1) hm3 HMT.out).mono ?_
    rintro e w3 ⟨G, V, u, rfl, m3, r3, h3, hb3⟩
    go_wp2
    go_ret3
    exact ⟨_, V, _, rfl, m3.lower zz, r3.lower zz, h3, sstep BL.out hb3⟩

theorem faulty_len {b p : Int} {n : Nat} {S : Nat → ByteArray} {m : Nat} {I' : Nat → Int} {C : Nat → ByteArray} {x : Int} {m3 : Nat} {I B : Nat → Int} : faultyN b p n S m I' C x m3 I B ≤ 16 ∧ (faultyL b p n S m I' C x m3 I B).length ≤ m := by
  unfold faultyN faultyL
  cases h : faultyOk b p n S m I' C x m3 I B
  · rw [if_neg (by decide), if_neg (by decide)]
    exact ⟨by omega, Nat.zero_le _⟩
  · rw [faultyOk_eq] at h
    simp only [Bool.and_eq_true, decide_eq_true_eq] at h
    obtain ⟨s1, s2, s3, s4⟩ := M.plan_shape h.1.1.1
    rw [if_pos rfl, if_pos rfl]
    exact ⟨by omega, M.restTo_len _ _ _ _⟩


set_option maxHeartbeats 1000000 in
theorem spec_FaultyPass (w : World) (b p : Int) (a : Option Addr) (n c : Nat) (S : Nat → ByteArray) (h : Strs w a n S) (hf : SFits n S) (hn : n ≤ 1048576) (a2 : Option Addr) (m c2 : Nat) (I' : Nat → Int) (C : Nat → ByteArray) (h2 : Lts w a2 m I' C) (hf2 : Fits m I' C) (hm : m ≤ 1048576) (x : Int)
    (a3 : Option Addr) (m3 c3 : Nat) (I B : Nat → Int) (h3 : Mss w a3 m3 I B) (hf3 : MFits m3 I B) (hm3 : m3 ≤ 1048576) :
    Calls Tryd.prog 12 #[.agg #[.int .i64 b, .int .i64 p, .slice a n c], .slice a2 m c2, .int .i64 x, .slice a3 m3 c3] w
      (PassRes w (faultyOk b p n S m I' C x m3 I B) (faultyN b p n S m I' C x m3 I B) (M.binTo (fkey b n S C x.toNat I' m3 I B) I' C m) (faultyL b p n S m I' C x m3 I B)) := by
  have HL := Lib.hid (h.on (below_alloc0 w (.cells #[.int .i64 b, .int .i64 p, .slice a n c] 34)))
  have HL2 := Lib.hid (h2.on (below_alloc0 w (.cells #[.int .i64 b, .int .i64 p, .slice a n c] 34)))
  have HL3 := Lib.hid (h3.on (below_alloc0 w (.cells #[.int .i64 b, .int .i64 p, .slice a n c] 34)))
  have HR := Lib.hid (fun W h h2 h3 => spec_FaultyPass_raw W b p a n c S h hf hn a2 m c2 I' C h2 hf2 hm x a3 m3 c3 I B h3 hf3 hm3)
  obtain ⟨l1, l2⟩ := faulty_len (b := b) (p := p) (n := n) (S := S) (m := m) (I' := I') (C := C) (x := x) (m3 := m3) (I := I) (B := B)
  have hlen : Hid (∀ i, (M.binTo (fkey b n S C x.toNat I' m3 I B) I' C m i).length ≤ 1048576) := fun i => by have := M.binTo_len (fkey b n S C x.toNat I' m3 I B) I' C m i; omega
  obtain ⟨N, hN⟩ : ∃ N, faultyN b p n S m I' C x m3 I B = N := ⟨_, rfl⟩
  obtain ⟨LL, hLL⟩ : ∃ LL, faultyL b p n S m I' C x m3 I B = LL := ⟨_, rfl⟩
  rw [hN, hLL] at HR ⊢
  rw [hN] at l1
  rw [hLL] at l2
  obtain ⟨ok, hok⟩ : ∃ ok, faultyOk b p n S m I' C x m3 I B = ok := ⟨_, rfl⟩
  obtain ⟨MM, hMM⟩ : ∃ MM, M.binTo (fkey b n S C x.toNat I' m3 I B) I' C m = MM := ⟨_, rfl⟩
  rw [hok, hMM] at HR ⊢
  rw [hMM] at hlen
  clear h hf h2 hf2 h3 hf3 hN hLL hok hMM
  go_enter Tryd.func12, Tryd.ntmps12
  go_wp2_with fail
  refine (HR.out _ HL.out HL2.out HL3.out).mono ?_
  rintro e w1 ⟨v, V, u, rfl, hm1, hr1, hap, hb1⟩
  have BL : Hid (Below w.heap.size w w1) := sstep (by go_grown) hb1
  have zz := BL.out.size
  have HM := Lib.hid hm1
  obtain ⟨u1, c', hv⟩ : ∃ u c', v = .slice u N c' := by
    rcases hm1.form with ⟨rfl, e⟩ | ⟨g, c', rfl, _⟩
    · exact ⟨_, _, by rw [e]⟩
    · exact ⟨_, _, rfl⟩
  subst hv
  obtain ⟨a4, c4, hu, hlc, hlts⟩ := hr1.form
  subst hu
  have HLT := Lib.hid hlts
  clear hm1 hr1 hap hb1 hlts HL HL2 HL3
  go_wp2_with fail
  refine (l9Own_any _ _ _ N V _ HM.out (by omega) (fun i _ => hlen.out i)).mono ?_
  rintro e w2 ⟨G, d2, V2, rfl, hm2, hb2⟩
  have HM2 := Lib.hid hm2
  have HB2 := Lib.hid (sstep BL.out hb2)
  have z2 := hb2.size
  have HLT2 := Lib.hid (HLT.out.on hb2)
  clear hm2 hb2
  go_wp2_with (at_builtin; refine wpList_append_lts _ rfl _ _ rfl w2.heap.size (.slice (some ⟨w2.heap.size, 0, none⟩) 0 0) [] rfl (one_row w2) a4 _ c4 (nI LL) (nC LL) rfl (HLT2.out.on (by go_grown)) (by simp; omega) (by simp) ?_; intro v1 w3 r1 gr1 ho1; have r1' : Row w3 w2.heap.size v1 LL := (by rw [List.nil_append, lst_nI] at r1; exact r1); have o13 : Only w2 w3 (fun _ => False) := (Only.new (S := fun _ => False) (below_alloc0 w2 _)).trans (Only.of_grown gr1) (fun x hx e => by have e2 : x = w2.heap.size := (by simpa [Value.ownBlock] using e); omega); have R1 := Lib.hid r1'; have O13 := Lib.hid o13; clear r1 gr1 ho1 r1' o13)
  go_ret3
  refine ⟨_, V2, _, rfl, (HM2.out.only O13.out (fun _ _ h => h)).lower zz, R1.out.lower (by omega), fun k e hk => ?_, HB2.out.trans (O13.out.below (B := w.heap.size) (fun _ _ _ h => h) (by omega))⟩
  have := (R1.out.lt k e).1
  have := (HM2.out.lt hk).2
  omega
end Go.Proofs.YthlfbdapkjhmaaaDoor
