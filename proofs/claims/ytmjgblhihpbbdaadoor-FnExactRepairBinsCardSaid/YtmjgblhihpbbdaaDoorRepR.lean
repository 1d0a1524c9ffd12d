/-
  What RepairBins of the model returns.
-/
import Derived.Test.YtmjgblhihpbbdaaDoorRepS
import Derived.Test.YtmjgblhihpbbdaaDoorRepI
import Derived.Test.YtmjgblhihpbbdaaDoorMatL
namespace Go.Proofs.YtmjgblhihpbbdaaDoor
open Go.RowKit
open Go.PlainAid (bt get_bt bt_nonneg bt_le)
set_option linter.unusedVariables false

theorem flat_tot (F : Nat → List (Int × ByteArray)) : ∀ N, (M.flat F N).length = tot F N
  | 0 => rfl
  | N + 1 => by
    show (M.flat F N ++ F N).length = tot F N + (F N).length
    rw [List.length_append, flat_tot F N]
theorem tot_addTo (R B : Nat → List (Int × ByteArray)) : ∀ N, tot (addTo R B) N = tot R N + tot B N
  | 0 => rfl
  | N + 1 => by
    show tot (addTo R B) N + (R N ++ B N).length = (tot R N + (R N).length) + (tot B N + (B N).length)
    rw [tot_addTo R B N, List.length_append]
    omega
theorem tot_one (F : Nat → List (Int × ByteArray)) : ∀ {N i : Nat}, i < N → (F i).length ≤ tot F N
  | 0, _, h => absurd h (by omega)
  | N + 1, i, h => by
    show _ ≤ tot F N + (F N).length
    by_cases e : i = N
    · subst e; omega
    · have := tot_one F (N := N) (i := i) (by omega)
      omega
theorem rep_len (b p : Int) (n : Nat) (S : Nat → ByteArray) (N : Nat) (MM : Nat → List (Int × ByteArray)) (x : Int) :
    repN b p n S N MM x ≤ 16 ∧ tot (repM b n S x.toNat MM N) (repN b p n S N MM x) ≤ 200 ∧ (∀ i, i < repN b p n S N MM x → (repM b n S x.toNat MM N i).length ≤ 200) ∧ (repR b p n S N MM x).length ≤ 200 := by
  have key : tot (repM b n S x.toNat MM N) (repN b p n S N MM x) ≤ 200 ∧ (repR b p n S N MM x).length ≤ 200 ∧ repN b p n S N MM x ≤ 16 := by
    unfold repN repR
    cases h : binsAll b p n S N MM x
    · rw [if_neg (by decide), if_neg (by decide)]
      exact ⟨Nat.zero_le _, Nat.zero_le _, Nat.zero_le _⟩
    · rw [if_pos rfl, if_pos rfl]
      have hk := h
      unfold binsAll at hk
      simp only [Bool.and_eq_true, decide_eq_true_eq] at hk
      have hbo := hk.1.2
      have hps := M.plan_shape hk.1.1
      unfold binsOk at hbo
      rw [Bool.and_eq_true] at hbo
      have hNb : (N : Int) = b := of_decide_eq_true hbo.1
      have h60 := ((batchL_list _).1 hbo.2).2.2
      have hw : (M.flat (wrongL b n S x.toNat MM) N).length ≤ 60 := Nat.le_trans (flat_sub (fun k => List.length_filter_le _ _) N) h60
      have hr : (M.flat (rightL b n S x.toNat MM) N).length ≤ 60 := Nat.le_trans (flat_sub (fun k => List.length_filter_le _ _) N) h60
      rw [flat_tot] at hr
      refine ⟨?_, ?_, by have := hps.2.1; omega⟩
      · unfold repM
        rw [tot_addTo]
        have := tot_binTo (M.planKey b n S (nC (M.flat (wrongL b n S x.toNat MM) N)) x.toNat) (nI (M.flat (wrongL b n S x.toNat MM) N)) (nC (M.flat (wrongL b n S x.toNat MM) N)) N (M.flat (wrongL b n S x.toNat MM) N).length
        omega
      · unfold repL
        have := M.restTo_len (M.planKey b n S (nC (M.flat (wrongL b n S x.toNat MM) N)) x.toNat) (nI (M.flat (wrongL b n S x.toNat MM) N)) (nC (M.flat (wrongL b n S x.toNat MM) N)) (M.flat (wrongL b n S x.toNat MM) N).length
        omega
  exact ⟨key.2.2, key.1, fun i hi => Nat.le_trans (tot_one _ hi) key.1, key.2.1⟩

set_option maxHeartbeats 1000000 in
theorem spec_RepairBins_raw (w : World) (b p : Int) (a : Option Addr) (n c : Nat) (S : Nat → ByteArray) (h : Strs w a n S) (hf : SFits n S) (hn : n ≤ 1048576) (base : Nat) (v : Value) (N : Nat) (V : Nat → Value) (MM : Nat → List (Int × ByteArray)) (h2 : Mat w base v N V MM) (hN : N ≤ 1048576) (hl : (M.flat MM N).length ≤ 1048576) (hf2 : Fits (M.flat MM N).length (nI (M.flat MM N)) (nC (M.flat MM N))) (x : Int) :
    Calls Tryd.prog 34 #[.agg #[.int .i64 b, .int .i64 p, .slice a n c], v, .int .i64 x] w
      (PassRes w (binsAll b p n S N MM x) (repN b p n S N MM x) (repM b n S x.toNat MM N) (repR b p n S N MM x)) := by
  obtain ⟨u0, c2, hv⟩ : ∃ u c, v = .slice u N c := by
    rcases h2.form with ⟨rfl, rfl⟩ | ⟨g, c, rfl, _⟩
    · exact ⟨_, _, rfl⟩
    · exact ⟨_, _, rfl⟩
  subst hv
  have HL := Lib.hid (h.on (below_alloc0 w (.cells #[.int .i64 b, .int .i64 p, .slice a n c] 32)))
  have HL2 := Lib.hid (h2.on (below_alloc0 w (.cells #[.int .i64 b, .int .i64 p, .slice a n c] 32)))
  have bx := Lib.hid (tri_made w (.int .i64 b) (.int .i64 p) (.slice a n c) 32)
  have HF := Lib.hid hf
  have HF2 := Lib.hid hf2
  clear h hf h2 hf2
  have fin : ∀ W : World, Below w.heap.size w W → ∀ (MM : Nat → List (Int × ByteArray)), PassRes w false 0 MM [] (.returned (.tuple #[.slice (some ⟨W.heap.size, 0, none⟩) 0 0, .slice (some ⟨W.heap.size + 1, 0, none⟩) 0 0, .bool false])) ((W.alloc (.cells #[] 29)).alloc (.cells #[] 66)) := by
    intro W hW MM
    refine ⟨_, fun _ => .slice none 0 0, _, rfl, ⟨?_, fun i hi => absurd hi (by omega), fun i j hi => absurd hi (by omega)⟩, ?_, ?_, ?_⟩
    · exact World.ownsRow.alloc (World.ownsRow_lit (base := w.heap.size) (e := 29) (size := 1) W #[] 0 hW.size (by unfold maxLen; omega) rfl) _
    · have := one_row (W.alloc (.cells #[] 29))
      simp only [World.size_alloc] at this
      exact this.lower (by have := hW.size; omega)
    · intro k e hk
      have e1 : W.heap.size + 1 = k := by simpa [Value.ownBlock] using e
      rcases hk with e2 | ⟨i, hi, _⟩
      · have : W.heap.size = k := by simpa [Value.ownBlock] using e2
        omega
      · omega
    · exact (hW.alloc hW.size _).alloc (by have := hW.size; simp; omega) _
  have FIN := Lib.hid fin
  clear fin
  obtain ⟨⟨t0, t1, t2⟩, _⟩ := bx.out
  unfold repN repR
  cases hr : binsAll b p n S N MM x
  · rw [if_neg (by decide), if_neg (by decide)]
    go_enter Tryd.func34, Tryd.ntmps34
    go_wp2_with fail
    refine (spec_l7Bins _ b p a n c S HL.out HF.out hn base _ N V MM HL2.out hN hl HF2.out x).mono ?_
    rw [hr]
    rintro e w1 ⟨rfl, hb1⟩
    go_wp2
    go_ret3
    exact FIN.out w1 (sstep (by go_grown) hb1) _
  · have hk := hr
    unfold binsAll at hk
    simp only [Bool.and_eq_true, decide_eq_true_eq] at hk
    obtain ⟨⟨hp, hbo⟩, hx0, hx1⟩ := hk
    obtain ⟨s1, s2, s3, s4⟩ := M.plan_shape hp
    unfold binsOk at hbo
    rw [Bool.and_eq_true] at hbo
    have hNb : (N : Int) = b := of_decide_eq_true hbo.1
    have h60 := ((batchL_list _).1 hbo.2).2.2
    have HR := Lib.hid hr
    obtain ⟨q, rfl⟩ := Int.eq_ofNat_of_zero_le hx0
    have hq3 : q ≤ 3 := by omega
    rw [if_pos rfl, if_pos rfl, Int.toNat_natCast]
    clear hr hbo hp
    go_enter Tryd.func34, Tryd.ntmps34
    go_wp2_with fail
    refine (spec_l7Bins _ b p a n c S HL.out HF.out hn base _ N V MM HL2.out hN hl HF2.out q).mono ?_
    rw [HR.out]
    rintro e w1 ⟨rfl, hb1⟩
    have BL : Hid (Below w.heap.size w w1) := sstep (by go_grown) hb1
    have zz := BL.out.size
    clear t0 t1 t2
    obtain ⟨⟨t0, t1, t2⟩, _⟩ := bx.out.on hb1
    go_wp2_with fail
    refine (spec_l7Repair _ b p a n c S (HL.out.on hb1) hn q s1 s2 hq3 base _ N V MM (HL2.out.on hb1) ⟨by omega, by omega, hNb⟩ h60).mono ?_
    rintro e w3 ⟨G, V', u, rfl, m3, r3, h3, hb3⟩
    go_wp2
    go_ret3
    exact ⟨_, V', _, rfl, m3.lower zz, r3.lower zz, h3, sstep BL.out hb3⟩

set_option maxHeartbeats 1000000 in
theorem spec_RepairBins (w : World) (b p : Int) (a : Option Addr) (n c : Nat) (S : Nat → ByteArray) (h : Strs w a n S) (hf : SFits n S) (hn : n ≤ 1048576) (base : Nat) (v : Value) (N : Nat) (V : Nat → Value) (MM : Nat → List (Int × ByteArray)) (h2 : Mat w base v N V MM) (hN : N ≤ 1048576) (hl : (M.flat MM N).length ≤ 1048576) (hf2 : Fits (M.flat MM N).length (nI (M.flat MM N)) (nC (M.flat MM N))) (x : Int) :
    Calls Tryd.prog 9 #[.agg #[.int .i64 b, .int .i64 p, .slice a n c], v, .int .i64 x] w
      (PassRes w (binsAll b p n S N MM x) (repN b p n S N MM x) (repM b n S x.toNat MM N) (repR b p n S N MM x)) := by
  obtain ⟨u0, c2, hv⟩ : ∃ u c, v = .slice u N c := by
    rcases h2.form with ⟨rfl, rfl⟩ | ⟨g, c, rfl, _⟩
    · exact ⟨_, _, rfl⟩
    · exact ⟨_, _, rfl⟩
  subst hv
  have HL := Lib.hid (h.on (below_alloc0 w (.cells #[.int .i64 b, .int .i64 p, .slice a n c] 32)))
  have HL2 := Lib.hid (h2.on (below_alloc0 w (.cells #[.int .i64 b, .int .i64 p, .slice a n c] 32)))
  have HR := Lib.hid (fun W h (h2 : Mat W base (.slice u0 N c2) N V MM) => spec_RepairBins_raw W b p a n c S h hf hn base _ N V MM h2 hN hl hf2 x)
  obtain ⟨l1, l0, l3, l2⟩ := rep_len b p n S N MM x
  have hlen : Hid (∀ i, i < repN b p n S N MM x → (repM b n S x.toNat MM N i).length ≤ 1048576) := fun i hi => by have := l3 i hi; omega
  obtain ⟨N2, hN2⟩ : ∃ N2, repN b p n S N MM x = N2 := ⟨_, rfl⟩
  obtain ⟨LL, hLL⟩ : ∃ LL, repR b p n S N MM x = LL := ⟨_, rfl⟩
  rw [hN2, hLL] at HR ⊢
  rw [hN2] at l1 hlen
  rw [hLL] at l2
  obtain ⟨ok, hok⟩ : ∃ ok, binsAll b p n S N MM x = ok := ⟨_, rfl⟩
  obtain ⟨RM, hMM⟩ : ∃ RM, repM b n S x.toNat MM N = RM := ⟨_, rfl⟩
  rw [hok, hMM] at HR ⊢
  rw [hMM] at hlen
  clear h hf h2 hf2 hN2 hLL hok hMM l0 l3
  go_enter Tryd.func9, Tryd.ntmps9
  go_wp2_with fail
  refine (HR.out _ HL.out HL2.out).mono ?_
  rintro e w1 ⟨v, V1, u, rfl, hm1, hr1, hap, hb1⟩
  have BL : Hid (Below w.heap.size w w1) := sstep (by go_grown) hb1
  have zz := BL.out.size
  have HM := Lib.hid hm1
  obtain ⟨u1, c', hv⟩ : ∃ u c', v = .slice u N2 c' := by
    rcases hm1.form with ⟨rfl, e⟩ | ⟨g, c', rfl, _⟩
    · exact ⟨_, _, by rw [e]⟩
    · exact ⟨_, _, rfl⟩
  subst hv
  obtain ⟨a4, c4, hu, hlc, hlts⟩ := hr1.form
  subst hu
  have HLT := Lib.hid hlts
  clear hm1 hr1 hap hb1 hlts HL HL2
  go_wp2_with fail
  refine (l9Own_any _ _ _ N2 V1 _ HM.out (by omega) (fun i hi => hlen.out i hi)).mono ?_
  rintro e w2 ⟨G, d2, V2, rfl, hm2, hb2⟩
  have HM2 := Lib.hid hm2
  have HB2 := Lib.hid (sstep BL.out hb2)
  have z2 := hb2.size
  have HLT2 := Lib.hid (HLT.out.on hb2)
  clear hm2 hb2
  go_wp2_with (at_builtin; refine wpList_append_lts _ rfl _ _ rfl w2.heap.size (.slice (some ⟨w2.heap.size, 0, none⟩) 0 0) [] rfl (one_row w2) a4 _ c4 (nI LL) (nC LL) rfl (HLT2.out.on (by go_grown)) (by simp; omega) (by simp) ?_; intro v1 w3 r1 gr1 ho1; have r1' : Row w3 w2.heap.size v1 LL := (by rw [List.nil_append, lst_nI] at r1; exact r1); have o13 : Only w2 w3 (fun _ => False) := (Only.new (S := fun _ => False) (below_alloc0 w2 _)).trans (Only.of_grown gr1) (fun x hx e => by have e2 : x = w2.heap.size := (by simpa [Value.ownBlock] using e); omega); have R1 := Lib.hid r1'; have O13 := Lib.hid o13; clear r1 gr1 ho1 r1' o13)
  go_ret3
  refine ⟨_, V2, _, rfl, (HM2.out.only O13.out (fun _ _ h => h)).lower zz, R1.out.lower (by omega), fun k e hk => ?_, HB2.out.trans (O13.out.below (B := w.heap.size) (fun _ _ _ h => h) (by omega))⟩
  have := (R1.out.lt k e).1
  have := (HM2.out.lt hk).2
  omega
end Go.Proofs.YtmjgblhihpbbdaaDoor
