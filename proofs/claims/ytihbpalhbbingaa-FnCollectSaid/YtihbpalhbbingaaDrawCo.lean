/-
  Drawn bins: DrawCollectBins. One bin may lie in two places.
-/
import Derived.Test.YtihbpalhbbingaaDrawTz
import Derived.Test.YtihbpalhbbingaaDrawS
import Derived.Test.YtihbpalhbbingaaTryN
import Derived.Test.YtihbpalhbbingaaBinsA
namespace Go.Proofs.Ytihbpalhbbingaa
open Go.RowKit
set_option linter.unusedVariables false

theorem IsRow.later {k : IntKind} {w w' : World} {a : Option Addr} {l c : Nat} {z : List Int} (h : IsRow k w a l c z) (hb : Below w.heap.size w w') : IsRow k w' a l c z := by
  rcases h with h | ⟨x, hx, q1, q2, q3, q4, q5⟩
  · exact Or.inl h
  · exact Or.inr ⟨x, hx, q1, q2, q3, fun i hi => (hb.cell (p := x.add i) (World.block_lt_of_cell? _ _ (q4 i hi))).trans (q4 i hi), q5⟩
theorem sz_fit {n : Nat} {MM : Nat → List (Int × ByteArray)} (hn : n ≤ 61) (h : ∀ i, i < n → (MM i).length ≤ 61 ∧ FitL (MM i)) : Sz n MM := by
  refine ⟨by omega, ?_, (fitL_iff _).2 fun x hx => ?_⟩
  · rw [tot_flat]
    have := tot_le61 (M := MM) (n := n) (fun i hi => (h i hi).1)
    omega
  · obtain ⟨i, hi, hm⟩ := mem_flat.1 hx
    exact (fitL_iff _).1 (h i hi).2 x hm
theorem bins_fit {n : Nat} {I : Nat → Int} {C : Nat → ByteArray} {x : Int} (h : M.binOk n I C x = true) : ∀ i, i < 10 → (M.bins I C x.toNat n i).length ≤ 61 ∧ FitL (M.bins I C x.toNat n i) := fun i hi => by
  obtain ⟨h1, h2, h3⟩ := M.binOk_yes h
  have hB := sub_batch (pass_batch h1 (x := x.toNat) (by omega)) (row_sub (MM := M.bins I C x.toNat n) hi)
  exact ⟨by have := hB.2.2; omega, hB.fits⟩
def BinsDrawn (w : World) (e : Ending) (w' : World) : Prop := ∃ (v : Value) (n base : Nat) (V : Nat → Value) (MM : Nat → List (Int × ByteArray)), e = .returned v ∧ MatR w' base v n V MM ∧ n ≤ 61 ∧ (∀ i, i < n → (MM i).length ≤ 61 ∧ FitL (MM i)) ∧ Below w.heap.size w w'
set_option maxHeartbeats 4000000 in
set_option maxRecDepth 100000 in
theorem DrawCollectBins_any (a : Option Addr) (l k : Nat) (z : List Int) (w : World) (h : IsRow .u8 w a l k z) :
    Calls Try.prog 7 #[.slice a l k] w (BinsDrawn w) := by
  have HW := Lib.hid h
  go_enter Try.func7, Try.ntmps7
  go_wp2_with fail
  refine (open_any a l k z w h).mono ?_
  rintro e w1 ⟨r, rfl, rd1, b1, hwr⟩
  have hr1 := rd1.lt
  have HW1 := Lib.hid (IsRow.later HW.out b1)
  have B1 := Lib.hid b1
  have RD1 := Lib.hid rd1
  clear b1 rd1 h HW
  go_wp2_with fail
  refine (DrawBinPass_any a l k z w1 HW1.out).mono ?_
  rintro e w2 ⟨v, x, rfl, a2, n, c, I, C, rfl, lt, fi, hn, b2⟩
  have LT := Lib.hid lt
  have FI := Lib.hid fi
  have B2 := Lib.hid (sstep B1.out b2)
  have RD2 := Lib.hid (RD1.out.below b2)
  clear lt fi b2 B1 RD1 HW1
  go_wp2_with fail
  refine (spec_BinPass_any w2 a2 n c I C LT.out FI.out (by omega) x).mono ?_
  have HBF := Lib.hid (fun h => bins_fit (n := n) (I := I) (C := C) (x := x) h)
  obtain ⟨ok, hok⟩ : ∃ ok, M.binOk n I C x = ok := ⟨_, rfl⟩
  obtain ⟨MM, hMM⟩ : ∃ MM, M.bins I C x.toNat n = MM := ⟨_, rfl⟩
  rw [hok, hMM] at HBF ⊢
  rintro e w3 ⟨v3, V, rfl, m3, b3⟩
  have hz3 := b3.size
  have hr2 := RD2.out.lt
  have HM := Lib.hid m3
  have B3 := Lib.hid (sstep B2.out b3)
  have RD3 := Lib.hid (RD2.out.below b3)
  clear m3 b3 B2 RD2 LT FI hok hMM
  cases ok
  · rw [if_neg (by decide)] at HM
    obtain ⟨u3, c3, rfl⟩ := mat_slice HM.out
    have HR : Hid (MatR w3 w2.heap.size (.slice u3 0 c3) 0 V MM) := HM.out.r
    have HF0 : Hid (∀ i, i < 0 → (MM i).length ≤ 61 ∧ FitL (MM i)) := fun i hi => absurd hi (by omega)
    clear HM HBF
    go_wp2_with fail
    refine (pick_sg _ _ _ r _ (Sg.start RD3.out) (by omega) (by omega) (by omega)).mono ?_
    rintro e w8 ⟨q, rfl, q0, q1, sg8⟩
    have HM8 := Lib.hid (HR.out.only sg8.only (fun k hk e => by have := (HR.out.lt hk).1; omega))
    have RD8 := Lib.hid sg8.1
    have hr8 := RD3.out.lt
    have B8 := Lib.hid (B3.out.trans ((sg8.below_r hr8).mono hwr))
    clear sg8 RD3 B3
    cases e8 : (q == 0)
    · go_wp2
      go_ret
      exact ⟨_, 0, _, V, MM, rfl, HM8.out, by omega, HF0.out, B8.out⟩
    · clear HM8
      go_wp2_with fail
      refine (num_sg _ [60, 61] w8.heap.size _ r _ ((Sg.start RD8.out).alloc _) (by omega) (by decide) (by decide) (by have := RD8.out.lt; omega) (cells_int [60, 61] _ w8)).mono ?_
      rintro e w9 ⟨y, rfl, hy, sg9⟩
      have hy2 := (show ∀ y ∈ [(60 : Int), 61], 0 ≤ y ∧ y ≤ 61 from by decide) y hy
      obtain ⟨y, rfl⟩ := Int.eq_ofNat_of_zero_le hy2.1
      have hr9 := RD8.out.lt
      have B9 := Lib.hid (B8.out.trans ((sg9.below_r hr9).mono hwr))
      obtain ⟨hr, hmk⟩ := mat_made w9 y (by omega) 23 Try.underlying23 .i64 .i64
      have HMK := Lib.hid hmk
      clear hy sg9 hmk B8 RD8
      go_wp2
      go_ret
      exact ⟨_, y, _, _, _, rfl, HMK.out.r, by omega, fun i hi => ⟨Nat.zero_le _, fun j hj => absurd hj (by simp)⟩, B9.out.alloc (by have := B9.out.size; omega) _⟩
  · rw [if_pos rfl] at HM
    have HF10 := Lib.hid (HBF.out rfl)
    rcases HM.out.form with ⟨_, e⟩ | ⟨g, c3, rfl, hbg, hgl, hgc⟩
    · omega
    clear HBF
    go_wp2_with fail
    refine (pick_sg _ _ _ r _ (Sg.start RD3.out) (by omega) (by omega) (by omega)).mono ?_
    rintro e w4 ⟨t, rfl, t0, t1, sg4⟩
    have HM4 : Hid (Mat w4 w2.heap.size (.slice (some ⟨g, 0, none⟩) 10 c3) 10 V MM) := HM.out.only sg4.only (fun k hk e => by have := (HM.out.lt hk).1; omega)
    have RD4 := Lib.hid sg4.1
    have hr3 := RD3.out.lt
    have B4 := Lib.hid (B3.out.trans ((sg4.below_r hr3).mono hwr))
    have hz4 := sg4.2.size
    clear sg4 HM RD3 B3
    cases e0 : (t == 0)
    · have HR : Hid (MatR w4 w2.heap.size (.slice (some ⟨g, 0, none⟩) 10 c3) 10 V MM) := HM4.out.r
      clear HM4
      go_wp2_with fail
      refine (pick_sg _ _ _ r _ (Sg.start RD4.out) (by omega) (by omega) (by omega)).mono ?_
      rintro e w8 ⟨q, rfl, q0, q1, sg8⟩
      have HM8 := Lib.hid (HR.out.only sg8.only (fun k hk e => by have := (HR.out.lt hk).1; omega))
      have RD8 := Lib.hid sg8.1
      have hr8 := RD4.out.lt
      have B8 := Lib.hid (B4.out.trans ((sg8.below_r hr8).mono hwr))
      clear sg8 RD4 B4
      cases e8 : (q == 0)
      · go_wp2
        go_ret
        exact ⟨_, 10, _, V, MM, rfl, HM8.out, by omega, HF10.out, B8.out⟩
      · clear HM8
        go_wp2_with fail
        refine (num_sg _ [60, 61] w8.heap.size _ r _ ((Sg.start RD8.out).alloc _) (by omega) (by decide) (by decide) (by have := RD8.out.lt; omega) (cells_int [60, 61] _ w8)).mono ?_
        rintro e w9 ⟨y, rfl, hy, sg9⟩
        have hy2 := (show ∀ y ∈ [(60 : Int), 61], 0 ≤ y ∧ y ≤ 61 from by decide) y hy
        obtain ⟨y, rfl⟩ := Int.eq_ofNat_of_zero_le hy2.1
        have hr9 := RD8.out.lt
        have B9 := Lib.hid (B8.out.trans ((sg9.below_r hr9).mono hwr))
        obtain ⟨hr, hmk⟩ := mat_made w9 y (by omega) 23 Try.underlying23 .i64 .i64
        have HMK := Lib.hid hmk
        clear hy sg9 hmk B8 RD8
        go_wp2
        go_ret
        exact ⟨_, y, _, _, _, rfl, HMK.out.r, by omega, fun i hi => ⟨Nat.zero_le _, fun j hj => absurd hj (by simp)⟩, B9.out.alloc (by have := B9.out.size; omega) _⟩
    · go_wp2_with fail
      refine (pick_sg _ _ _ r _ (Sg.start RD4.out) (by omega) (by omega) (by omega)).mono ?_
      rintro e w5 ⟨j, rfl, j0, j1, sg5⟩
      obtain ⟨j, rfl⟩ := Int.eq_ofNat_of_zero_le j0
      have hj : j < 10 := by omega
      have HM5 : Hid (Mat w5 w2.heap.size (.slice (some ⟨g, 0, none⟩) 10 c3) 10 V MM) := HM4.out.only sg5.only (fun k hk e => by have := (HM4.out.lt hk).1; omega)
      have RD5 := Lib.hid sg5.1
      have hr4 := RD4.out.lt
      have B5 := Lib.hid (B4.out.trans ((sg5.below_r hr4).mono hwr))
      have hz5 := sg5.2.size
      clear sg5 HM4 RD4 B4
      obtain ⟨_, _, e, c0, f0⟩ := HM5.out.cell hj
      cases e
      obtain ⟨a, d, hv, _, _⟩ := (HM5.out.2.1 j hj).form
      rw [hv] at c0
      have HVO : Hid (∀ i, i < 10 → ∀ k, (Value.slice (some ⟨g, 0, none⟩) 10 c3).ownBlock = some k → (V i).ownBlock ≠ some k) := fun i hi k hk => HM5.out.outer hi hk
      have HR0 : Hid (Row w5 w2.heap.size (.slice a (MM j).length d) (MM j)) := by rw [Hid, ← hv]; exact HM5.out.2.1 j hj
      have HX0 : Hid (∀ k, (Value.slice (some ⟨g, 0, none⟩) 10 c3).ownBlock = some k → (Value.slice a (MM j).length d).ownBlock ≠ some k) := fun k hk => by rw [← hv]; exact HM5.out.outer hj hk
      clear hv f0
      obtain ⟨i0, hi, hz0, hz1', hz3'⟩ := info_parts info_row
      obtain ⟨m0, hm0⟩ : ∃ m0, (MM j).length = m0 := ⟨_, rfl⟩
      rw [hm0] at c0 HR0 HX0
      go_wp2_with (at_builtin; refine wpList_append_own_at _ rfl _ _ 23 rfl w2.heap.size 25 i0 _ 1 24 Try.underlying23 hi hz0 hz1' hz3' rfl (by decide) (.slice (some ⟨g, 0, none⟩) 10 c3) 10 (vcells V 10) rfl (World.ownsRow.alloc HM5.out.1 _) ⟨w5.heap.size, 0, none⟩ 1 1 [.slice a m0 d] rfl rfl (by intro j x hx; match j, hx with | 0, hx => (simp at hx; subst hx; simp [Addr.add])) (by intro x hx; simp at hx; subst hx; rfl) (by unfold maxLen; omega) (by omega) (by simp; omega) ?_)
      intro v2 w6 r2 gr2 hnn ho2
      have o14 : Only w5 w6 (fun q => (Value.slice (some ⟨g, 0, none⟩) 10 c3).ownBlock = some q) := (Only.new (S := fun q => (Value.slice (some ⟨g, 0, none⟩) 10 c3).ownBlock = some q) (below_alloc0 _ _)).trans ((Only.of_grown gr2).mono (T := fun q => (Value.slice (some ⟨g, 0, none⟩) 10 c3).ownBlock = some q) (fun x _ e => e.symm)) (fun _ _ h => h)
      have P4 := Lib.hid (HM5.out.r.push HR0.out HX0.out HVO.out r2 o14)
      have RD6 := Lib.hid (Rd.past RD5.out (row := some g) (fun b e => by injection e with e; omega) ⟨o14.os, o14.tape, o14.output, o14.size, fun k hk hne => o14.block k hk (fun e => hne e.symm)⟩)
      have B6 := Lib.hid (B5.out.trans (o14.below (B := w.heap.size) (fun k hk _ e => by have := (HM5.out.lt (Or.inl e)).1; omega) (by omega)))
      have HL4 : Hid (∀ i, i < 11 → (upd MM 10 (MM j) i).length ≤ 61 ∧ FitL (upd MM 10 (MM j) i)) := fun i hi => by
        by_cases e : i = 10
        · subst e; rw [upd_same]; exact HF10.out j hj
        · rw [upd_other _ _ e]; exact HF10.out i (by omega)
      obtain ⟨u4, c4, rfl⟩ := mat_slice_r P4.out
      clear r2 gr2 ho2 hnn o14 hm0 c0
      go_wp2_with fail
      refine (pick_sg _ _ _ r _ (Sg.start RD6.out) (by omega) (by omega) (by omega)).mono ?_
      rintro e w8 ⟨q, rfl, q0, q1, sg8⟩
      have HM8 := Lib.hid (P4.out.only sg8.only (fun k hk e => by have := (P4.out.lt hk).1; omega))
      have RD8 := Lib.hid sg8.1
      have hr8 := RD6.out.lt
      have B8 := Lib.hid (B6.out.trans ((sg8.below_r hr8).mono hwr))
      clear sg8 RD6 B6
      cases e8 : (q == 0)
      · go_wp2
        go_ret
        exact ⟨_, 11, _, _, _, rfl, HM8.out, by omega, HL4.out, B8.out⟩
      · clear HM8
        go_wp2_with fail
        refine (num_sg _ [60, 61] w8.heap.size _ r _ ((Sg.start RD8.out).alloc _) (by omega) (by decide) (by decide) (by have := RD8.out.lt; omega) (cells_int [60, 61] _ w8)).mono ?_
        rintro e w9 ⟨y, rfl, hy, sg9⟩
        have hy2 := (show ∀ y ∈ [(60 : Int), 61], 0 ≤ y ∧ y ≤ 61 from by decide) y hy
        obtain ⟨y, rfl⟩ := Int.eq_ofNat_of_zero_le hy2.1
        have hr9 := RD8.out.lt
        have B9 := Lib.hid (B8.out.trans ((sg9.below_r hr9).mono hwr))
        obtain ⟨hr, hmk⟩ := mat_made w9 y (by omega) 23 Try.underlying23 .i64 .i64
        have HMK := Lib.hid hmk
        clear hy sg9 hmk B8 RD8
        go_wp2
        go_ret
        exact ⟨_, y, _, _, _, rfl, HMK.out.r, by omega, fun i hi => ⟨Nat.zero_le _, fun j hj => absurd hj (by simp)⟩, B9.out.alloc (by have := B9.out.size; omega) _⟩
end Go.Proofs.Ytihbpalhbbingaa
