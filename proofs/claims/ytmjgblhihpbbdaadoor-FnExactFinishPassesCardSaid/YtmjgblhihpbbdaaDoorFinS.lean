/-
  FinishPasses of the model.
-/
import Derived.Test.YtmjgblhihpbbdaaDoorFinI
namespace Go.Proofs.YtmjgblhihpbbdaaDoor
open Go.RowKit
open Go.PlainAid (bt get_bt bt_nonneg bt_le)
set_option linter.unusedVariables false

set_option maxHeartbeats 1000000 in
theorem spec_FinishPasses (w : World) (b p : Int) (a : Option Addr) (n c : Nat) (S : Nat → ByteArray) (h : Strs w a n S) (hf : SFits n S) (hn : n ≤ 1048576) (base : Nat) (v : Value) (N : Nat) (V : Nat → Value) (MM : Nat → List (Int × ByteArray)) (h2 : Mat w base v N V MM) (hN : N ≤ 1048576) (hl : (M.flat MM N).length ≤ 1048576) (hf2 : Fits (M.flat MM N).length (nI (M.flat MM N)) (nC (M.flat MM N))) (x : Int) :
    Calls Tryd.prog 21 #[.agg #[.int .i64 b, .int .i64 p, .slice a n c], v, .int .i64 x] w (RowRes w (binsAll b p n S N MM x) (finAns b p n S N MM x)) := by
  obtain ⟨u0, c2, hv⟩ : ∃ u c, v = .slice u N c := by
    rcases h2.form with ⟨rfl, rfl⟩ | ⟨g, c, rfl, _⟩
    · exact ⟨_, _, rfl⟩
    · exact ⟨_, _, rfl⟩
  subst hv
  have HL := Lib.hid (h.on (below_alloc0 w (.cells #[.int .i64 b, .int .i64 p, .slice a n c] 32)))
  have HM := Lib.hid (h2.on (below_alloc0 w (.cells #[.int .i64 b, .int .i64 p, .slice a n c] 32)))
  have bx := Lib.hid (tri_made w (.int .i64 b) (.int .i64 p) (.slice a n c) 32)
  have HB := Lib.hid (spec_l7Bins _ b p a n c S HL.out hf hn base _ N V MM HM.out hN hl hf2 x)
  unfold finAns
  obtain ⟨⟨t0, t1, t2⟩, _⟩ := bx.out
  cases hr : binsAll b p n S N MM x
  · rw [hr] at HB
    rw [if_neg (by decide)]
    clear h hf h2 hf2 hr
    go_enter Tryd.func21, Tryd.ntmps21
    go_wp2_with fail
    refine HB.out.mono ?_
    rintro e w1 ⟨rfl, hb1⟩
    have BL : Hid (Below w.heap.size w w1) := sstep (by go_grown) hb1
    go_wp2
    go_ret2
    exact ⟨_, rfl, (one_row w1).lower BL.out.size, BL.out.alloc BL.out.size _⟩
  · rw [hr] at HB
    rw [if_pos rfl]
    have hk := hr
    unfold binsAll at hk
    simp only [Bool.and_eq_true, decide_eq_true_eq] at hk
    obtain ⟨⟨hp, hbo⟩, hx0, hx1⟩ := hk
    obtain ⟨y, rfl⟩ := Int.eq_ofNat_of_zero_le hx0
    rw [Int.toNat_natCast]
    have HFI := Lib.hid (fun W (hs : Strs W a n S) (hm : Mat W base (.slice u0 N c2) N V MM) => spec_l7Finish W b p a n c S hs hf hn hp y (by omega) base _ N V MM hm hbo)
    obtain ⟨LL, hLL⟩ : ∃ LL, finL b p n S y (M.flat MM N) = LL := ⟨_, rfl⟩
    rw [hLL] at HFI ⊢
    clear h hf h2 hf2 hr hp hbo hLL
    go_enter Tryd.func21, Tryd.ntmps21
    go_wp2_with fail
    refine HB.out.mono ?_
    rintro e w1 ⟨rfl, hb1⟩
    have BL : Hid (Below w.heap.size w w1) := sstep (by go_grown) hb1
    have zz := BL.out.size
    clear t0 t1 t2
    obtain ⟨⟨t0, t1, t2⟩, _⟩ := bx.out.on hb1
    go_wp2_with fail
    refine (HFI.out _ (HL.out.on hb1) (HM.out.on hb1)).mono ?_
    rintro e w3 ⟨u, rfl, r3, hb3⟩
    go_wp2
    go_ret2
    exact ⟨_, rfl, r3.lower zz, sstep BL.out hb3⟩
theorem finAns_len (b p : Int) (n : Nat) (S : Nat → ByteArray) (N : Nat) (MM : Nat → List (Int × ByteArray)) (x : Int) : (finAns b p n S N MM x).length ≤ 60 := by
  unfold finAns
  cases hr : binsAll b p n S N MM x
  · rw [if_neg (by decide)]; exact Nat.zero_le _
  · rw [if_pos rfl]
    have hk := hr
    unfold binsAll binsOk at hk
    simp only [Bool.and_eq_true, decide_eq_true_eq] at hk
    obtain ⟨s1, _⟩ := M.plan_shape hk.1.1
    exact (finL_batch s1 ((batchL_list _).1 hk.1.2.2)).2.2
end Go.Proofs.YtmjgblhihpbbdaaDoor
