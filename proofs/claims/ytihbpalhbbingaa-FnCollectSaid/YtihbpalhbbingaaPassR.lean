/-
  Read-only contracts over slices that may share their block (by gen_matr.py, from Pass).
-/
import Derived.Test.YtihbpalhbbingaaBinsA
import Derived.Test.YtihbpalhbbingaaConcat
import Derived.Test.YtihbpalhbbingaaPermM
import Derived.Test.YtihbpalhbbingaaPass
import Derived.Test.YtihbpalhbbingaaMatR
import Derived.Test.YtihbpalhbbingaaTyR
namespace Go.Proofs.Ytihbpalhbbingaa
open Go.RowKit
open Go.PlainAid (bt get_bt bt_nonneg bt_le)
set_option linter.unusedVariables false

set_option maxHeartbeats 1000000 in
theorem impl_CollectBins_r (w : World) (base : Nat) (v : Value) (n : Nat) (V : Nat → Value) (MM : Nat → List (Int × ByteArray)) (h : MatR w base v n V MM) (hn : n ≤ 1048576) (hl : (M.flat MM n).length ≤ 1048576) (hf : FitsL (M.flat MM n)) :
    Calls Try.prog 8 #[v] w (RowRes w (M.collOk n MM) (M.coll n MM)) := by
  obtain ⟨u, c, hv⟩ : ∃ u c, v = .slice u n c := by
    rcases h.form with ⟨rfl, rfl⟩ | ⟨g, c, rfl, _⟩
    · exact ⟨_, _, rfl⟩
    · exact ⟨_, _, rfl⟩
  subst hv
  have HM := Lib.hid h
  have HF := Lib.hid hf
  clear h hf
  by_cases h60 : 60 < n
  · have hk : M.collOk n MM = false := by unfold M.collOk; rw [decide_eq_false (by omega)]; rfl
    have hc : M.coll n MM = [] := if_neg (by rw [hk]; decide)
    rw [hk, hc]
    clear hk hc
    go_enter Try.func8, Try.ntmps8
    go_wp2
    go_ret2
    exact ⟨_, rfl, Row.nil _ _, Below.refl _ _⟩
  have hk : M.collOk n MM = M.batch (M.flat MM n).length (nI (M.flat MM n)) (nC (M.flat MM n)) := by unfold M.collOk; rw [decide_eq_true (by omega)]; rfl
  have hcl : M.coll n MM = if M.batch (M.flat MM n).length (nI (M.flat MM n)) (nC (M.flat MM n)) = true then M.flat MM n else [] := by unfold M.coll; rw [hk]
  rw [hk, hcl]
  have HC := Lib.hid (slices_Concat_r w base (.slice u n c) n V MM HM.out hn hl)
  obtain ⟨L, hL⟩ : ∃ L, M.flat MM n = L := ⟨_, rfl⟩
  rw [hL] at HC HF ⊢
  clear hk hcl hL hl
  cases hb : M.batch L.length (nI L) (nC L)
  · rw [if_neg (by decide)]
    go_enter Try.func8, Try.ntmps8
    go_wp2_with fail
    refine (HC.out).mono ?_
    rintro e w1 ⟨v1, rfl, r1, b1⟩
    obtain ⟨a1, c1, hv1, _, hl1⟩ := r1.form
    cases hv1
    go_wp2_with fail
    refine (impl_BatchValid _ a1 L.length c1 _ _ hl1 HF.out).mono ?_
    rw [hb]
    rintro e w2 ⟨rfl, b2⟩
    go_wp2
    go_ret2
    exact ⟨_, rfl, Row.nil _ _, step b1 b2⟩
  · rw [if_pos rfl]
    go_enter Try.func8, Try.ntmps8
    go_wp2_with fail
    refine (HC.out).mono ?_
    rintro e w1 ⟨v1, rfl, r1, b1⟩
    obtain ⟨a1, c1, hv1, _, hl1⟩ := r1.form
    cases hv1
    go_wp2_with fail
    refine (impl_BatchValid _ a1 L.length c1 _ _ hl1 HF.out).mono ?_
    rw [hb]
    rintro e w2 ⟨rfl, b2⟩
    go_wp2
    go_ret2
    exact ⟨_, rfl, r1.on b2, step b1 b2⟩

set_option maxHeartbeats 1000000 in
theorem spec_CollectBins_r (w : World) (base : Nat) (v : Value) (n : Nat) (V : Nat → Value) (MM : Nat → List (Int × ByteArray)) (h : MatR w base v n V MM) (hn : n ≤ 1048576) (hl : (M.flat MM n).length ≤ 1048576) (hf : FitsL (M.flat MM n)) :
    Calls Try.prog 9 #[v] w (RowRes w (M.collOk n MM) (M.coll n MM)) := by
  obtain ⟨u, c, hv⟩ : ∃ u c, v = .slice u n c := by
    rcases h.form with ⟨rfl, rfl⟩ | ⟨g, c, rfl, _⟩
    · exact ⟨_, _, rfl⟩
    · exact ⟨_, _, rfl⟩
  subst hv
  have HM := Lib.hid h
  have HF := Lib.hid hf
  clear h hf
  have HC := Lib.hid (spec_l2Collect_r w base (.slice u n c) n V MM HM.out hn hl)
  by_cases h60 : 60 < n
  · have hk : M.collOk n MM = false := by unfold M.collOk; rw [decide_eq_false (by omega)]; rfl
    have hc : M.coll n MM = [] := if_neg (by rw [hk]; decide)
    rw [hk, hc]
    obtain ⟨L, hL⟩ : ∃ L, M.flat MM n = L := ⟨_, rfl⟩
    rw [hL] at HC
    clear hk hc hL hl
    go_enter Try.func9, Try.ntmps9
    go_wp2_with fail
    refine (HC.out).mono ?_
    rintro e w1 ⟨v1, rfl, r1, b1⟩
    have hz := b1.size
    have ro := (one_row w1).lower hz
    go_wp2
    go_ret2
    exact ⟨_, rfl, ro, by go_grown⟩
  have hk : M.collOk n MM = M.batch (M.flat MM n).length (nI (M.flat MM n)) (nC (M.flat MM n)) := by unfold M.collOk; rw [decide_eq_true (by omega)]; rfl
  have hcl : M.coll n MM = if M.batch (M.flat MM n).length (nI (M.flat MM n)) (nC (M.flat MM n)) = true then M.flat MM n else [] := by unfold M.coll; rw [hk]
  rw [hk, hcl]
  obtain ⟨L, hL⟩ : ∃ L, M.flat MM n = L := ⟨_, rfl⟩
  rw [hL] at HC HF hl ⊢
  clear hk hcl hL
  cases hb : M.batch L.length (nI L) (nC L)
  · rw [if_neg (by decide)]
    go_enter Try.func9, Try.ntmps9
    go_wp2_with fail
    refine (HC.out).mono ?_
    rintro e w1 ⟨v1, rfl, r1, b1⟩
    obtain ⟨a1, c1, hv1, _, hl1⟩ := r1.form
    cases hv1
    go_wp2_with fail
    refine (spec_BatchValid _ a1 L.length c1 _ _ hl1 HF.out hl).mono ?_
    rw [hb]
    rintro e w2 ⟨rfl, b2⟩
    have b3 := step b1 b2
    have hz := b3.size
    have ro := (one_row w2).lower hz
    clear b1 b2
    go_wp2
    go_ret2
    exact ⟨_, rfl, ro, by go_grown⟩
  · rw [if_pos rfl]
    go_enter Try.func9, Try.ntmps9
    go_wp2_with fail
    refine (HC.out).mono ?_
    rintro e w1 ⟨v1, rfl, r1, b1⟩
    obtain ⟨a1, c1, hv1, _, hl1⟩ := r1.form
    cases hv1
    go_wp2_with fail
    refine (spec_BatchValid _ a1 L.length c1 _ _ hl1 HF.out hl).mono ?_
    rw [hb]
    rintro e w2 ⟨rfl, b2⟩
    go_wp2
    go_ret2
    exact ⟨_, rfl, r1.on b2, step b1 b2⟩

end Go.Proofs.Ytihbpalhbbingaa
