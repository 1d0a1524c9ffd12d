/-
  Sorted letters: side by side, sorted again; the drawn batches of sorting; the law's own sorting.
-/
import Derived.Test.YtedhenffolfkeaaStbS
import Derived.Test.YtedhenffolfkeaaSoAll
import Derived.Test.YtedhenffolfkeaaSorted
namespace Go.Proofs.Ytedhenffolfkeaa
open Go.RowKit
set_option linter.unusedVariables false

theorem asc_list {R : List (Int × ByteArray)} (h : R.Pairwise fun x y => ltL y x = false) : ∀ m, m ≤ R.length → M.asc (nC R) m = true
  | 0, _ => rfl
  | 1, _ => rfl
  | m + 2, hm => by
    refine M.asc_succ (asc_list h (m + 1) (by omega)) ?_
    have := List.pairwise_iff_getElem.1 h m (m + 1) (by omega) (by omega) (by omega)
    rw [nC_at (by omega : m + 1 < R.length), nC_at (by omega : m < R.length)]
    exact this
theorem sortS_asc {R : List (Int × ByteArray)} (hR : BatchL R) (h : R.Pairwise fun x y => ltL y x = false) : sortS R = R := by
  obtain ⟨pos, _, hp⟩ := exists_pos hR
  exact ss_one (sortS_perm hR) (sortS_ss hR hp) ((h.and hp).imp fun h => Or.inr h)
theorem sorted_pw {L : List (Int × ByteArray)} (hL : BatchL L) : (sortS L).Pairwise fun x y => ltL y x = false := by
  obtain ⟨pos, _, hp⟩ := exists_pos hL
  exact (sortS_ss hL hp).imp fun h => Sy.ss_not (ltL_ord pos) h
theorem sorted_batch {L : List (Int × ByteArray)} (hL : BatchL L) : BatchL (sortS L) := hL.perm (sortS_perm hL).symm
theorem sortS_twice {L : List (Int × ByteArray)} (hL : BatchL L) : sortS (sortS L) = sortS L := sortS_asc (sorted_batch hL) (sorted_pw hL)
theorem sorted_true {L : List (Int × ByteArray)} (hL : BatchL L) : M.sorted (sortS L).length (nI (sortS L)) (nC (sortS L)) = true := by
  rw [M.sorted_yes ((batchL_list _).2 (sorted_batch hL))]
  exact asc_list (sorted_pw hL) _ (Nat.le_refl _)
/-- Two sorted letters side by side. -/
theorem sorted_next {L : List (Int × ByteArray)} (hL : BatchL L) {R : List (Int × ByteArray)} (hR : sortS L = R) {i : Nat} (hi : i + 1 < R.length) :
    M.less (nC R (i + 1)) (nC R i) = false ∧ (nC R (i + 1) = nC R i → ∃ k1 k2 : Nat, k1 < k2 ∧ M.findLetter L.length (nI L) (nC L) (nI R i) = (k1 : Int) ∧ M.findLetter L.length (nI L) (nC L) (nI R (i + 1)) = (k2 : Int)) := by
  subst hR
  obtain ⟨pos, hpos, hp⟩ := exists_pos hL
  have hs := List.pairwise_iff_getElem.1 (sortS_ss hL hp) i (i + 1) (by omega) hi (by omega)
  have hi0 : i < (sortS L).length := by omega
  rw [nC_at hi, nC_at hi0]
  refine ⟨Sy.ss_not (ltL_ord pos) hs, fun e => ?_⟩
  rcases hs with hs | ⟨_, hs⟩
  · have : M.less (sortS L)[i].2 (sortS L)[i + 1].2 = true := hs
    rw [e] at this
    exact absurd this (by rw [show M.less (sortS L)[i].2 (sortS L)[i].2 = false from bl_irr _]; decide)
  · obtain ⟨k1, h1, e1⟩ := List.getElem_of_mem ((sortS_perm hL).mem_iff.1 (List.getElem_mem hi0))
    obtain ⟨k2, h2, e2⟩ := List.getElem_of_mem ((sortS_perm hL).mem_iff.1 (List.getElem_mem hi))
    rw [← e1, ← e2, hpos k1 h1, hpos k2 h2] at hs
    refine ⟨k1, k2, hs, ?_, ?_⟩
    · rw [← find_at hL h1, nI_at h1, e1, nI_at hi0]
    · rw [← find_at hL h2, nI_at h2, e2, nI_at hi]
set_option maxHeartbeats 1000000 in
theorem DrawSortBatch_any (a : Option Addr) (l k : Nat) (z : List Int) (w : World) (h : IsRow .u8 w a l k z) :
    Calls Try.prog 11 #[.slice a l k] w (LetsOnly w) := by
  go_enter Try.func11, Try.ntmps11
  go_wp2_with fail
  refine (open_any a l k z w h).mono ?_
  rintro e w1 ⟨r, rfl, rd1, b1, hwr⟩
  go_wp2_with fail
  refine (l2Open_any _ r _ rd1 (by omega)).mono ?_
  rintro e w2 ⟨base, v, L, rfl, hrb, R2, l2, S2, rd2, b2⟩
  have B2 := b1.trans (b2.mono hwr)
  clear b1 b2 rd1 h
  go_wp2
  go_ret
  exact ⟨_, rfl, lets_of R2 l2 S2 B2⟩
set_option maxHeartbeats 1000000 in
theorem DrawCodesOf_any (a : Option Addr) (l k : Nat) (z : List Int) (w : World) (h : IsRow .u8 w a l k z) :
    Calls Try.prog 23 #[.slice a l k] w (LetsOnly w) := by
  go_enter Try.func23, Try.ntmps23
  go_wp2_with fail
  refine (open_any a l k z w h).mono ?_
  rintro e w1 ⟨r, rfl, rd1, b1, hwr⟩
  go_wp2_with fail
  refine (l2Open_any _ r _ rd1 (by omega)).mono ?_
  rintro e w2 ⟨base, v, L, rfl, hrb, R2, l2, S2, rd2, b2⟩
  have B2 := b1.trans (b2.mono hwr)
  clear b1 b2 rd1 h
  go_wp2
  go_ret
  exact ⟨_, rfl, lets_of R2 l2 S2 B2⟩
set_option maxHeartbeats 1000000 in
theorem soSorted_any (w : World) (a : Option Addr) (n c : Nat) (I : Nat → Int) (C : Nat → ByteArray) (h : Lts w a n I C) (hf : Fits n I C) :
    Calls Try.prog 18 #[.slice a n c] w (RowOut w (M.sortL n I C)) := by
  have HS := Lib.hid (impl_SortBatch w a n c I C h hf)
  generalize M.batch n I C = ok at HS
  generalize M.sortL n I C = LL at HS ⊢
  clear h hf
  go_enter Try.func18, Try.ntmps18
  go_wp2_with fail
  refine HS.out.mono ?_
  rintro e w1 ⟨v, rfl, r1, b1⟩
  obtain ⟨a2, c2, rfl, _, _⟩ := r1.form
  go_wp2
  go_ret
  exact ⟨_, rfl, r1, b1⟩
end Go.Proofs.Ytedhenffolfkeaa
