/-
  Letters for held codes and the others: where each letter of the batch stands.
-/
import Derived.Test.YtghgipcblhfceaaSo
import Derived.Test.YtghgipcblhfceaaSoT
import Derived.Test.YtghgipcblhfceaaHold
import Derived.Test.YtghgipcblhfceaaDrawHo
namespace Go.Proofs.Ytghgipcblhfceaa
set_option linter.unusedVariables false

theorem withF_at {p : ByteArray → Bool} {I : Nat → Int} {C : Nat → ByteArray} {j n : Nat} (hj : j < n) (h : p (C j) = true) :
    (M.withF p (M.lst I C j)).length < (M.withF p (M.lst I C n)).length ∧ nI (M.withF p (M.lst I C n)) (M.withF p (M.lst I C j)).length = I j ∧ nC (M.withF p (M.lst I C n)) (M.withF p (M.lst I C j)).length = C j := by
  obtain ⟨R, hR⟩ := lst_cut I C j n hj
  have e : M.withF p (M.lst I C n) = M.withF p (M.lst I C j) ++ (I j, C j) :: M.withF p R := by
    rw [hR]; unfold M.withF; rw [List.filter_append, List.filter_cons, h]; rfl
  rw [e]
  refine ⟨by simp, ?_, ?_⟩
  · rw [nI_at (by simp)]; simp
  · rw [nC_at (by simp)]; simp
theorem sansF_at {p : ByteArray → Bool} {I : Nat → Int} {C : Nat → ByteArray} {j n : Nat} (hj : j < n) (h : p (C j) = false) :
    (M.sansF p (M.lst I C j)).length < (M.sansF p (M.lst I C n)).length ∧ nI (M.sansF p (M.lst I C n)) (M.sansF p (M.lst I C j)).length = I j ∧ nC (M.sansF p (M.lst I C n)) (M.sansF p (M.lst I C j)).length = C j := by
  obtain ⟨R, hR⟩ := lst_cut I C j n hj
  have e : M.sansF p (M.lst I C n) = M.sansF p (M.lst I C j) ++ (I j, C j) :: M.sansF p R := by
    rw [hR]; unfold M.sansF; rw [List.filter_append, List.filter_cons, h]; rfl
  rw [e]
  refine ⟨by simp, ?_, ?_⟩
  · rw [nI_at (by simp)]; simp
  · rw [nC_at (by simp)]; simp
theorem M.has_held {H : List ByteArray} (x : ByteArray) : M.has x H = M.heldF (sC H) H.length x := by
  unfold M.heldF
  rw [Bool.eq_iff_iff, M.has_iff, decide_eq_true_eq]
  constructor
  · intro h
    obtain ⟨i, hi, e⟩ := List.mem_iff_getElem.1 h
    by_cases h1 : 0 ≤ M.rankTo (sC H) x H.length
    · exact h1
    · exact absurd ((sC_at hi).trans e) (M.rank_none (by have := (M.rank_bd (sC H) x H.length).1; omega) i hi)
  · intro h
    have h1 := M.rank_at h
    have h2 := (M.rank_bd (sC H) x H.length).2
    rw [sC_at (by omega)] at h1
    rw [← h1]
    exact List.getElem_mem _
end Go.Proofs.Ytghgipcblhfceaa
