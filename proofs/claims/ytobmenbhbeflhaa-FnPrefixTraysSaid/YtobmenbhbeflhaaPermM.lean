/-
  Letters in another order are a batch as before.
-/
import Derived.Test.YtobmenbhbeflhaaCat
import Derived.Test.YtobmenbhbeflhaaMgF1
namespace Go.Proofs.Ytobmenbhbeflhaa

/-- Letters are a batch, said of a list. -/
def BatchL (L : List (Int × ByteArray)) : Prop := (∀ x ∈ L, M.code x.2 = true ∧ 1 ≤ x.1 ∧ x.1 ≤ 9999) ∧ (L.map Prod.fst).Pairwise (· ≠ ·) ∧ L.length ≤ 60
theorem batchL_iff (n : Nat) (I : Nat → Int) (C : Nat → ByteArray) : M.batch n I C = true ↔ BatchL (M.lst I C n) := by
  unfold BatchL
  rw [List.pairwise_map, List.pairwise_iff_getElem]
  constructor
  · intro h
    obtain ⟨hn, hg⟩ := M.batch_yes h
    refine ⟨fun x hx => ?_, fun i j hi hj hij => ?_, by rw [lst_len]; exact hn⟩
    · unfold M.lst at hx
      obtain ⟨i, hi, rfl⟩ := List.mem_map.1 hx
      obtain ⟨h1, h2, _⟩ := hg i (List.mem_range.1 hi)
      exact ⟨h1, h2⟩
    · rw [lst_get, lst_get]
      rw [lst_len] at hj
      exact (hg j hj).2.2 i hij
  · rintro ⟨h1, h2, h3⟩
    have hg : M.goodTo I C n = true := (M.goodTo_iff I C n).2 fun i hi => by
      have hm : (I i, C i) ∈ M.lst I C n := by unfold M.lst; exact List.mem_map.2 ⟨i, List.mem_range.2 hi, rfl⟩
      refine ⟨(h1 _ hm).1, (h1 _ hm).2, fun k hk => ?_⟩
      have := h2 k i (by rw [lst_len]; omega) (by rw [lst_len]; exact hi) hk
      rw [lst_get, lst_get] at this
      exact this
    rw [M.batch_end hg]
    rw [lst_len] at h3
    exact decide_eq_true h3
theorem batchL_list (L : List (Int × ByteArray)) : M.batch L.length (nI L) (nC L) = true ↔ BatchL L := by
  rw [batchL_iff, lst_nI]
theorem BatchL.perm {L R : List (Int × ByteArray)} (h : BatchL L) (p : L.Perm R) : BatchL R :=
  ⟨fun x hx => h.1 x (p.mem_iff.2 hx), (p.map Prod.fst).pairwise h.2.1 (fun h e => h e.symm), by rw [← p.length_eq]; exact h.2.2⟩
theorem flat_upd (F : Nat → List (Int × ByteArray)) (d : Nat) (x : Int × ByteArray) : ∀ n, d < n → (M.flat (fun i => if i = d then F d ++ [x] else F i) n).Perm (M.flat F n ++ [x])
  | 0, h => absurd h (by omega)
  | n + 1, h => by
    by_cases e : d = n
    · subst e
      have h1 : M.flat (fun i => if i = d then F d ++ [x] else F i) d = M.flat F d := M.flat_congr fun i hi => if_neg (by omega)
      show (M.flat (fun i => if i = d then F d ++ [x] else F i) d ++ (if d = d then F d ++ [x] else F d)).Perm (M.flat F d ++ F d ++ [x])
      rw [h1, if_pos rfl, List.append_assoc]
    · have ih := flat_upd F d x n (by omega)
      show (M.flat (fun i => if i = d then F d ++ [x] else F i) n ++ (if n = d then F d ++ [x] else F n)).Perm (M.flat F n ++ F n ++ [x])
      rw [if_neg (fun e2 => e e2.symm)]
      refine (ih.append_right (F n)).trans ?_
      rw [List.append_assoc, List.append_assoc]
      exact (List.perm_append_comm).append_left _
theorem flat_nil : ∀ n, M.flat (fun _ => []) n = []
  | 0 => rfl
  | n + 1 => by show M.flat (fun _ => []) n ++ [] = []; rw [flat_nil n]; rfl
theorem flat_bins (key : Nat → Option Nat) (I : Nat → Int) (C : Nat → ByteArray) (N : Nat) : ∀ k, (∀ i, i < k → ∃ d, key i = some d ∧ d < N) → (M.flat (M.binTo key I C k) N).Perm (M.lst I C k)
  | 0, _ => by rw [show M.binTo key I C 0 = fun _ => [] from rfl, flat_nil]; exact List.Perm.refl _
  | k + 1, h => by
    obtain ⟨d, hd, hdN⟩ := h k (by omega)
    rw [M.binTo_some hd, M.lst_succ]
    exact (flat_upd (M.binTo key I C k) d (I k, C k) N hdN).trans ((flat_bins key I C N k fun i hi => h i (by omega)).append_right _)
theorem dig1_bd {n : Nat} {I : Nat → Int} {C : Nat → ByteArray} (h : M.batch n I C = true) {x : Nat} (hx : x ≤ 6) : ∀ i, i < n → ∃ d, M.dig1 C x i = some d ∧ d < 10 := fun i hi => by
  have hc := M.code_yes ((M.batch_yes h).2 i hi).1
  have := M.digs_bt hc.1 x (by rw [hc.2]; omega)
  exact ⟨_, rfl, by omega⟩
theorem pass_perm {n : Nat} {I : Nat → Int} {C : Nat → ByteArray} (h : M.batch n I C = true) {x : Nat} (hx : x ≤ 6) : (M.flat (M.bins I C x n) 10).Perm (M.lst I C n) := flat_bins _ _ _ _ _ (dig1_bd h hx)
theorem pass_batch {n : Nat} {I : Nat → Int} {C : Nat → ByteArray} (h : M.batch n I C = true) {x : Nat} (hx : x ≤ 6) : BatchL (M.flat (M.bins I C x n) 10) := ((batchL_iff n I C).1 h).perm (pass_perm h hx).symm
theorem BatchL.fits {L : List (Int × ByteArray)} (h : BatchL L) : Fits L.length (nI L) (nC L) := fun i hi => by
  obtain ⟨h1, h2, h3⟩ := h.1 _ (List.getElem_mem hi)
  rw [nI_at hi, nC_at hi]
  have := (M.code_yes h1).2
  refine ⟨by omega, ?_⟩
  rw [this]; unfold maxLen; omega
end Go.Proofs.Ytobmenbhbeflhaa
