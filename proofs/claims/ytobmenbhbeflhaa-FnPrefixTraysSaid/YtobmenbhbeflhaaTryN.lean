/-
  Trays: in which of them a letter is, as plain functions. No program is named here.
-/
import Derived.Test.YtobmenbhbeflhaaTry2
import Derived.Test.YtobmenbhbeflhaaSoAll
import Derived.Test.YtobmenbhbeflhaaMgF4
namespace Go.Proofs.Ytobmenbhbeflhaa
set_option linter.unusedVariables false

theorem row_sub {MM : Nat → List (Int × ByteArray)} : ∀ {n i : Nat}, i < n → (MM i).Sublist (M.flat MM n)
  | 0, i, h => absurd h (by omega)
  | n + 1, i, h => by
    show (MM i).Sublist (M.flat MM n ++ MM n)
    by_cases e : i = n
    · subst e; exact List.sublist_append_right _ _
    · exact (row_sub (by omega)).trans (List.sublist_append_left _ _)
theorem rows_sub {MM : Nat → List (Int × ByteArray)} : ∀ {n i j : Nat}, i < j → j < n → (MM i ++ MM j).Sublist (M.flat MM n)
  | 0, i, j, _, h => absurd h (by omega)
  | n + 1, i, j, hij, h => by
    show (MM i ++ MM j).Sublist (M.flat MM n ++ MM n)
    by_cases e : j = n
    · subst e; exact (row_sub hij).append (List.Sublist.refl _)
    · exact (rows_sub hij (by omega)).trans (List.sublist_append_left _ _)
theorem sub_batch {L R : List (Int × ByteArray)} (h : BatchL L) (s : R.Sublist L) : BatchL R :=
  ⟨fun x hx => h.1 x (s.subset hx), List.Pairwise.sublist (s.map _) h.2.1, Nat.le_trans s.length_le h.2.2⟩
theorem flat_batch {n : Nat} {MM : Nat → List (Int × ByteArray)} {s : Int} (h : traysOk n MM s = true) : BatchL (M.flat MM n) := by
  unfold traysOk at h
  rw [Bool.and_eq_true, Bool.and_eq_true, Bool.and_eq_true] at h
  exact (batchL_list _).1 h.2.2.2
theorem tray_few {n : Nat} {MM : Nat → List (Int × ByteArray)} {s : Int} (h : traysOk n MM s = true) : n ≤ 60 ∧ ∀ i, i < n → 1 ≤ ((MM i).length : Int) ∧ ((MM i).length : Int) ≤ s := by
  unfold traysOk at h
  rw [Bool.and_eq_true, Bool.and_eq_true, Bool.and_eq_true] at h
  exact ⟨of_decide_eq_true h.2.1, (lensIn_iff _ _ _).1 h.2.2.1⟩
theorem find_in {L : List (Int × ByteArray)} (h : BatchL L) {x : Int} (hx : x ∈ L.map Prod.fst) : 0 ≤ M.findLetter L.length (nI L) (nC L) x := by
  obtain ⟨p, hp, e⟩ := List.mem_map.1 hx
  obtain ⟨k, hk, e2⟩ := List.getElem_of_mem hp
  have := find_at h hk
  rw [nI_at hk, e2, e] at this
  rw [this]; omega
theorem find_out {L : List (Int × ByteArray)} (h : BatchL L) {x : Int} (hx : ¬ x ∈ L.map Prod.fst) : M.findLetter L.length (nI L) (nC L) x < 0 := by
  rw [M.findLetter_yes ((batchL_list L).2 h), M.find_miss]
  · omega
  · intro j hj e
    refine hx (List.mem_map.2 ⟨L[j], List.getElem_mem hj, ?_⟩)
    rw [nI_at hj] at e
    exact e
theorem has_in {L : List (Int × ByteArray)} (h : BatchL L) {x : Int} (hx : x ∈ L.map Prod.fst) : has x L = true := decide_eq_true (find_in h hx)
theorem has_out {L : List (Int × ByteArray)} (h : BatchL L) {x : Int} (hx : ¬ x ∈ L.map Prod.fst) : has x L = false := decide_eq_false (by have := find_out h hx; omega)
/-- What the law asks of the tray of a letter. -/
theorem tray_law {n : Nat} {MM : Nat → List (Int × ByteArray)} (h : traysOk n MM 20 = true) (x : Int) :
    (∀ i, i < n → (0 ≤ M.findLetter (MM i).length (nI (MM i)) (nC (MM i)) x ∧ (i : Int) = trayOf n MM x) ∨ (M.findLetter (MM i).length (nI (MM i)) (nC (MM i)) x < 0 ∧ (i : Int) ≠ trayOf n MM x)) ∧
    ((0 ≤ trayOf n MM x ∧ 0 ≤ M.findLetter (M.flat MM n).length (nI (M.flat MM n)) (nC (M.flat MM n)) x) ∨ (trayOf n MM x < 0 ∧ M.findLetter (M.flat MM n).length (nI (M.flat MM n)) (nC (M.flat MM n)) x < 0)) := by
  have hB := flat_batch h
  have hb : ∀ i, i < n → BatchL (MM i) := fun i hi => sub_batch hB (row_sub hi)
  have hd : ∀ i j, i < j → j < n → x ∈ (MM i).map Prod.fst → ¬ x ∈ (MM j).map Prod.fst := fun i j hij hj h1 h2 => by
    have := (sub_batch hB (rows_sub hij hj)).2.1
    rw [List.map_append, List.pairwise_append] at this
    exact this.2.2 x h1 x h2 rfl
  rw [trayOf_yes h]
  by_cases he : ∃ i, i < n ∧ x ∈ (MM i).map Prod.fst
  · obtain ⟨k, hk, hx⟩ := he
    have e := trayAt_hit hk (has_in (hb k hk) hx) (fun j hj => has_out (hb j (by omega)) fun h2 => hd j k hj hk h2 hx)
    rw [e]
    refine ⟨fun i hi => ?_, Or.inl ⟨by omega, find_in hB ((row_sub hk).map _ |>.subset hx)⟩⟩
    by_cases ei : i = k
    · subst ei; exact Or.inl ⟨find_in (hb i hi) hx, rfl⟩
    · refine Or.inr ⟨find_out (hb i hi) fun h2 => ?_, by omega⟩
      rcases Nat.lt_or_gt_of_ne ei with h3 | h3
      · exact hd i k h3 hk h2 hx
      · exact hd k i h3 hi hx h2
  · have e := trayAt_miss (x := x) (MM := MM) (n := n) (fun j hj => has_out (hb j hj) fun h2 => he ⟨j, hj, h2⟩)
    rw [e]
    refine ⟨fun i hi => Or.inr ⟨find_out (hb i hi) fun h2 => he ⟨i, hi, h2⟩, by omega⟩, Or.inr ⟨by omega, find_out hB fun h2 => ?_⟩⟩
    obtain ⟨p, hp, e2⟩ := List.mem_map.1 h2
    obtain ⟨i, hi, hm⟩ := mem_flat.1 hp
    exact he ⟨i, hi, List.mem_map.2 ⟨p, hm, e2⟩⟩
end Go.Proofs.Ytobmenbhbeflhaa
