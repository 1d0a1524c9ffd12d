/-
  Trays: in which of them a letter is, as plain functions. No program is named here.
-/
import Derived.Test.YtccfjeijnadjfaaDoorTry2
import Derived.Test.YtccfjeijnadjfaaDoorMgT5
import Derived.Test.YtccfjeijnadjfaaDoorMgT10
import Derived.Test.YtccfjeijnadjfaaDoorTryText
namespace Go.Proofs.YtccfjeijnadjfaaDoor
set_option linter.unusedVariables false

theorem row_sub {MM : Nat → List (Int × ByteArray)} : ∀ {n i : Nat}, i < n → (MM i).Sublist (M.flat MM n)
  | 0, i, h => absurd h (by omega)
  | n + 1, i, h => by
    show (MM i).Sublist (M.flat MM n ++ MM n)
    by_cases e : i = n
    · subst e; exact List.sublist_append_right _ _
    · exact (row_sub (by omega)).trans (List.sublist_append_left _ _)
theorem rows_sub {MM : Nat → List (Int × ByteArray)} : ∀ {n i j : Nat}, i < j → j < n → (MM i ++ MM j).Sublist (M.flat MM n)
  | 0, i, j, _, h => absurd h (by omega)
  | n + 1, i, j, hij, h => by
    show (MM i ++ MM j).Sublist (M.flat MM n ++ MM n)
    by_cases e : j = n
    · subst e; exact (row_sub hij).append (List.Sublist.refl _)
    · exact (rows_sub hij (by omega)).trans (List.sublist_append_left _ _)
theorem sub_batch {L R : List (Int × ByteArray)} (h : BatchL L) (s : R.Sublist L) : BatchL R :=
  ⟨fun x hx => h.1 x (s.subset hx), List.Pairwise.sublist (s.map _) h.2.1, Nat.le_trans s.length_le h.2.2⟩
theorem flat_batch {n : Nat} {MM : Nat → List (Int × ByteArray)} {s : Int} (h : traysOk n MM s = true) : BatchL (M.flat MM n) := by
  unfold traysOk at h
  rw [Bool.and_eq_true, Bool.and_eq_true, Bool.and_eq_true] at h
  exact (batchL_list _).1 h.2.2.2
theorem tray_few {n : Nat} {MM : Nat → List (Int × ByteArray)} {s : Int} (h : traysOk n MM s = true) : n ≤ 60 ∧ ∀ i, i < n → 1 ≤ ((MM i).length : Int) ∧ ((MM i).length : Int) ≤ s := by
  unfold traysOk at h
  rw [Bool.and_eq_true, Bool.and_eq_true, Bool.and_eq_true] at h
  exact ⟨of_decide_eq_true h.2.1, (lensIn_iff _ _ _).1 h.2.2.1⟩
theorem find_in {L : List (Int × ByteArray)} (h : BatchL L) {x : Int} (hx : x ∈ L.map Prod.fst) : 0 ≤ M.findLetter L.length (nI L) (nC L) x := by
  obtain ⟨p, hp, e⟩ := List.mem_map.1 hx
  obtain ⟨k, hk, e2⟩ := List.getElem_of_mem hp
  have := find_at h hk
  rw [nI_at hk, e2, e] at this
  rw [this]; omega
theorem find_out {L : List (Int × ByteArray)} (h : BatchL L) {x : Int} (hx : ¬ x ∈ L.map Prod.fst) : M.findLetter L.length (nI L) (nC L) x < 0 := by
  rw [M.findLetter_yes ((batchL_list L).2 h), M.find_miss]
  · omega
  · intro j hj e
    refine hx (List.mem_map.2 ⟨L[j], List.getElem_mem hj, ?_⟩)
    rw [nI_at hj] at e
    exact e
theorem has_in {L : List (Int × ByteArray)} (h : BatchL L) {x : Int} (hx : x ∈ L.map Prod.fst) : has x L = true := decide_eq_true (find_in h hx)
theorem has_out {L : List (Int × ByteArray)} (h : BatchL L) {x : Int} (hx : ¬ x ∈ L.map Prod.fst) : has x L = false := decide_eq_false (by have := find_out h hx; omega)
/-- What the law asks of the tray of a letter. -/
theorem tray_law {n : Nat} {MM : Nat → List (Int × ByteArray)} (h : traysOk n MM 20 = true) (x : Int) :
    (∀ i, i < n → (0 ≤ M.findLetter (MM i).length (nI (MM i)) (nC (MM i)) x ∧ (i : Int) = trayOf n MM x) ∨ (M.findLetter (MM i).length (nI (MM i)) (nC (MM i)) x < 0 ∧ (i : Int) ≠ trayOf n MM x)) ∧
    ((0 ≤ trayOf n MM x ∧ 0 ≤ M.findLetter (M.flat MM n).length (nI (M.flat MM n)) (nC (M.flat MM n)) x) ∨ (trayOf n MM x < 0 ∧ M.findLetter (M.flat MM n).length (nI (M.flat MM n)) (nC (M.flat MM n)) x < 0)) := by
  have hB := flat_batch h
  have hb : ∀ i, i < n → BatchL (MM i) := fun i hi => sub_batch hB (row_sub hi)
  have hd : ∀ i j, i < j → j < n → x ∈ (MM i).map Prod.fst → ¬ x ∈ (MM j).map Prod.fst := fun i j hij hj h1 h2 => by
    have := (sub_batch hB (rows_sub hij hj)).2.1
    rw [List.map_append, List.pairwise_append] at this
    exact this.2.2 x h1 x h2 rfl
  rw [trayOf_yes h]
  by_cases he : ∃ i, i < n ∧ x ∈ (MM i).map Prod.fst
  · obtain ⟨k, hk, hx⟩ := he
    have e := trayAt_hit hk (has_in (hb k hk) hx) (fun j hj => has_out (hb j (by omega)) fun h2 => hd j k hj hk h2 hx)
    rw [e]
    refine ⟨fun i hi => ?_, Or.inl ⟨by omega, find_in hB ((row_sub hk).map _ |>.subset hx)⟩⟩
    by_cases ei : i = k
    · subst ei; exact Or.inl ⟨find_in (hb i hi) hx, rfl⟩
    · refine Or.inr ⟨find_out (hb i hi) fun h2 => ?_, by omega⟩
      rcases Nat.lt_or_gt_of_ne ei with h3 | h3
      · exact hd i k h3 hk h2 hx
      · exact hd k i h3 hi hx h2
  · have e := trayAt_miss (x := x) (MM := MM) (n := n) (fun j hj => has_out (hb j hj) fun h2 => he ⟨j, hj, h2⟩)
    rw [e]
    refine ⟨fun i hi => Or.inr ⟨find_out (hb i hi) fun h2 => he ⟨i, hi, h2⟩, by omega⟩, Or.inr ⟨by omega, find_out hB fun h2 => ?_⟩⟩
    obtain ⟨p, hp, e2⟩ := List.mem_map.1 h2
    obtain ⟨i, hi, hm⟩ := mem_flat.1 hp
    exact he ⟨i, hi, List.mem_map.2 ⟨p, hm, e2⟩⟩
end Go.Proofs.YtccfjeijnadjfaaDoor

/-
  The text of trays, part by part, as the law's own text builds it. No program is named here.
-/
namespace Go.Proofs.YtccfjeijnadjfaaDoor
set_option linter.unusedVariables false

theorem decT_two {m : Nat} (h1 : 9 < m) (h2 : m ≤ 99) : M.decT (m : Int) = (⟨#[UInt8.ofNat (48 + (m : Int) / 10).toNat]⟩ : ByteArray) ++ ⟨#[UInt8.ofNat (48 + (m : Int) % 10).toNat]⟩ := by
  have e1 : (48 + (m : Int) / 10).toNat = 48 + m / 10 := by omega
  have e2 : (48 + (m : Int) % 10).toNat = 48 + m % 10 := by omega
  rw [e1, e2]
  unfold M.decT
  rw [Int.toNat_natCast, M.decT_big (by omega), M.decT_small (by omega : m / 10 < 10)]
  rfl
theorem decT_one {m : Nat} (h1 : ¬ 9 < m) : M.decT (m : Int) = (⟨#[UInt8.ofNat (48 + (m : Int) % 10).toNat]⟩ : ByteArray) := by
  have e2 : (48 + (m : Int) % 10).toNat = 48 + m := by omega
  rw [e2]
  unfold M.decT
  rw [Int.toNat_natCast, M.decT_small (by omega : m < 10)]
theorem dig_lo (m : Nat) : UInt8.ofNat (48 + (m : Int) % 10).toNat = 48 + UInt8.ofNat (m % 10) := by
  rw [show (48 + (m : Int) % 10).toNat = 48 + m % 10 by omega, UInt8.ofNat_add]; rfl
theorem dig_hi (m : Nat) : UInt8.ofNat (48 + (m : Int) / 10).toNat = 48 + UInt8.ofNat (m / 10) := by
  rw [show (48 + (m : Int) / 10).toNat = 48 + m / 10 by omega, UInt8.ofNat_add]; rfl
/-- The text of the first trays, tray by tray. -/
theorem try_next {MM : Nat → List (Int × ByteArray)} {j : Nat} {x x' lb d : ByteArray} (hx : x = M.gapsTo M.gap (M.tryT MM) j) (hx' : x' = if j = 0 then x else x ++ ⟨#[32]⟩) (hl : label (MM j).length (nI (MM j)) (nC (MM j)) = lb) (hd : M.decT ((MM j).length : Int) = d) :
    x' ++ lb ++ ⟨#[58]⟩ ++ d = M.gapsTo M.gap (M.tryT MM) (j + 1) := by
  have e : x' ++ lb ++ ⟨#[58]⟩ ++ d = x' ++ M.tryT MM j := by rw [← hl, ← hd]; exact tryT_app x' MM j
  rw [e, hx']
  by_cases h0 : j = 0
  · rw [if_pos h0, M.gapsTo_first M.gap _ h0, hx]
  · rw [if_neg h0, M.gapsTo_next M.gap _ h0, hx]; rfl
/-- What the loop needs of a tray. -/
theorem try_row {n : Nat} {MM : Nat → List (Int × ByteArray)} (h : traysOk n MM 20 = true) {j : Nat} (hj : j < n) :
    1 ≤ (MM j).length ∧ (MM j).length ≤ 20 ∧ (nC (MM j) 0).size = 7 ∧ (nC (MM j) ((MM j).length - 1)).size = 7 ∧ label (MM j).length (nI (MM j)) (nC (MM j)) = nC (MM j) 0 ++ ⟨#[45]⟩ ++ nC (MM j) ((MM j).length - 1) := by
  obtain ⟨h1, h2⟩ := (tray_few h).2 j hj
  have hB := sub_batch (flat_batch h) (row_sub (MM := MM) hj)
  have hc : ∀ i, i < (MM j).length → (nC (MM j) i).size = 7 := fun i hi => by
    rw [nC_at hi]
    exact (M.code_yes (hB.1 _ (List.getElem_mem hi)).1).2
  exact ⟨by omega, by omega, hc 0 (by omega), hc _ (by omega), label_yes ((batchL_list _).2 hB) (by omega)⟩
theorem try_dash (MM : Nat → List (Int × ByteArray)) (h : traysOk 0 MM 20 = true) : M.tryText 0 MM = ⟨#[45]⟩ := by unfold M.tryText M.itemsOf; rw [h]; rfl
theorem try_gaps {n : Nat} {MM : Nat → List (Int × ByteArray)} (h : traysOk n MM 20 = true) (h0 : n ≠ 0) : M.tryText n MM = M.gapsTo M.gap (M.tryT MM) n := by unfold M.tryText M.itemsOf; rw [if_pos h, if_neg h0]
theorem try_text_size {n : Nat} {MM : Nat → List (Int × ByteArray)} (h : traysOk n MM 20 = true) : 1 ≤ (M.tryText n MM).size ∧ (M.tryText n MM).size ≤ 2000 := by
  obtain ⟨hn, hs⟩ := try_sizes h
  by_cases h0 : n = 0
  · subst h0; rw [try_dash MM h]; exact ⟨by decide, by decide⟩
  · rw [try_gaps h h0]
    have h1 := M.gapsTo_size (g := M.gap) (T := M.tryT MM) (m := 20) (k := n) fun i hi => (hs i hi).2.2.1
    have h2 := M.gapsTo_pos (g := M.gap) (T := M.tryT MM) (k := n) h0 (hs (n - 1) (by omega)).2.2.2
    have h3 : M.gap.size = 1 := rfl
    rw [h3] at h1
    omega
theorem try_gaps_size {n : Nat} {MM : Nat → List (Int × ByteArray)} (h : traysOk n MM 20 = true) {j : Nat} (hj : j ≤ n) : (M.gapsTo M.gap (M.tryT MM) j).size ≤ 1260 := by
  obtain ⟨hn, hs⟩ := try_sizes h
  have h1 := M.gapsTo_size (g := M.gap) (T := M.tryT MM) (m := 20) (k := j) fun i hi => (hs i (by omega)).2.2.1
  have h3 : M.gap.size = 1 := rfl
  rw [h3] at h1
  omega
theorem text_some (s : ByteArray) (h : 0 < s.size) : ¬ s.toList = [] := by
  rw [ByteArray.toList_eq]
  intro e
  have h1 : s.data.toList.length = 0 := by rw [e]; rfl
  rw [Array.length_toList] at h1
  have h2 : s.data.size = s.size := rfl
  omega
end Go.Proofs.YtccfjeijnadjfaaDoor
