/-
  slices.Reverse of strings that the call itself has made.
-/
import Derived.Test.YtnfmpnkdnndmkaaSCl
namespace Go.Proofs.Ytnfmpnkdnndmkaa
open Go.RowKit
set_option linter.unusedVariables false

theorem srow_cell {w : World} {base g n c : Nat} {S : Nat → ByteArray} (h : SRow w base (.slice (some ⟨g, 0, none⟩) n c) (sst S n)) {j : Nat} (hj : j < n) :
    w.cell? ⟨g, j, none⟩ = some (.string (S j)) ∧ w.frozen? ⟨g, j, none⟩ = false := by
  have h' : SRow w base (.slice (some ⟨g, 0, none⟩) (sst S n).length c) (sst S n) := by rw [sst_length]; exact h
  have := h'.cellAt j (by rw [sst_length]; exact hj)
  have e3 : (sst S n)[j]'(by rw [sst_length]; exact hj) = S j := by simp [sst]
  rw [e3] at this
  exact this
theorem sst_set (S : Nat → ByteArray) (n j : Nat) (s : ByteArray) : (sst S n).set j s = sst (fun t => if t = j then s else S t) n := by
  apply List.ext_getElem?
  intro i
  simp only [sst, List.getElem?_set, List.length_map, List.length_range, List.getElem?_map]
  by_cases h : i < n
  · by_cases e : j = i
    · subst e; simp [h]
    · have e' : ¬ i = j := fun q => e q.symm
      simp [h, e, e']
  · by_cases e : j = i
    · subst e; simp [h]
    · simp [h, e]
theorem srow_put {w : World} {base g n c : Nat} {S : Nat → ByteArray} (h : SRow w base (.slice (some ⟨g, 0, none⟩) n c) (sst S n)) (j : Nat) (s : ByteArray) :
    SRow (w.setCell ⟨g, j, none⟩ (.string s)) base (.slice (some ⟨g, 0, none⟩) n c) (sst (fun t => if t = j then s else S t) n) := by
  have h' : SRow w base (.slice (some ⟨g, 0, none⟩) (sst S n).length c) (sst S n) := by rw [sst_length]; exact h
  have := h'.put j s
  rw [sst_set, sst_length] at this
  exact this
theorem sst_congr {S T : Nat → ByteArray} {n : Nat} (h : ∀ i, i < n → S i = T i) : sst S n = sst T n := by
  unfold sst
  exact List.map_congr_left fun i hi => h i (List.mem_range.1 hi)
/-- The outer k have changed places. -/
def rvTo (S : Nat → ByteArray) (n k : Nat) (t : Nat) : ByteArray := if t < k ∨ n ≤ t + k then S (n - 1 - t) else S t
theorem rvTo_zero (S : Nat → ByteArray) (n : Nat) : sst (rvTo S n 0) n = sst S n :=
  sst_congr fun i hi => by unfold rvTo; rw [if_neg (by omega)]
theorem rvTo_end (S : Nat → ByteArray) (n k : Nat) (h : n ≤ 2 * k + 1) : sst (rvTo S n k) n = sst (fun t => S (n - 1 - t)) n :=
  sst_congr fun i hi => by
    unfold rvTo
    by_cases c : i < k ∨ n ≤ i + k
    · rw [if_pos c]
    · rw [if_neg c]
      have : n - 1 - i = i := by omega
      rw [this]
theorem rvTo_swap (S : Nat → ByteArray) (n k : Nat) (h : 2 * k + 1 < n) :
    sst (fun t => if t = n - 1 - k then S k else if t = k then S (n - 1 - k) else rvTo S n k t) n = sst (rvTo S n (k + 1)) n :=
  sst_congr fun i hi => by
    by_cases e1 : i = n - 1 - k
    · subst e1
      rw [if_pos rfl]
      unfold rvTo
      rw [if_pos (by omega)]
      congr 1; omega
    · rw [if_neg e1]
      by_cases e2 : i = k
      · subst e2
        rw [if_pos rfl]
        unfold rvTo
        rw [if_pos (by omega)]
      · rw [if_neg e2]
        unfold rvTo
        by_cases c : i < k ∨ n ≤ i + k
        · rw [if_pos c, if_pos (by omega)]
        · rw [if_neg c, if_neg (by omega)]
theorem rvTo_lo (S : Nat → ByteArray) (n k : Nat) (h : 2 * k + 1 < n) : rvTo S n k k = S k := by unfold rvTo; rw [if_neg (by omega)]
theorem rvTo_hi (S : Nat → ByteArray) (n k : Nat) (h : 2 * k + 1 < n) : rvTo S n k (n - 1 - k) = S (n - 1 - k) := by unfold rvTo; rw [if_neg (by omega)]

set_option maxHeartbeats 2000000 in
theorem sreverse_some (w : World) (base g n c : Nat) (S : Nat → ByteArray) (hr : SRow w base (.slice (some ⟨g, 0, none⟩) n c) (sst S n)) (hbw : base ≤ w.heap.size) (hbg : base ≤ g) (hn : n ≤ 1048576) (hc : n ≤ c) :
    Calls Try.prog 19 #[.slice (some ⟨g, 0, none⟩) n c] w fun e w' => e = .returned (.tuple #[]) ∧ SRow w' base (.slice (some ⟨g, 0, none⟩) n c) (sst (fun t => S (n - 1 - t)) n) ∧ Below base w w' ∧ w.heap.size ≤ w'.heap.size := by
  have HR := Lib.hid hr
  clear hr
  go_enter Try.func19, Try.ntmps19
  go_wp2
  go_loopw [2, 3] (fun i j wr => ∃ k : Nat, 2 * k ≤ n + 1 ∧ i = .int .i64 k ∧ j = .int .i64 ((n : Int) - 1 - k) ∧ Hid (SRow wr base (.slice (some ⟨g, 0, none⟩) n c) (sst (rvTo S n k) n)) ∧ Hid (Below base w wr) ∧ w.heap.size ≤ wr.heap.size) (fun i j _ => n + 1 - (intOf i).toNat)
  case atStart => exact ⟨0, by omega, rfl, by go_num, by rw [Hid, rvTo_zero]; exact HR.out, Below.refl _ _, Nat.le_refl _⟩
  case round =>
    obtain ⟨k, hk, rfl, rfl, hrow, hb, hz⟩ := hrel
    by_cases hlt : 2 * k + 1 < n
    · obtain ⟨c1, f1⟩ := srow_cell hrow.out (j := k) (by omega)
      obtain ⟨c2, f2⟩ := srow_cell hrow.out (j := n - 1 - k) (by omega)
      rw [rvTo_lo S n k hlt] at c1
      rw [rvTo_hi S n k hlt] at c2
      have hj : (n : Int) - 1 - k = ((n - 1 - k : Nat) : Int) := by omega
      obtain ⟨m, hm⟩ : ∃ m, n - 1 - k = m := ⟨_, rfl⟩
      rw [hm] at hj c2 f2
      rw [hj]
      have hkm : k < m := by omega
      have hmn : m < n := by omega
      have R3 : Hid (SRow ((wr.setCell ⟨g, k, none⟩ (.string (S m))).setCell ⟨g, m, none⟩ (.string (S k))) base (.slice (some ⟨g, 0, none⟩) n c) (sst (rvTo S n (k + 1)) n)) := by
        have := srow_put (srow_put hrow.out k (S m)) m (S k)
        rw [← rvTo_swap S n k hlt, hm]
        exact this
      have HM := Lib.hid hm
      clear hm hj
      go_wp2
      go_region
      all_goals
        go_wp2
        exact ⟨⟨k + 1, by omega, by go_num, by have := HM.out; go_num, R3.out, ((hb.out.setCell hbg _).setCell hbg _).drew, by simp; exact hz⟩, by simp [intOf]; omega⟩
    · have hd : ¬ ((k : Int) < (n : Int) - 1 - k) := by omega
      rw [rvTo_end S n k (by omega)] at hrow
      go_wp2
      go_returns
      exact ⟨rfl, hrow.out, hb.out, hz⟩

set_option maxHeartbeats 1000000 in
theorem sreverse_none (w : World) :
    Calls Try.prog 19 #[.slice none 0 0] w fun e w' => e = .returned (.tuple #[]) ∧ w = w' := by
  go_enter Try.func19, Try.ntmps19
  go_wp2
  go_rounds 1
  go_returns
  exact ⟨rfl, rfl⟩
end Go.Proofs.Ytnfmpnkdnndmkaa
