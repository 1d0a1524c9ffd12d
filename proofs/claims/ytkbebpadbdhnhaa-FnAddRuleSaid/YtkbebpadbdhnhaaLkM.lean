/-
  Which rule a letter meets: the one whose prefix is the longest beginning of its code.
-/
import Derived.Test.YtkbebpadbdhnhaaLookUp
namespace Go.Proofs.Ytkbebpadbdhnhaa
open Go.PlainAid (bt get_bt bt_nonneg bt_le)
set_option linter.unusedVariables false

theorem M.bt_pre {s : ByteArray} {m i : Nat} (hm : m ≤ s.size) (hi : i < m) : bt (s.extract 0 m) i = bt s i := by
  have h0 : (s.extract 0 m).size = m := by simp; omega
  have h1 := get_bt (s.extract 0 m) i (by omega)
  have h2 := get_bt s i (by omega)
  rw [← h1, ← h2]
  simp [ByteArray.getElem_extract]
theorem M.size_pre {s : ByteArray} {m : Nat} (hm : m ≤ s.size) : (s.extract 0 m).size = m := by simp; omega
theorem M.dgs_pre {c : ByteArray} {m : Nat} (hm : m ≤ c.size) : M.dgs (c.extract 0 m) = M.dg c m := by
  unfold M.dgs
  rw [M.size_pre hm]
  unfold M.dg
  refine List.map_congr_left fun i hi => ?_
  rw [M.bt_pre hm (List.mem_range.1 hi)]
theorem M.digs_pre {c : ByteArray} {m : Nat} (h : M.digs c = true) (hm : m ≤ c.size) : M.digs (c.extract 0 m) = true := by
  have hl := M.digs_len h
  have hs := M.size_pre hm
  rw [M.digs_end]
  · exact decide_eq_true (by omega)
  · rw [M.digsTo_iff, hs]
    intro i hi
    rw [M.bt_pre hm hi]
    exact M.digs_bt h i (by omega)
theorem M.rul_apart {P N : Nat → ByteArray} {n : Nat} (h : M.rul n P N = true) : ∀ i k, i < n → k < i → M.dgs (P k) ≠ M.dgs (P i) := fun i k hi hk e => by
  obtain ⟨h20, hd⟩ := M.rul_yes h
  have d1 := (M.rul_digs h).2
  exact (hd i hi).2.2 k hk (M.dgs_inj (d1 k (by omega)) (d1 i hi) e)
theorem M.miss_dg {P N : Nat → ByteArray} {n : Nat} {c : ByteArray} (h : M.rul n P N = true) (hc : M.digs c = true) {j : Nat} (hj : j ≤ c.size) (hm : ∀ k, k < n → P k ≠ c.extract 0 j) : M.ruleAt P N n (M.dg c j) = none :=
  M.ruleAt_none.2 fun i hi e => hm i hi (M.dgs_inj ((M.rul_digs h).2 i hi) (M.digs_pre hc hj) (by rw [M.dgs_pre hj]; exact e))
theorem M.look_hits {P N : Nat → ByteArray} {n : Nat} {c : ByteArray} (h : M.rul n P N = true) (hc : M.code c = true) {m i : Nat} (hm : m ≤ c.size) (hi : i < n) (he : P i = c.extract 0 m) (hn : ∀ j, m < j → j ≤ c.size → ∀ k, k < n → P k ≠ c.extract 0 j) : M.lookUp P N n c = some (N i) := by
  have hcd := (M.code_yes hc).1
  rw [M.lookUp_yes h hc]
  refine M.look_at hm ?_ fun j h1 h2 => M.miss_dg h hcd h2 (hn j h1 h2)
  rw [← M.dgs_pre hm, ← he]
  exact M.ruleAt_hit (M.rul_apart h) i hi
theorem M.look_misses {P N : Nat → ByteArray} {n : Nat} {c : ByteArray} (h : M.rul n P N = true) (hc : M.code c = true) (hn : ∀ j, j ≤ c.size → ∀ k, k < n → P k ≠ c.extract 0 j) : M.lookUp P N n c = none := by
  rw [M.lookUp_yes h hc]
  exact M.look_none fun j h2 => M.miss_dg h (M.code_yes hc).1 h2 (hn j h2)
end Go.Proofs.Ytkbebpadbdhnhaa
