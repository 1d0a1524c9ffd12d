/-
  First fit: each weight is in the first truck with room; at most twice as many trucks as the fewest.
-/
import Derived.Test.YtmoghfgfdbdioaaLeastL
import Derived.Test.YtmoghfgfdbdioaaTrkD
namespace Go.Proofs.Ytmoghfgfdbdioaa.MW
set_option linter.unusedVariables false

theorem ff_given {W : List Int} {c : Int} (hw : wOk W c = true) : ∀ m, m ≤ W.length → ∀ i, i < m → gz (fGiven W c (upTo W.length) m) i = (fRoom W c (upTo W.length) i : Int)
  | 0, _, i, hi => absurd hi (by omega)
  | m + 1, hm, i, hi => by
    have ih := ff_given hw m (by omega)
    rw [fGiven_succ, gz_upTo (by omega), Int.toNat_natCast]
    by_cases e : m = i
    · subst e; rw [gz_set_self (by rw [fGiven_length]; omega)]
    · rw [gz_set_ne e]; exact ih i (by omega)
theorem ff_loads {W : List Int} {c : Int} (hw : wOk W c = true) {G : List Int} (hG : ∀ i, i < W.length → gz G i = (fRoom W c (upTo W.length) i : Int)) : ∀ m, m ≤ W.length → ∀ k : Nat, gz (fLoads W c (upTo W.length) m) k = part W G (k : Int) m
  | 0, _, k => by rw [fLoads_zero, gz_replicate]; rfl
  | m + 1, hm, k => by
    have ih := ff_loads hw hG m (by omega)
    have hr := fRoom_is (O := upTo W.length) hw (k := m) (by omega)
    rw [fLoads_succ, gz_upTo (by omega), Int.toNat_natCast]
    show _ = if gz G m = (k : Int) then part W G k m + gz W m else part W G k m
    rw [hG m (by omega)]
    by_cases e : fRoom W c (upTo W.length) m = k
    · rw [if_pos (by rw [e]), e, gz_set_self (by rw [fLoads_length, ← e]; exact hr.1), ih k]
    · rw [if_neg (by omega), gz_set_ne e, ih k]
theorem part_mono {W : List Int} (hw : ∀ i, 0 ≤ gz W i ∧ gz W i ≤ 1000) (G : List Int) (k : Int) {m : Nat} : ∀ {n : Nat}, m ≤ n → part W G k m ≤ part W G k n
  | 0, h => by
    obtain rfl : m = 0 := by omega
    exact Int.le_refl _
  | n + 1, h => by
    by_cases e : m = n + 1
    · subst e; exact Int.le_refl _
    · have ih := part_mono hw G k (m := m) (n := n) (by omega)
      have := hw n
      show _ ≤ if gz G n = k then part W G k n + gz W n else part W G k n
      split <;> omega
theorem part_has {W : List Int} (hw : ∀ i, 0 ≤ gz W i ∧ gz W i ≤ 1000) (G : List Int) {k : Int} {i n : Nat} (hi : i < n) (he : gz G i = k) : gz W i ≤ part W G k n := by
  have h1 := part_mono hw G k (m := i + 1) (n := n) (by omega)
  have h2 : part W G k (i + 1) = if gz G i = k then part W G k i + gz W i else part W G k i := rfl
  rw [if_pos he] at h2
  have h3 := (part_bd hw G k i).1
  omega
theorem part_some {W G : List Int} {k : Int} : ∀ {m : Nat}, 0 < part W G k m → ∃ i, i < m ∧ gz G i = k
  | 0, h => absurd h (Int.lt_irrefl 0)
  | m + 1, h => by
    by_cases e : gz G m = k
    · exact ⟨m, by omega, e⟩
    · have h2 : part W G k (m + 1) = part W G k m := if_neg e
      rw [h2] at h
      obtain ⟨i, hi, h3⟩ := part_some h
      exact ⟨i, by omega, h3⟩
/-- What first fit gives, at each weight and at the end. -/
theorem first_law {W : List Int} {c : Int} (hw : wOk W c = true) {G : List Int} (hG : firstFit W c = G) :
    G.length = W.length ∧ gOk G = true ∧ (∀ i, i < W.length → 0 ≤ gz G i ∧ gz G i ≤ (i : Int) ∧ part W G (gz G i) i + gz W i ≤ c ∧ ∀ k : Nat, (k : Int) < gz G i → ¬ part W G (k : Int) i + gz W i ≤ c) ∧
    (∀ k : Nat, part W G (k : Int) W.length ≤ c) := by
  have hl : W.length ≤ 8 := ((wOk_iff W c).1 hw).2.1
  rw [firstFit_yes hw] at hG
  have h1 : G.length = W.length := by rw [← hG, fGiven_length]
  have h2 : ∀ i, i < W.length → gz G i = (fRoom W c (upTo W.length) i : Int) := fun i hi => by rw [← hG]; exact ff_given hw _ (Nat.le_refl _) i hi
  have h3 := ff_loads hw h2
  have h4 : ∀ i, i < W.length → fRoom W c (upTo W.length) i ≤ i := fun i hi => by
    obtain ⟨q1, q2⟩ := fit_inv (O := upTo W.length) hw i (by omega)
    have hx := ((wOk_iff W c).1 hw).2.2 i hi
    have hr := room_first (L := fLoads W c (upTo W.length) i) (x := gz W (gz (upTo W.length) i).toNat) (c := c) (m := i) (by rw [fLoads_length]; omega) (by rw [q1 i (Nat.le_refl _), gz_upTo hi, Int.toNat_natCast]; omega)
    exact hr.1
  refine ⟨h1, (gOk_iff G).2 ⟨by omega, fun i hi => by rw [h2 i (by omega)]; have := h4 i (by omega); omega⟩, fun i hi => ?_, fun k => ?_⟩
  · obtain ⟨r1, r2, r3⟩ := fRoom_is (O := upTo W.length) hw hi
    rw [gz_upTo hi, Int.toNat_natCast] at r2 r3
    rw [h2 i hi]
    refine ⟨by omega, by have := h4 i hi; omega, by rw [← h3 i (by omega)]; exact r2, fun k hk => ?_⟩
    rw [← h3 i (by omega)]
    exact r3 k (by omega)
  · rw [← h3 _ (Nat.le_refl _)]
    exact ((fit_inv (O := upTo W.length) hw _ (Nat.le_refl _)).2 k).2
theorem sumK_part {W G : List Int} (h : W.length = G.length) : ∀ n : Nat, sumK W G (n + 1) = sumK W G n + part W G (n : Int) W.length := fun n => by
  show sumK W G n + rp W G (n : Int) = _
  rw [rp_part (n : Int) W G h]
theorem sumK_pairs {W G : List Int} {c : Int} (h : W.length = G.length) {N : Nat} (hp : ∀ k, k + 1 < N → c + 1 ≤ part W G (k : Int) W.length + part W G ((k + 1 : Nat) : Int) W.length) : ∀ m : Nat, 2 * m ≤ N → (m : Int) * (c + 1) ≤ sumK W G (2 * m)
  | 0, _ => by simp [sumK]
  | m + 1, hm => by
    have ih := sumK_pairs h hp m (by omega)
    have h1 := sumK_part h (2 * m)
    have h2 := sumK_part h (2 * m + 1)
    have h3 := hp (2 * m) (by omega)
    rw [show 2 * (m + 1) = 2 * m + 1 + 1 by omega, h2, h1, Int.natCast_succ, Int.add_mul, Int.one_mul]
    omega
theorem sumK_mono {W G : List Int} (h : W.length = G.length) (hw : ∀ i, 0 ≤ gz W i ∧ gz W i ≤ 1000) {m : Nat} : ∀ {n : Nat}, m ≤ n → sumK W G m ≤ sumK W G n
  | 0, h0 => by
    obtain rfl : m = 0 := by omega
    exact Int.le_refl _
  | n + 1, h0 => by
    by_cases e : m = n + 1
    · subst e; exact Int.le_refl _
    · have ih := sumK_mono h hw (m := m) (n := n) (by omega)
      rw [sumK_part h]
      have := (part_bd hw G (n : Int) W.length).1
      omega
/-- The trucks of first fit are at most twice the fewest, and no fewer. -/
theorem first_bound {W : List Int} {c : Int} (hw : wOk W c = true) {G : List Int} (hG : firstFit W c = G) : trucks G ≤ 2 * leastTrucks W c ∧ leastTrucks W c ≤ trucks G ∧ fine W c G = true ∧ trucks G = cnt G ∧ 0 ≤ cnt G ∧ cnt G ≤ 8 := by
  obtain ⟨h1, h2, h3, h4⟩ := first_law hw hG
  have hwz := wOk_gz hw
  obtain ⟨w1, w2, w3⟩ := (wOk_iff W c).1 hw
  have hc8 := cnt_le8 h2
  have hlt : ∀ i, i < W.length → gz G i < cnt G := fun i hi => cntTo_lt G G.length i (by omega)
  have hnn : ∀ i, i < W.length → 0 ≤ gz G i := fun i hi => (h3 i hi).1
  have hfine : fine W c G = true := by
    unfold fine ldOk
    rw [hw, h2, decide_eq_true h1.symm, Bool.true_and, Bool.true_and, Bool.true_and, List.all_eq_true]
    intro x hx
    obtain ⟨k, hk, e⟩ := mem_gz hx
    unfold loads at hk e
    rw [loadsTo_length] at hk
    rw [← e, part_loads hnn hlt W.length (Nat.le_refl _) k (by omega)]
    exact decide_eq_true (h4 k)
  rw [trucks_yes h2]
  have hleast := fine_least hw h2 h1.symm (fun k _ => h4 k)
  refine ⟨?_, hleast, hfine, rfl, hc8.1, hc8.2⟩
  -- each truck is used
  have hused : ∀ k : Nat, (k : Int) < cnt G → ∃ i, i < W.length ∧ gz G i = (k : Int) := fun k hk => by
    obtain ⟨i, hi, e⟩ := cnt_has G G.length (by show 0 < cnt G; omega)
    have e' : gz G i = cnt G - 1 := e
    by_cases hk1 : (k : Int) = cnt G - 1
    · exact ⟨i, by omega, by omega⟩
    · have h5 := (h3 i (by omega)).2.2.2 k (by omega)
      have h6 := w3 i (by omega)
      obtain ⟨j, hj, hjk⟩ := part_some (W := W) (G := G) (k := (k : Int)) (m := i) (by omega)
      exact ⟨j, by omega, hjk⟩
  obtain ⟨N, hN⟩ := Int.eq_ofNat_of_zero_le hc8.1
  have hpair : ∀ k, k + 1 < N → c + 1 ≤ part W G (k : Int) W.length + part W G ((k + 1 : Nat) : Int) W.length := fun k hk => by
    obtain ⟨i, hi, e⟩ := hused (k + 1) (by omega)
    have h5 := (h3 i hi).2.2.2 k (by rw [e]; omega)
    have h6 := part_mono hwz G (k : Int) (m := i) (n := W.length) (by omega)
    have h7 := part_has hwz G hi e
    omega
  obtain ⟨b, hb⟩ := Int.eq_ofNat_of_zero_le (least_bd hw).1
  have hsum := least_sum hw hb
  have hall : sumK W G N = sumL W := sum_loads W G N h1.symm fun y hy => by
    obtain ⟨i, hi, e⟩ := mem_gz hy
    rw [← e]
    exact ⟨hnn i (by omega), by rw [← hN]; exact hlt i (by omega)⟩
  rw [hN, hb]
  by_cases hle : N ≤ 2 * b
  · omega
  · exfalso
    have hp := sumK_pairs (c := c) h1.symm hpair b (by omega)
    have hm := sumK_mono h1.symm hwz (m := 2 * b) (n := N) (by omega)
    rw [Int.mul_add, Int.mul_one] at hp
    have hb0 : b = 0 := by omega
    subst hb0
    obtain ⟨i, hi, e⟩ := hused 0 (by omega)
    have h8 := part_has hwz G hi e
    have h9 := w3 i hi
    have h10 := sumK_part h1.symm (W := W) (G := G) 0
    have h11 := sumK_mono h1.symm hwz (m := 1) (n := N) (by omega)
    have h12 : sumK W G 0 = 0 := rfl
    simp at h10 h8 hsum
    omega
/-- The loads of n + 1 trucks behind the first m weights. -/
def ffL (W G : List Int) (n m : Nat) : List Int := (List.range (n + 1)).map fun k : Nat => part W G (k : Int) m
theorem ffL_length (W G : List Int) (n m : Nat) : (ffL W G n m).length = n + 1 := by simp [ffL]
theorem gz_ffL {W G : List Int} {n m k : Nat} (h : k < n + 1) : gz (ffL W G n m) k = part W G (k : Int) m := by
  rw [gz_at (by rw [ffL_length]; exact h)]
  simp [ffL]
theorem ffL_zero (W G : List Int) (n : Nat) : ffL W G n 0 = List.replicate (n + 1) 0 := by
  refine gz_ext (by rw [ffL_length, List.length_replicate]) fun k hk => ?_
  rw [ffL_length] at hk
  rw [gz_ffL hk, gz_replicate]
  rfl
theorem ffL_succ {W G : List Int} {n m g : Nat} (hg : gz G m = (g : Int)) (hgn : g < n + 1) : ffL W G n (m + 1) = (ffL W G n m).set g (gz (ffL W G n m) g + gz W m) := by
  refine gz_ext (by rw [List.length_set, ffL_length, ffL_length]) fun k hk => ?_
  rw [ffL_length] at hk
  rw [gz_ffL hk]
  show (if gz G m = (k : Int) then part W G k m + gz W m else part W G k m) = _
  by_cases e : g = k
  · subst e
    rw [if_pos hg, gz_set_self (by rw [ffL_length]; exact hgn), gz_ffL hgn]
  · rw [if_neg (by omega), gz_set_ne e, gz_ffL hk]
end Go.Proofs.Ytmoghfgfdbdioaa.MW
