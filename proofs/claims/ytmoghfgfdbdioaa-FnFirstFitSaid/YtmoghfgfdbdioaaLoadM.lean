/-
  Loads are sums: the load of each truck, and all of them together.
-/
import Derived.Test.YtmoghfgfdbdioaaNumA
namespace Go.Proofs.Ytmoghfgfdbdioaa.MW
set_option linter.unusedVariables false

/-- The weights among the first m that go to truck k. -/
def part (W G : List Int) (k : Int) : Nat → Int
  | 0 => 0
  | m + 1 => if gz G m = k then part W G k m + gz W m else part W G k m
/-- The first m weights together. -/
def tot (W : List Int) : Nat → Int
  | 0 => 0
  | m + 1 => tot W m + gz W m
/-- What is left when the first k trucks are gone. -/
def left (W G : List Int) (n : Nat) : Nat → Int
  | 0 => tot W n
  | k + 1 => left W G n k - part W G (k : Int) n
theorem part_loads {W G : List Int} (hg : ∀ i, i < W.length → 0 ≤ gz G i) (hc : ∀ i, i < W.length → gz G i < cnt G) : ∀ m, m ≤ W.length → ∀ k : Nat, (k : Int) < cnt G → gz (loadsTo W G m) k = part W G k m
  | 0, _, k, hk => by show gz (List.replicate _ 0) k = 0; exact gz_replicate _ _
  | m + 1, hm, k, hk => by
    have ih := part_loads hg hc m (by omega)
    have h0 := hg m (by omega)
    have h1 := hc m (by omega)
    show gz ((loadsTo W G m).set (gz G m).toNat (gz (loadsTo W G m) (gz G m).toNat + gz W m)) k = if gz G m = (k : Int) then part W G k m + gz W m else part W G k m
    by_cases e : gz G m = (k : Int)
    · rw [if_pos e, show (gz G m).toNat = k by omega, gz_set_self (by rw [loadsTo_length]; omega), ih k hk]
    · rw [if_neg e, gz_set_ne (by omega), ih k hk]
theorem part_bd {W : List Int} (hw : ∀ i, 0 ≤ gz W i ∧ gz W i ≤ 1000) (G : List Int) (k : Int) : ∀ m, 0 ≤ part W G k m ∧ part W G k m ≤ 1000 * m
  | 0 => by simp [part]
  | m + 1 => by
    have ih := part_bd hw G k m
    have := hw m
    unfold part
    split <;> omega
theorem tot_bd {W : List Int} (hw : ∀ i, 0 ≤ gz W i ∧ gz W i ≤ 1000) : ∀ m, 0 ≤ tot W m ∧ tot W m ≤ 1000 * m
  | 0 => by simp [tot]
  | m + 1 => by
    have ih := tot_bd hw m
    have := hw m
    unfold tot
    omega
/-- The weights that go to trucks from k on. -/
def rest (W G : List Int) (k : Int) : Nat → Int
  | 0 => 0
  | m + 1 => if k ≤ gz G m then rest W G k m + gz W m else rest W G k m
theorem rest_all {W G : List Int} : ∀ m, (∀ i, i < m → 0 ≤ gz G i) → rest W G 0 m = tot W m
  | 0, _ => rfl
  | m + 1, h => by
    have := h m (by omega)
    unfold rest tot
    rw [if_pos this, rest_all m fun i hi => h i (by omega)]
theorem rest_step (W G : List Int) (k : Int) : ∀ m, rest W G k m - part W G k m = rest W G (k + 1) m
  | 0 => rfl
  | m + 1 => by
    have ih := rest_step W G k m
    unfold rest part
    by_cases h1 : gz G m = k
    · rw [if_pos (by omega), if_pos h1, if_neg (by omega)]; omega
    · by_cases h2 : k ≤ gz G m
      · rw [if_pos h2, if_neg h1, if_pos (by omega)]; omega
      · rw [if_neg h2, if_neg h1, if_neg (by omega)]; omega
theorem rest_none {W G : List Int} {k : Int} : ∀ m, (∀ i, i < m → gz G i < k) → rest W G k m = 0
  | 0, _ => rfl
  | m + 1, h => by
    have := h m (by omega)
    unfold rest
    rw [if_neg (by omega), rest_none m fun i hi => h i (by omega)]
theorem left_rest {W G : List Int} {n : Nat} (hg : ∀ i, i < n → 0 ≤ gz G i) : ∀ k, left W G n k = rest W G (k : Int) n
  | 0 => (rest_all n hg).symm
  | k + 1 => by
    show left W G n k - part W G (k : Int) n = _
    rw [left_rest hg k, rest_step]
    rfl
theorem rest_bd {W : List Int} (hw : ∀ i, 0 ≤ gz W i ∧ gz W i ≤ 1000) (G : List Int) (k : Int) : ∀ m, 0 ≤ rest W G k m ∧ rest W G k m ≤ 1000 * m
  | 0 => by simp [rest]
  | m + 1 => by
    have ih := rest_bd hw G k m
    have := hw m
    unfold rest
    split <;> omega
theorem cnt_has (G : List Int) : ∀ m, 0 < cntTo G m → ∃ i, i < m ∧ gz G i = cntTo G m - 1
  | 0, h => absurd h (Int.lt_irrefl 0)
  | m + 1, h => by
    have e : cntTo G (m + 1) = max (cntTo G m) (gz G m + 1) := rfl
    by_cases h1 : cntTo G m ≤ gz G m + 1
    · exact ⟨m, by omega, by omega⟩
    · obtain ⟨i, hi, e2⟩ := cnt_has G m (by omega)
      exact ⟨i, by omega, by omega⟩
theorem part_pos {W G : List Int} (hw : ∀ i, 0 ≤ gz W i ∧ gz W i ≤ 1000) {k : Int} : ∀ m i, i < m → gz G i = k → 1 ≤ gz W i → 1 ≤ part W G k m
  | m + 1, i, hi, e, h1 => by
    have hb := part_bd hw G k m
    unfold part
    by_cases him : i = m
    · subst him; rw [if_pos e]; omega
    · have ih := part_pos hw m i (by omega) e h1
      have := hw m
      split <;> omega
/-- What the law of loads asks. -/
theorem load_law {W G : List Int} (h1 : wOk W 1000 = true) (h2 : gOk G = true) (h3 : W.length = G.length) {R : List Int} (hR : truckLoads W G = R) :
    (R.length : Int) = cnt G ∧ R.length ≤ 8 ∧ (∀ k (hk : k < R.length), R[k] = part W G (k : Int) W.length) ∧ left W G W.length R.length = 0 ∧ (∀ k, k ≤ R.length → 0 ≤ left W G W.length k ∧ left W G W.length k ≤ 8000) ∧ (0 < cnt G → ∃ k : Nat, k < R.length ∧ (k : Int) = cnt G - 1 ∧ ∀ (hk : k < R.length), 0 < R[k]) := by
  obtain ⟨w1, w2, w3⟩ := (wOk_iff W 1000).1 h1
  obtain ⟨g1, g2⟩ := (gOk_iff G).1 h2
  have hw := wOk_gz h1
  have hok : ldOk W 1000 G = true := by unfold ldOk; rw [h1, h2, decide_eq_true h3]; rfl
  have hR2 : truckLoads W G = loads W G := by unfold truckLoads; rw [hok]; rfl
  rw [hR2] at hR
  have hc8 := cnt_le8 h2
  have hg0 : ∀ i, i < W.length → 0 ≤ gz G i := fun i hi => (g2 i (by omega)).1
  have hgc : ∀ i, i < W.length → gz G i < cnt G := fun i hi => cntTo_lt G G.length i (by omega)
  have hl : R.length = (cnt G).toNat := by rw [← hR]; exact loadsTo_length W G _
  have hpt := part_loads hg0 hgc W.length (Nat.le_refl _)
  have hat : ∀ k (hk : k < R.length), R[k] = part W G (k : Int) W.length := fun k hk => by
    rw [← hpt k (by omega), ← gz_at hk, ← hR]; rfl
  refine ⟨by omega, by omega, hat, ?_, fun k hk => ?_, fun h0 => ?_⟩
  · rw [left_rest hg0, rest_none]
    intro i hi
    have := hgc i hi
    omega
  · rw [left_rest hg0]
    have := rest_bd hw G (k : Int) W.length
    omega
  · obtain ⟨i, hi, e⟩ := cnt_has G G.length h0
    refine ⟨(cnt G - 1).toNat, by omega, by omega, fun hk => ?_⟩
    rw [hat _ hk]
    have hk2 : (((cnt G - 1).toNat : Nat) : Int) = cnt G - 1 := by omega
    rw [hk2]
    have := part_pos hw (G := G) (k := cnt G - 1) W.length i (by omega) e (w3 i (by omega)).1
    omega
end Go.Proofs.Ytmoghfgfdbdioaa.MW
