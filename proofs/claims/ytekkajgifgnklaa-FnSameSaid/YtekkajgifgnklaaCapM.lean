/-
  Plain functions on numbers of bins and passes. No program is named here.
-/
import Derived.PlainAid
namespace Go.Proofs.Ytekkajgifgnklaa.M

/-- The shape of a plan. -/
def shape (b p : Int) : Bool := decide (2 ≤ b ∧ b ≤ 16 ∧ 1 ≤ p ∧ p ≤ 4)
/-- Bins to the power of passes. -/
def pw (b : Int) : Nat → Int
  | 0 => 1
  | k + 1 => pw b k * b
def cap (b p : Int) : Int := if shape b p = true then pw b p.toNat else -1
theorem pw_zero (b : Int) : pw b 0 = 1 := rfl
theorem pw_succ (b : Int) (k : Nat) : pw b (k + 1) = pw b k * b := rfl
theorem pw_fin : ∀ b : Fin 17, ∀ k : Fin 5, 0 ≤ pw (b.val : Int) k.val ∧ pw (b.val : Int) k.val ≤ 65536 ∧ (2 ≤ b.val → 1 ≤ pw (b.val : Int) k.val) := by decide
theorem pw_bd (b : Int) (k : Nat) (b0 : 0 ≤ b) (b1 : b ≤ 16) (hk : k ≤ 4) : 0 ≤ pw b k ∧ pw b k ≤ 65536 := by
  obtain ⟨n, rfl⟩ := Int.eq_ofNat_of_zero_le b0
  have h := pw_fin ⟨n, by omega⟩ ⟨k, by omega⟩
  exact ⟨h.1, h.2.1⟩
theorem pw_pos (b : Int) (k : Nat) (b0 : 2 ≤ b) (b1 : b ≤ 16) (hk : k ≤ 4) : 1 ≤ pw b k := by
  obtain ⟨n, rfl⟩ := Int.eq_ofNat_of_zero_le (show 0 ≤ b by omega)
  have h := pw_fin ⟨n, by omega⟩ ⟨k, by omega⟩
  exact h.2.2 (by show 2 ≤ n; omega)
theorem cap_yes {b p : Int} (h : shape b p = true) : cap b p = pw b p.toNat := if_pos h
theorem cap_no {b p : Int} (h : shape b p = false) : cap b p = -1 := if_neg (by rw [h]; decide)
theorem shape_yes {b p : Int} (h : shape b p = true) : 2 ≤ b ∧ b ≤ 16 ∧ 1 ≤ p ∧ p ≤ 4 := of_decide_eq_true h
theorem shape_no {b p : Int} (h : shape b p = false) : b < 2 ∨ 16 < b ∨ p < 1 ∨ 4 < p := by have := of_decide_eq_false h; omega
theorem cap_bd (b p : Int) : -1 ≤ cap b p ∧ cap b p ≤ 65536 := by
  cases h : shape b p
  · rw [cap_no h]; omega
  · have := shape_yes h
    have := pw_bd b p.toNat (by omega) (by omega) (by omega)
    rw [cap_yes h]; omega
theorem cap_neg {b p : Int} : cap b p < 0 ↔ shape b p = false := by
  cases h : shape b p
  · rw [cap_no h]; simp
  · have := shape_yes h
    have := pw_bd b p.toNat (by omega) (by omega) (by omega)
    rw [cap_yes h]; simp; omega
/-- The least number from x on, of k numbers, whose value is not less than c. -/
def least (f : Int → Int) (c : Int) : Nat → Int → Int
  | 0, _ => -1
  | k + 1, x => if c ≤ f x then x else least f c k (x + 1)
theorem least_end (f : Int → Int) (c x : Int) : least f c 0 x = -1 := rfl
theorem least_hit {f : Int → Int} {c x : Int} (k : Nat) (h : c ≤ f x) : least f c (k + 1) x = x := if_pos h
theorem least_miss {f : Int → Int} {c x : Int} (k : Nat) (h : ¬ c ≤ f x) : least f c (k + 1) x = least f c k (x + 1) := if_neg h
theorem least_none {f : Int → Int} {c : Int} : ∀ (k : Nat) (x : Int), (∀ y, x ≤ y → y < x + k → ¬ c ≤ f y) → least f c k x = -1
  | 0, _, _ => rfl
  | k + 1, x, h => by rw [least_miss k (h x (by omega) (by omega)), least_none k (x + 1) fun y h1 h2 => h y (by omega) (by omega)]
/-- What is known of the least number: nothing before it serves; it serves, or there is none. -/
theorem least_spec {f : Int → Int} {c : Int} : ∀ (k : Nat) (x : Int), (least f c k x = -1 ∧ ∀ y, x ≤ y → y < x + k → f y < c) ∨ (x ≤ least f c k x ∧ least f c k x < x + k ∧ c ≤ f (least f c k x) ∧ ∀ y, x ≤ y → y < least f c k x → f y < c)
  | 0, x => Or.inl ⟨rfl, fun y h1 h2 => by omega⟩
  | k + 1, x => by
    by_cases h : c ≤ f x
    · rw [least_hit k h]
      exact Or.inr ⟨by omega, by omega, h, fun y h1 h2 => by omega⟩
    · rw [least_miss k h]
      rcases least_spec (f := f) (c := c) k (x + 1) with ⟨e, hn⟩ | ⟨h1, h2, h3, h4⟩
      · refine Or.inl ⟨e, fun y hy1 hy2 => ?_⟩
        by_cases e2 : y = x
        · subst e2; omega
        · exact hn y (by omega) (by omega)
      · refine Or.inr ⟨by omega, by omega, h3, fun y hy1 hy2 => ?_⟩
        by_cases e2 : y = x
        · subst e2; omega
        · exact h4 y (by omega) hy2
def leastBins (c p : Int) : Int := if 0 ≤ c then least (fun b => cap b p) c 15 2 else -1
def leastPasses (c b : Int) : Int := if 0 ≤ c then least (fun p => cap b p) c 4 1 else -1
theorem leastBins_neg {c p : Int} (h : c < 0) : leastBins c p = -1 := if_neg (by omega)
theorem leastPasses_neg {c p : Int} (h : c < 0) : leastPasses c p = -1 := if_neg (by omega)
theorem leastBins_pos {c p : Int} (h : 0 ≤ c) : leastBins c p = least (fun b => cap b p) c 15 2 := if_pos h
theorem leastPasses_pos {c p : Int} (h : 0 ≤ c) : leastPasses c p = least (fun b => cap p b) c 4 1 := if_pos h
theorem leastBins_shapeless {c p : Int} (h : p < 1 ∨ 4 < p) : leastBins c p = -1 := by
  by_cases hc : 0 ≤ c
  · rw [leastBins_pos hc]
    refine least_none _ _ fun y _ _ => ?_
    have hs : shape y p = false := decide_eq_false (by omega)
    show ¬ c ≤ cap y p
    rw [cap_no hs]; omega
  · exact leastBins_neg (by omega)
theorem leastPasses_shapeless {c b : Int} (h : b < 2 ∨ 16 < b) : leastPasses c b = -1 := by
  by_cases hc : 0 ≤ c
  · rw [leastPasses_pos hc]
    refine least_none _ _ fun y _ _ => ?_
    have hs : shape b y = false := decide_eq_false (by omega)
    show ¬ c ≤ cap b y
    rw [cap_no hs]; omega
  · exact leastPasses_neg (by omega)
/-- Which numbers of bins serve: from the least on. -/
theorem cap_mono_fin : ∀ b : Fin 17, ∀ d : Fin 17, ∀ k : Fin 5, b.val ≤ d.val → pw (b.val : Int) k.val ≤ pw (d.val : Int) k.val := by decide
theorem pw_mono_b {b d : Int} {k : Nat} (b0 : 0 ≤ b) (h : b ≤ d) (d1 : d ≤ 16) (hk : k ≤ 4) : pw b k ≤ pw d k := by
  obtain ⟨n, rfl⟩ := Int.eq_ofNat_of_zero_le b0
  obtain ⟨m, rfl⟩ := Int.eq_ofNat_of_zero_le (show 0 ≤ d by omega)
  exact cap_mono_fin ⟨n, by omega⟩ ⟨m, by omega⟩ ⟨k, by omega⟩ (by show n ≤ m; omega)
theorem pw_mono_fin : ∀ b : Fin 17, ∀ k : Fin 5, ∀ j : Fin 5, 1 ≤ b.val → k.val ≤ j.val → pw (b.val : Int) k.val ≤ pw (b.val : Int) j.val := by decide
theorem pw_mono_p {b : Int} {k j : Nat} (b0 : 1 ≤ b) (b1 : b ≤ 16) (h : k ≤ j) (hk : j ≤ 4) : pw b k ≤ pw b j := by
  obtain ⟨n, rfl⟩ := Int.eq_ofNat_of_zero_le (show 0 ≤ b by omega)
  exact pw_mono_fin ⟨n, by omega⟩ ⟨k, by omega⟩ ⟨j, by omega⟩ (by show 1 ≤ n; omega) h
/-- A number of bins serves exactly from the least one on. -/
theorem leastBins_iff {c p b : Int} (hc : 0 ≤ c) (b0 : 2 ≤ b) (b1 : b ≤ 16) (hp : 0 ≤ cap b p) : c ≤ cap b p ↔ 0 < leastBins c p ∧ leastBins c p ≤ b := by
  have hsb : shape b p = true := by
    cases h : shape b p
    · rw [cap_no h] at hp; omega
    · rfl
  have sb := shape_yes hsb
  rw [leastBins_pos hc]
  have capE : ∀ y, 2 ≤ y → y ≤ 16 → cap y p = pw y p.toNat := fun y h1 h2 => cap_yes (decide_eq_true (by omega))
  rcases least_spec (f := fun b => cap b p) (c := c) 15 2 with ⟨e, hn⟩ | ⟨h1, h2, h3, h4⟩
  · rw [e]
    have := hn b (by omega) (by omega)
    constructor
    · intro h; omega
    · intro h; omega
  · generalize least (fun b => cap b p) c 15 2 = L at h1 h2 h3 h4 ⊢
    constructor
    · intro h
      refine ⟨by omega, ?_⟩
      by_cases hlt : b < L
      · have := h4 b (by omega) hlt; omega
      · omega
    · rintro ⟨_, h⟩
      have := pw_mono_b (b := L) (d := b) (k := p.toNat) (by omega) h (by omega) (by omega)
      rw [capE L (by omega) (by omega)] at h3
      rw [capE b (by omega) (by omega)]
      omega
theorem leastBins_ge (c p : Int) : leastBins c p = -1 ∨ 2 ≤ leastBins c p := by
  by_cases hc : 0 ≤ c
  · rw [leastBins_pos hc]
    rcases least_spec (f := fun b => cap b p) (c := c) 15 2 with ⟨e, _⟩ | ⟨h1, _⟩
    · exact Or.inl e
    · exact Or.inr h1
  · exact Or.inl (leastBins_neg (by omega))
theorem leastPasses_iff {c p b : Int} (hc : 0 ≤ c) (p0 : 1 ≤ p) (p1 : p ≤ 4) (hp : 0 ≤ cap b p) : c ≤ cap b p ↔ 0 < leastPasses c b ∧ leastPasses c b ≤ p := by
  have hsb : shape b p = true := by
    cases h : shape b p
    · rw [cap_no h] at hp; omega
    · rfl
  have sb := shape_yes hsb
  rw [leastPasses_pos hc]
  have capE : ∀ y, 1 ≤ y → y ≤ 4 → cap b y = pw b y.toNat := fun y h1 h2 => cap_yes (decide_eq_true (by omega))
  rcases least_spec (f := fun p => cap b p) (c := c) 4 1 with ⟨e, hn⟩ | ⟨h1, h2, h3, h4⟩
  · rw [e]
    have := hn p (by omega) (by omega)
    constructor
    · intro h; omega
    · intro h; omega
  · generalize least (fun p => cap b p) c 4 1 = L at h1 h2 h3 h4 ⊢
    constructor
    · intro h
      refine ⟨by omega, ?_⟩
      by_cases hlt : p < L
      · have := h4 p (by omega) hlt; omega
      · omega
    · rintro ⟨_, h⟩
      have := pw_mono_p (b := b) (k := L.toNat) (j := p.toNat) (by omega) (by omega) (by omega) (by omega)
      rw [capE L (by omega) (by omega)] at h3
      rw [capE p (by omega) (by omega)]
      omega
theorem leastPasses_ge (c b : Int) : leastPasses c b = -1 ∨ 1 ≤ leastPasses c b := by
  by_cases hc : 0 ≤ c
  · rw [leastPasses_pos hc]
    rcases least_spec (f := fun p => cap b p) (c := c) 4 1 with ⟨e, _⟩ | ⟨h1, _⟩
    · exact Or.inl e
    · exact Or.inr h1
  · exact Or.inl (leastPasses_neg (by omega))
theorem leastBins_bd (c p : Int) : -1 ≤ leastBins c p ∧ leastBins c p ≤ 16 := by
  by_cases hc : 0 ≤ c
  · rw [leastBins_pos hc]
    rcases least_spec (f := fun b => cap b p) (c := c) 15 2 with ⟨e, _⟩ | ⟨h1, h2, _⟩ <;> omega
  · rw [leastBins_neg (by omega)]; omega
theorem leastPasses_bd (c b : Int) : -1 ≤ leastPasses c b ∧ leastPasses c b ≤ 4 := by
  by_cases hc : 0 ≤ c
  · rw [leastPasses_pos hc]
    rcases least_spec (f := fun p => cap b p) (c := c) 4 1 with ⟨e, _⟩ | ⟨h1, h2, _⟩ <;> omega
  · rw [leastPasses_neg (by omega)]; omega
/-- As many codes as the capacity need exactly these passes and bins. -/
theorem exact_fin : ∀ b : Fin 17, ∀ p : Fin 5, 2 ≤ b.val → 1 ≤ p.val → leastPasses (cap (b.val : Int) (p.val : Int)) (b.val : Int) = (p.val : Int) ∧ leastBins (cap (b.val : Int) (p.val : Int)) (p.val : Int) = (b.val : Int) ∧ (p.val = 4 ∨ leastPasses (cap (b.val : Int) (p.val : Int) + 1) (b.val : Int) = (p.val : Int) + 1) ∧
    cap (b.val : Int) (p.val : Int) = (if 1 < p.val then cap (b.val : Int) ((p.val : Int) - 1) else 1) * (b.val : Int) := by decide +kernel
theorem exact_all {b p : Int} (h : shape b p = true) : leastPasses (cap b p) b = p ∧ leastBins (cap b p) p = b ∧ (p = 4 ∨ leastPasses (cap b p + 1) b = p + 1) ∧ cap b p = (if 1 < p then cap b (p - 1) else 1) * b := by
  have hs := shape_yes h
  obtain ⟨n, rfl⟩ := Int.eq_ofNat_of_zero_le (show 0 ≤ b by omega)
  obtain ⟨m, rfl⟩ := Int.eq_ofNat_of_zero_le (show 0 ≤ p by omega)
  have h := exact_fin ⟨n, by omega⟩ ⟨m, by omega⟩ (by show 2 ≤ n; omega) (by show 1 ≤ m; omega)
  obtain ⟨h1, h2, h3, h4⟩ := h
  refine ⟨h1, h2, ?_, ?_⟩
  · rcases h3 with h3 | h3
    · exact Or.inl (by have : m = 4 := h3; omega)
    · exact Or.inr h3
  · have h4' : cap (n : Int) (m : Int) = (if 1 < m then cap (n : Int) ((m : Int) - 1) else 1) * (n : Int) := h4
    rw [h4']
    by_cases hm : 1 < m
    · rw [if_pos hm, if_pos (show (1 : Int) < (m : Int) by omega)]
    · rw [if_neg hm, if_neg (show ¬ (1 : Int) < (m : Int) by omega)]
end Go.Proofs.Ytekkajgifgnklaa.M
