/-
  The least number of trucks: by trial of all loadings. No program is named here.
-/
import Derived.Test.YtmoghfgfdbdioaaNumA
namespace Go.Proofs.Ytmoghfgfdbdioaa.MW

/-- One of the numbers from k on, n at most, has P; none is asked behind one that has Z. -/
def scanP (P Z : Nat → Bool) (k : Nat) : Nat → Bool
  | 0 => false
  | n + 1 => if P k = true then true else if Z k = true then false else scanP P Z (k + 1) n
/-- Weights can be given to trucks with some loads; of empty trucks the first one alone is tried. -/
def canP (c : Int) : List Int → List Int → Bool
  | [], _ => true
  | x :: W, L => scanP (fun k => decide (gz L k + x ≤ c) && canP c W (L.set k (gz L k + x))) (fun k => decide (gz L k = 0)) 0 L.length
/-- The least of 8 and of what is found for the first n trucks with room. -/
def leastOf (P : Nat → Bool) (f : Nat → Nat) : Nat → Nat
  | 0 => 8
  | n + 1 => if P n = true then min (leastOf P f n) (f n) else leastOf P f n
/-- How many trucks are needed if weights are added to the loads of those that are used. -/
def lw (c : Int) : List Int → List Int → Nat → Nat
  | [], _, u => u
  | x :: W, L, u => leastOf (fun t => decide (gz L t + x ≤ c)) (fun t => lw c W (L.set t (gz L t + x)) (max u (t + 1))) (u + 1)
theorem leastOf_le8 (P : Nat → Bool) (f : Nat → Nat) : ∀ n, leastOf P f n ≤ 8
  | 0 => Nat.le_refl 8
  | n + 1 => by
    unfold leastOf
    have := leastOf_le8 P f n
    split <;> omega
theorem leastOf_iff (P : Nat → Bool) (f : Nat → Nat) (m : Nat) : ∀ n, leastOf P f n ≤ m ↔ 8 ≤ m ∨ ∃ t, t < n ∧ P t = true ∧ f t ≤ m
  | 0 => by
    show 8 ≤ m ↔ _
    exact ⟨Or.inl, fun h => by rcases h with h | ⟨t, h, _⟩; exact h; omega⟩
  | n + 1 => by
    have ih := leastOf_iff P f m n
    unfold leastOf
    split
    · rename_i hp
      rw [Nat.min_def]
      constructor
      · intro h
        by_cases e : leastOf P f n ≤ f n
        · rw [if_pos e] at h
          rcases ih.1 h with h | ⟨t, h1, h2⟩
          · exact Or.inl h
          · exact Or.inr ⟨t, by omega, h2⟩
        · rw [if_neg e] at h
          exact Or.inr ⟨n, by omega, hp, h⟩
      · intro h
        have : leastOf P f n ≤ m ∨ f n ≤ m := by
          rcases h with h | ⟨t, h1, h2, h3⟩
          · exact Or.inl (ih.2 (Or.inl h))
          · by_cases e : t = n
            · subst e; exact Or.inr h3
            · exact Or.inl (ih.2 (Or.inr ⟨t, by omega, h2, h3⟩))
        split <;> omega
    · rename_i hp
      rw [ih]
      constructor
      · rintro (h | ⟨t, h1, h2⟩)
        · exact Or.inl h
        · exact Or.inr ⟨t, by omega, h2⟩
      · rintro (h | ⟨t, h1, h2, h3⟩)
        · exact Or.inl h
        · by_cases e : t = n
          · subst e; exact absurd h2 hp
          · exact Or.inr ⟨t, by omega, h2, h3⟩
theorem scanP_iff (P Z : Nat → Bool) : ∀ n k, scanP P Z k n = true ↔ ∃ t, k ≤ t ∧ t < k + n ∧ P t = true ∧ ∀ j, k ≤ j → j < t → Z j = false
  | 0, k => by
    unfold scanP
    exact ⟨fun h => (by cases h), fun ⟨t, h1, h2, _⟩ => by omega⟩
  | n + 1, k => by
    unfold scanP
    by_cases hp : P k = true
    · rw [if_pos hp]
      exact ⟨fun _ => ⟨k, Nat.le_refl _, by omega, hp, fun j h1 h2 => by omega⟩, fun _ => rfl⟩
    · rw [if_neg hp]
      by_cases hz : Z k = true
      · rw [if_pos hz]
        refine ⟨fun h => (by cases h), fun ⟨t, h1, h2, h3, h4⟩ => ?_⟩
        by_cases e : t = k
        · subst e; exact absurd h3 hp
        · have := h4 k (Nat.le_refl _) (by omega)
          rw [this] at hz; cases hz
      · rw [if_neg hz, scanP_iff P Z n (k + 1)]
        constructor
        · rintro ⟨t, h1, h2, h3, h4⟩
          exact ⟨t, by omega, by omega, h3, fun j h5 h6 => by
            by_cases e : j = k
            · subst e; simpa using hz
            · exact h4 j (by omega) h6⟩
        · rintro ⟨t, h1, h2, h3, h4⟩
          have : t ≠ k := fun e => by subst e; exact hp h3
          exact ⟨t, by omega, by omega, h3, fun j h5 h6 => h4 j (by omega) h6⟩
/-- The first u trucks are used, no other one is. -/
def Used (L : List Int) (u : Nat) : Prop := L.length = 8 ∧ u ≤ 8 ∧ (∀ t, t < u → 1 ≤ gz L t) ∧ ∀ t, u ≤ t → gz L t = 0
theorem Used.put {L : List Int} {u t : Nat} {x : Int} (h : Used L u) (hx : 1 ≤ x) (ht : t ≤ u) (hu : u < 8) : Used (L.set t (gz L t + x)) (max u (t + 1)) := by
  obtain ⟨h1, h2, h3, h4⟩ := h
  refine ⟨by rw [List.length_set]; exact h1, by omega, fun j hj => ?_, fun j hj => ?_⟩
  · by_cases e : t = j
    · subst e
      rw [gz_set_self (by omega)]
      by_cases e : t < u
      · have := h3 t e; omega
      · have := h4 t (by omega); omega
    · rw [gz_set_ne e]; exact h3 j (by omega)
  · rw [gz_set_ne (by omega)]; exact h4 j (by omega)
theorem lw_ge (c : Int) : ∀ (W L : List Int) (u : Nat), u ≤ 8 → u + W.length ≤ 8 → u ≤ lw c W L u
  | [], _, u, _, _ => Nat.le_refl u
  | x :: W, L, u, hu, hw => by
    apply Classical.byContradiction
    intro hn
    have hlt : lw c (x :: W) L u ≤ u - 1 := by omega
    have h0 : 0 < u := by omega
    rcases (leastOf_iff _ _ _ _).1 hlt with h | ⟨t, h1, h2, h3⟩
    · omega
    · have hl : W.length + 1 = (x :: W).length := rfl
      have := lw_ge c W (L.set t (gz L t + x)) (max u (t + 1)) (by omega) (by omega)
      omega
theorem lw_le8 (c : Int) : ∀ (W L : List Int) (u : Nat), u ≤ 8 → lw c W L u ≤ 8
  | [], _, _, hu => hu
  | _ :: _, _, _, _ => leastOf_le8 _ _ _
theorem set_take (L : List Int) (n t : Nat) (x : Int) : (L.take n).set t x = (L.set t x).take n := (List.take_set ..).symm
theorem canP_iff (c : Int) : ∀ (W L : List Int) (u n : Nat), Used L u → u ≤ n → n ≤ 8 → u + W.length ≤ 8 → (∀ x ∈ W, 1 ≤ x ∧ x ≤ c) → (canP c W (L.take n) = true ↔ lw c W L u ≤ n)
  | [], L, u, n, _, hn, _, _, _ => ⟨fun _ => hn, fun _ => rfl⟩
  | x :: W, L, u, n, hU, hun, hn8, hw, hx => by
    have hlen : (L.take n).length = n := by rw [List.length_take, hU.1]; omega
    have hl : W.length + 1 = (x :: W).length := rfl
    have hu8 : u < 8 := by omega
    obtain ⟨hx1, hx2⟩ := hx x (List.mem_cons_self ..)
    have hgz : ∀ t, t < n → gz (L.take n) t = gz L t := fun t ht => by
      unfold gz; rw [List.getD_eq_getElem?_getD, List.getElem?_take_of_lt ht, ← List.getD_eq_getElem?_getD]
    show scanP _ _ 0 (L.take n).length = true ↔ leastOf _ _ _ ≤ n
    rw [hlen, scanP_iff, leastOf_iff]
    have step : ∀ t, t ≤ u → t < n → (canP c W ((L.take n).set t (gz (L.take n) t + x)) = true ↔ lw c W (L.set t (gz L t + x)) (max u (t + 1)) ≤ n) := fun t ht htn => by
      rw [hgz t htn, set_take]
      exact canP_iff c W _ (max u (t + 1)) n (hU.put hx1 ht hu8) (by omega) hn8 (by omega) (fun y hy => hx y (List.mem_cons_of_mem _ hy))
    constructor
    · rintro ⟨t, _, h2, h3, h4⟩
      have h2' : t < n := by omega
      rw [Bool.and_eq_true, decide_eq_true_eq, hgz t h2'] at h3
      have htu : t ≤ u := by
        apply Classical.byContradiction
        intro hn
        have := h4 u (Nat.zero_le _) (by omega)
        rw [decide_eq_false_iff_not, hgz u (by omega)] at this
        exact this (hU.2.2.2 u (Nat.le_refl _))
      have h5 := h3.2
      rw [← hgz t h2'] at h5
      exact Or.inr ⟨t, by omega, decide_eq_true h3.1, (step t htu h2').1 h5⟩
    · intro h
      have main : ∃ t, t ≤ u ∧ t < n ∧ gz L t + x ≤ c ∧ lw c W (L.set t (gz L t + x)) (max u (t + 1)) ≤ n := by
        rcases h with h | ⟨t, h1, h2, h3⟩
        · refine ⟨u, Nat.le_refl _, by omega, by rw [hU.2.2.2 u (Nat.le_refl _)]; omega, ?_⟩
          have := lw_le8 c W (L.set u (gz L u + x)) (max u (u + 1)) (by omega)
          omega
        · have := lw_ge c W (L.set t (gz L t + x)) (max u (t + 1)) (by omega) (by omega)
          exact ⟨t, by omega, by omega, of_decide_eq_true h2, h3⟩
      obtain ⟨t, h1, h2, h3, h4⟩ := main
      refine ⟨t, Nat.zero_le _, by omega, ?_, fun j _ hj => ?_⟩
      · rw [Bool.and_eq_true, decide_eq_true_eq]
        exact ⟨by rw [hgz t h2]; exact h3, (step t h1 h2).2 h4⟩
      · rw [decide_eq_false_iff_not, hgz j (by omega)]
        have := hU.2.2.1 j (by omega)
        omega
theorem used_none : Used (List.replicate 8 0) 0 := ⟨by simp, by omega, fun t h => by omega, fun t _ => gz_replicate 8 t⟩
/-- What LeastTrucks returns. -/
def leastTrucks (L : List Int) (c : Int) : Int := if wOk L c = true then (lw c L (List.replicate 8 0) 0 : Int) else -1
theorem leastTrucks_no {L : List Int} {c : Int} (h : wOk L c = false) : leastTrucks L c = -1 := if_neg (by rw [h]; decide)
theorem leastTrucks_yes {L : List Int} {c : Int} (h : wOk L c = true) : leastTrucks L c = (lw c L (List.replicate 8 0) 0 : Int) := if_pos h
theorem can_least {L : List Int} {c : Int} (h : wOk L c = true) {n : Nat} (hn : n ≤ 8) : canP c L (List.replicate n 0) = decide (lw c L (List.replicate 8 0) 0 ≤ n) := by
  obtain ⟨h1, h2, h3⟩ := (wOk_iff L c).1 h
  have := canP_iff c L (List.replicate 8 0) 0 n used_none (Nat.zero_le _) hn (by omega) (fun x hx => by
    obtain ⟨i, hi, e⟩ := mem_gz hx
    rw [← e]; exact h3 i hi)
  rw [List.take_replicate, Nat.min_eq_left hn] at this
  rw [Bool.eq_iff_iff, decide_eq_true_eq]
  exact this
end Go.Proofs.Ytmoghfgfdbdioaa.MW
