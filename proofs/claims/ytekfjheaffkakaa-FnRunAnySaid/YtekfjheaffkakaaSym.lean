/-
  Insertion, rotation and merging in place, on functions from indices: what they leave. No program is named here.
-/
namespace Go.Proofs.Ytekfjheaffkakaa.Sy
variable {α : Type}

/-- Two entries exchanged. -/
def swp (F : Nat → α) (i j : Nat) : Nat → α := fun k => if k = i then F j else if k = j then F i else F k
/-- The entries of a and of b, n of each, exchanged; the two ranges lie apart. -/
def swr (F : Nat → α) (a b n : Nat) : Nat → α := fun k => if a ≤ k ∧ k < a + n then F (k - a + b) else if b ≤ k ∧ k < b + n then F (k - b + a) else F k
/-- What stood from m on stands in front of what stood from a on. -/
def rot (F : Nat → α) (a m b : Nat) : Nat → α := fun k => if a ≤ k ∧ k < a + (b - m) then F (k + (m - a)) else if a + (b - m) ≤ k ∧ k < b then F (k - (b - m)) else F k
theorem swr_zero (F : Nat → α) (a b : Nat) : swr F a b 0 = F := by
  funext k; unfold swr; rw [if_neg (by omega), if_neg (by omega)]
theorem swr_succ (F : Nat → α) (a b n : Nat) (h : a + (n + 1) ≤ b) : swp (swr F a b n) (a + n) (b + n) = swr F a b (n + 1) := by
  funext k
  unfold swp swr
  by_cases e1 : k = a + n
  · subst e1
    rw [if_pos rfl, if_neg (by omega), if_neg (by omega), if_pos (by omega)]
    congr 1; omega
  · rw [if_neg e1]
    by_cases e2 : k = b + n
    · subst e2
      rw [if_pos rfl, if_neg (by omega), if_neg (by omega), if_neg (by omega), if_pos (by omega)]
      congr 1; omega
    · rw [if_neg e2]
      by_cases h1 : a ≤ k ∧ k < a + n
      · rw [if_pos h1, if_pos (by omega)]
      · rw [if_neg h1, if_neg (by omega : ¬ (a ≤ k ∧ k < a + (n + 1)))]
        by_cases h2 : b ≤ k ∧ k < b + n
        · rw [if_pos h2, if_pos (by omega)]
        · rw [if_neg h2, if_neg (by omega)]
theorem rot_eq (F : Nat → α) (a i : Nat) : swr F a (a + i) i = rot F a (a + i) (a + i + i) := by
  funext k
  unfold swr rot
  by_cases h1 : a ≤ k ∧ k < a + i
  · rw [if_pos h1, if_pos (by omega)]; congr 1; omega
  · by_cases h2 : a + i ≤ k ∧ k < a + i + i
    · rw [if_neg h1, if_pos h2, if_neg (by omega), if_pos (by omega)]; congr 1; omega
    · rw [if_neg h1, if_neg h2, if_neg (by omega), if_neg (by omega)]
/-- The longer part is on the left. -/
theorem rot_left (F : Nat → α) (m i j : Nat) (hi : i ≤ m) (hj : j < i) : rot (swr F (m - i) m j) (m - (i - j)) m (m + j) = rot F (m - i) m (m + j) := by
  funext k
  unfold rot
  by_cases h1 : m - i ≤ k ∧ k < m - i + (m + j - m)
  · rw [if_neg (by omega), if_neg (by omega), if_pos h1]
    unfold swr
    rw [if_pos (by omega)]; congr 1; omega
  · rw [if_neg h1]
    by_cases h2 : m - i + (m + j - m) ≤ k ∧ k < m + j
    · rw [if_pos h2]
      by_cases h3 : m - (i - j) ≤ k ∧ k < m - (i - j) + (m + j - m)
      · rw [if_pos h3]
        unfold swr
        by_cases h4 : m ≤ k + (m - (m - (i - j))) ∧ k + (m - (m - (i - j))) < m + j
        · rw [if_neg (by omega), if_pos h4]; congr 1; omega
        · rw [if_neg (by omega), if_neg h4]; congr 1; omega
      · rw [if_neg h3, if_pos (by omega)]
        unfold swr
        rw [if_neg (by omega)]
        by_cases h4 : m ≤ k - (m + j - m) ∧ k - (m + j - m) < m + j
        · omega
        · rw [if_neg h4]
    · rw [if_neg h2]
      by_cases h3 : m - (i - j) ≤ k ∧ k < m - (i - j) + (m + j - m)
      · omega
      · rw [if_neg h3, if_neg (by omega)]
        unfold swr
        rw [if_neg (by omega), if_neg (by omega)]
/-- The longer part is on the right. -/
theorem rot_right (F : Nat → α) (m i j : Nat) (hi : i ≤ m) (hj : i < j) : rot (swr F (m - i) (m + j - i) i) (m - i) m (m + (j - i)) = rot F (m - i) m (m + j) := by
  funext k
  unfold rot
  by_cases h1 : m - i ≤ k ∧ k < m - i + (m + (j - i) - m)
  · rw [if_pos h1, if_pos (by omega)]
    unfold swr
    by_cases h4 : m + j - i ≤ k + (m - (m - i)) ∧ k + (m - (m - i)) < m + j - i + i
    · omega
    · rw [if_neg (by omega), if_neg h4]
  · rw [if_neg h1]
    by_cases h2 : m - i + (m + (j - i) - m) ≤ k ∧ k < m + (j - i)
    · rw [if_pos h2]
      unfold swr
      by_cases h3 : m - i ≤ k ∧ k < m - i + (m + j - m)
      · rw [if_pos h3, if_pos (by omega)]; congr 1; omega
      · omega
    · rw [if_neg h2]
      unfold swr
      by_cases h3 : m - i ≤ k ∧ k < m - i + (m + j - m)
      · omega
      · rw [if_neg h3]
        by_cases h4 : m - i + (m + j - m) ≤ k ∧ k < m + j
        · rw [if_pos h4, if_neg (by omega), if_pos (by omega)]; congr 1; omega
        · rw [if_neg h4, if_neg (by omega), if_neg (by omega)]

/-- The stable order: by lt, and where lt parts neither, by the place pos in which an entry stood at first. -/
structure Ord (lt : α → α → Bool) (pos : α → Nat) : Prop where
  irr : ∀ x, lt x x = false
  tr : ∀ x y z, lt x y = true → lt y z = true → lt x z = true
  ntr : ∀ x y z, lt x y = false → lt y z = false → lt x z = false
def ss (lt : α → α → Bool) (pos : α → Nat) (x y : α) : Prop := lt x y = true ∨ (lt y x = false ∧ pos x < pos y)
variable {lt : α → α → Bool} {pos : α → Nat}
theorem Ord.asym (h : Ord lt pos) {x y : α} (h1 : lt x y = true) : lt y x = false := by
  cases e : lt y x
  · rfl
  · have := h.tr x y x h1 e; rw [h.irr] at this; cases this
theorem ss_trans (h : Ord lt pos) {x y z : α} (h1 : ss lt pos x y) (h2 : ss lt pos y z) : ss lt pos x z := by
  unfold ss at *
  rcases h1 with h1 | ⟨h1, p1⟩
  · rcases h2 with h2 | ⟨h2, p2⟩
    · exact Or.inl (h.tr _ _ _ h1 h2)
    · left
      cases e : lt x z
      · have := h.ntr _ _ _ e h2; rw [h1] at this; cases this
      · rfl
  · rcases h2 with h2 | ⟨h2, p2⟩
    · left
      cases e : lt x z
      · have := h.ntr _ _ _ h1 e; rw [h2] at this; cases this
      · rfl
    · exact Or.inr ⟨h.ntr _ _ _ h2 h1, by omega⟩
/-- Of two entries that stood in this order the second is first exactly if it is less. -/
theorem ss_of {x y : α} (hp : pos x < pos y) : (lt y x = false → ss lt pos x y) ∧ (lt y x = true → ss lt pos y x) := ⟨fun e => Or.inr ⟨e, hp⟩, fun e => Or.inl e⟩
theorem ss_not (h : Ord lt pos) {x y : α} (h1 : ss lt pos x y) : lt y x = false := by
  rcases h1 with h1 | h1
  · exact h.asym h1
  · exact h1.1
/-- The entries from a to b ascend. -/
def Srt (lt : α → α → Bool) (pos : α → Nat) (F : Nat → α) (a b : Nat) : Prop := ∀ i j, a ≤ i → i < j → j < b → ss lt pos (F i) (F j)
/-- All entries from a to m stood in front of those from m to b. -/
def Par (pos : α → Nat) (F : Nat → α) (a m b : Nat) : Prop := ∀ i j, a ≤ i → i < m → m ≤ j → j < b → pos (F i) < pos (F j)
/-- F' has the entries of F from a to b, in another order, and all others as they were. -/
def Mix (F F' : Nat → α) (a b : Nat) : Prop := (∀ k, k < a ∨ b ≤ k → F' k = F k) ∧ (∀ k, a ≤ k → k < b → ∃ j, a ≤ j ∧ j < b ∧ F' k = F j)
theorem Mix.refl (F : Nat → α) (a b : Nat) : Mix F F a b := ⟨fun _ _ => rfl, fun k h1 h2 => ⟨k, h1, h2, rfl⟩⟩
theorem Mix.trans {F G H : Nat → α} {a b : Nat} (h : Mix F G a b) (k : Mix G H a b) : Mix F H a b :=
  ⟨fun q hq => (k.1 q hq).trans (h.1 q hq), fun q h1 h2 => by
    obtain ⟨j, j1, j2, e⟩ := k.2 q h1 h2
    obtain ⟨i, i1, i2, e2⟩ := h.2 j j1 j2
    exact ⟨i, i1, i2, e.trans e2⟩⟩
theorem Mix.wide {F G : Nat → α} {a b a' b' : Nat} (h : Mix F G a b) (ha : a' ≤ a) (hb : b ≤ b') : Mix F G a' b' :=
  ⟨fun q hq => h.1 q (by omega), fun q h1 h2 => by
    by_cases hq : a ≤ q ∧ q < b
    · obtain ⟨j, j1, j2, e⟩ := h.2 q hq.1 hq.2
      exact ⟨j, by omega, by omega, e⟩
    · exact ⟨q, h1, h2, h.1 q (by omega)⟩⟩
theorem mix_swp (F : Nat → α) {a b i j : Nat} (hi : a ≤ i ∧ i < b) (hj : a ≤ j ∧ j < b) : Mix F (swp F i j) a b :=
  ⟨fun k hk => by unfold swp; rw [if_neg (by omega), if_neg (by omega)], fun k h1 h2 => by
    unfold swp
    by_cases e1 : k = i
    · exact ⟨j, hj.1, hj.2, if_pos e1⟩
    · rw [if_neg e1]
      by_cases e2 : k = j
      · exact ⟨i, hi.1, hi.2, if_pos e2⟩
      · exact ⟨k, h1, h2, if_neg e2⟩⟩
theorem mix_rot (F : Nat → α) {a m b s t : Nat} (h1 : a ≤ s) (h2 : s ≤ m) (h3 : m ≤ t) (h4 : t ≤ b) : Mix F (rot F s m t) a b :=
  ⟨fun k hk => by unfold rot; rw [if_neg (by omega), if_neg (by omega)], fun k k1 k2 => by
    unfold rot
    by_cases e1 : s ≤ k ∧ k < s + (t - m)
    · exact ⟨_, by omega, by omega, if_pos e1⟩
    · rw [if_neg e1]
      by_cases e2 : s + (t - m) ≤ k ∧ k < t
      · exact ⟨_, by omega, by omega, if_pos e2⟩
      · exact ⟨k, k1, k2, if_neg e2⟩⟩
/-- Two runs of which every entry of the first comes before every one of the second. -/
theorem srt_join {F : Nat → α} {a m b : Nat} (h1 : Srt lt pos F a m) (h2 : Srt lt pos F m b) (h3 : ∀ i j, a ≤ i → i < m → m ≤ j → j < b → ss lt pos (F i) (F j)) : Srt lt pos F a b := fun i j hi hij hj => by
  by_cases e : j < m
  · exact h1 i j hi hij e
  · by_cases e2 : m ≤ i
    · exact h2 i j e2 hij hj
    · exact h3 i j hi (by omega) (by omega) hj
theorem srt_sub {F : Nat → α} {a b c d : Nat} (h : Srt lt pos F a b) (hc : a ≤ c) (hd : d ≤ b) : Srt lt pos F c d := fun i j hi hij hj => h i j (by omega) hij (by omega)
theorem srt_one (F : Nat → α) {a b : Nat} (h : b ≤ a + 1) : Srt lt pos F a b := fun i j hi hij hj => by omega
theorem srt_same {F G : Nat → α} {a b : Nat} (h : Srt lt pos F a b) (e : ∀ k, a ≤ k → k < b → G k = F k) : Srt lt pos G a b := fun i j hi hij hj => by
  rw [e i hi (by omega), e j (by omega) hj]; exact h i j hi hij hj
/-- Behind the halves' own merges: the whole ascends. -/
theorem halves {F G1 G2 : Nat → α} {a mid b : Nat} (h3 : ∀ i j, a ≤ i → i < mid → mid ≤ j → j < b → ss lt pos (F i) (F j)) (m1 : Mix F G1 a mid) (s1 : Srt lt pos G1 a mid) (m2 : Mix G1 G2 mid b) (s2 : Srt lt pos G2 mid b) : Srt lt pos G2 a b := by
  refine srt_join (m := mid) (srt_same s1 fun k k1 k2 => m2.1 k (Or.inl k2)) s2 fun i j hi him hj hjb => ?_
  rw [m2.1 i (Or.inl him)]
  obtain ⟨i', i1, i2, e1⟩ := m1.2 i hi him
  obtain ⟨j', j1, j2, e2⟩ := m2.2 j hj hjb
  rw [e1, e2, m1.1 j' (Or.inr j1)]
  exact h3 i' j' i1 i2 j1 j2
/-- The cut of symMerge: what is rotated, and what each half then has. -/
theorem cut_halves {F : Nat → α} {a m b mid s t : Nat} (ha : a ≤ s) (hs : s ≤ m) (ht1 : m ≤ t) (ht : t ≤ b) (hmid : t + s = mid + m)
    (hl : Srt lt pos F a m) (hr : Srt lt pos F m b) (hp : Par pos F a m b)
    (h1 : ∀ i, a ≤ i → i < s → ∀ j, t ≤ j → j < b → lt (F j) (F i) = false) (h2 : ∀ i, s ≤ i → i < m → ∀ j, m ≤ j → j < t → lt (F j) (F i) = true) :
    (∀ i j, a ≤ i → i < mid → mid ≤ j → j < b → ss lt pos (rot F s m t i) (rot F s m t j)) ∧
    Srt lt pos (rot F s m t) a s ∧ Srt lt pos (rot F s m t) s mid ∧ Par pos (rot F s m t) a s mid ∧
    Srt lt pos (rot F s m t) mid t ∧ Srt lt pos (rot F s m t) t b ∧ Par pos (rot F s m t) mid t b := by
  have r1 : ∀ k, k < s → rot F s m t k = F k := fun k hk => by unfold rot; rw [if_neg (by omega), if_neg (by omega)]
  have r2 : ∀ k, s ≤ k → k < mid → rot F s m t k = F (k + (m - s)) := fun k k1 k2 => by unfold rot; rw [if_pos (by omega)]
  have r3 : ∀ k, mid ≤ k → k < t → rot F s m t k = F (k - (t - m)) := fun k k1 k2 => by unfold rot; rw [if_neg (by omega), if_pos (by omega)]
  have r4 : ∀ k, t ≤ k → rot F s m t k = F k := fun k hk => by unfold rot; rw [if_neg (by omega), if_neg (by omega)]
  refine ⟨fun i j hi him hj hjb => ?_, fun i j hi hij hj => ?_, fun i j hi hij hj => ?_, fun i j hi him hj hjb => ?_, fun i j hi hij hj => ?_, fun i j hi hij hj => ?_, fun i j hi him hj hjb => ?_⟩
  · by_cases e1 : i < s
    · rw [r1 i e1]
      by_cases e2 : j < t
      · rw [r3 j hj e2]; exact hl i _ hi (by omega) (by omega)
      · rw [r4 j (by omega)]; exact (ss_of (hp i j hi (by omega) (by omega) hjb)).1 (h1 i hi e1 j (by omega) hjb)
    · rw [r2 i (by omega) him]
      by_cases e2 : j < t
      · rw [r3 j hj e2]; exact Or.inl (h2 _ (by omega) (by omega) _ (by omega) (by omega))
      · rw [r4 j (by omega)]; exact hr _ j (by omega) (by omega) hjb
  · rw [r1 i (by omega), r1 j hj]; exact hl i j hi hij (by omega)
  · rw [r2 i hi (by omega), r2 j (by omega) hj]; exact hr _ _ (by omega) (by omega) (by omega)
  · rw [r1 i him, r2 j hj hjb]; exact hp _ _ hi (by omega) (by omega) (by omega)
  · rw [r3 i hi (by omega), r3 j (by omega) hj]; exact hl _ _ (by omega) (by omega) (by omega)
  · rw [r4 i hi, r4 j (by omega)]; exact hr _ _ (by omega) hij hj
  · rw [r3 i hi him, r4 j hj]; exact hp _ _ (by omega) (by omega) (by omega) hjb
/-- An entry moved to the right. -/
theorem move_right {F : Nat → α} {a i : Nat} (hi : a < i) : rot F a (a + 1) i = fun k => if a ≤ k ∧ k < i - 1 then F (k + 1) else if k = i - 1 then F a else F k := by
  funext k
  unfold rot
  by_cases h1 : a ≤ k ∧ k < i - 1
  · rw [if_pos (by omega), if_pos h1]; congr 1; omega
  · rw [if_neg (by omega), if_neg h1]
    by_cases h2 : k = i - 1
    · rw [if_pos (by omega), if_pos h2]; congr 1; omega
    · rw [if_neg (by omega), if_neg h2]
theorem rot_none (F : Nat → α) (a b : Nat) : rot F a a b = F := by
  funext k; unfold rot
  by_cases h : a ≤ k ∧ k < a + (b - a)
  · rw [if_pos h]; congr 1; omega
  · rw [if_neg h, if_neg (by omega)]
theorem rot_none' (F : Nat → α) (a b : Nat) : rot F a b b = F := by
  funext k; unfold rot
  rw [if_neg (by omega)]
  by_cases h : a + (b - b) ≤ k ∧ k < b
  · rw [if_pos h]; congr 1; omega
  · rw [if_neg h]
/-- One more step of an entry to the right, and to the left. -/
theorem rot_step (F : Nat → α) (a k : Nat) (hk : a ≤ k) : swp (rot F a (a + 1) (k + 1)) k (k + 1) = rot F a (a + 1) (k + 2) := by
  funext q
  unfold swp
  by_cases e1 : q = k
  · subst e1
    rw [if_pos rfl]; unfold rot; rw [if_neg (by omega), if_neg (by omega), if_pos (by omega)]; congr 1; omega
  · rw [if_neg e1]
    by_cases e2 : q = k + 1
    · subst e2
      rw [if_pos rfl]; unfold rot
      by_cases h0 : a ≤ k ∧ k < a + (k + 1 - (a + 1))
      · omega
      · rw [if_neg h0, if_pos (by omega), if_neg (by omega), if_pos (by omega)]; congr 1; omega
    · rw [if_neg e2]; unfold rot
      by_cases h1 : a ≤ q ∧ q < a + (k + 1 - (a + 1))
      · rw [if_pos h1, if_pos (by omega)]
      · rw [if_neg h1, if_neg (by omega), if_neg (by omega), if_neg (by omega)]
theorem rot_back (F : Nat → α) (m k : Nat) (hk : k < m) : swp (rot F (k + 1) m (m + 1)) (k + 1) k = rot F k m (m + 1) := by
  funext q
  unfold swp
  by_cases e1 : q = k + 1
  · subst e1
    rw [if_pos rfl]; unfold rot
    rw [if_neg (by omega), if_neg (by omega)]
    by_cases h : k ≤ k + 1 ∧ k + 1 < k + (m + 1 - m)
    · omega
    · rw [if_neg h, if_pos (by omega)]; congr 1; omega
  · rw [if_neg e1]
    by_cases e2 : q = k
    · subst e2
      rw [if_pos rfl]; unfold rot
      rw [if_pos (by omega), if_pos (by omega)]; congr 1; omega
    · rw [if_neg e2]; unfold rot
      by_cases h1 : k + 1 + (m + 1 - m) ≤ q ∧ q < m + 1
      · rw [if_neg (by omega), if_pos h1, if_neg (by omega), if_pos (by omega)]
      · rw [if_neg (by omega), if_neg h1, if_neg (by omega), if_neg (by omega)]
end Go.Proofs.Ytekfjheaffkakaa.Sy
