/-
  What put leaves: one letter more in one of the pockets.
-/
import Derived.Test.YtekfjheaffkakaaMgR8
import Derived.Deep.AppendLies
import Derived.Deep.RegionLaw
import Derived.Test.YtekfjheaffkakaaSym
namespace Go.Proofs.Ytekfjheaffkakaa
open Go.RowKit

/-- What put leaves of the world. -/
def Put (w : World) (base G c n : Nat) (V : Nat → Value) (M : Nat → List (Int × ByteArray)) (d : Nat) (i : Int) (s : ByteArray) (e : Ending) (w' : World) : Prop :=
  ∃ x : Value, e = .returned (.tuple #[]) ∧ Mat w' base (.slice (some ⟨G, 0, none⟩) n c) n (upd V d x) (upd M d (M d ++ [(i, s)])) ∧ Only w w' (inM (.slice (some ⟨G, 0, none⟩) n c) n V) ∧ (∀ k, x.ownBlock = some k → (V d).ownBlock = some k ∨ w.heap.size ≤ k)
set_option maxHeartbeats 2000000 in
theorem put_any (w : World) (base G c n : Nat) (V : Nat → Value) (M : Nat → List (Int × ByteArray)) (h : Mat w base (.slice (some ⟨G, 0, none⟩) n c) n V M) (hbase : base ≤ w.heap.size) (d : Nat) (hd : d < n) (i : Int) (s : ByteArray) (hl : (M d).length ≤ 1048576) :
    Calls Try.prog 28 #[.slice (some ⟨G, 0, none⟩) n c, .int .i64 d, .agg #[.int .i64 i, .string s]] w (Put w base G c n V M d i s) := by
  obtain ⟨W0, hW0⟩ : ∃ W0, w.alloc (.cells #[.int .i64 i, .string s] 33) = W0 := ⟨_, rfl⟩
  have k0 : Below w.heap.size w W0 := by rw [← hW0]; go_grown
  have zW : W0.heap.size = w.heap.size + 1 := by rw [← hW0]; simp
  have H0 := Lib.hid (h.on k0)
  have hG := h.lt (k := G) (Or.inl rfl)
  have b0 : W0.cell? ⟨w.heap.size, 0, none⟩ = some (.int .i64 i) := by rw [← hW0]; simp
  have b1 : W0.cell? ⟨w.heap.size, 1, none⟩ = some (.string s) := by rw [← hW0]; simp
  obtain ⟨a, cc, hv, hlc, _⟩ := (H0.out.2.1 d hd).form
  obtain ⟨G', c', e1, c0, c1⟩ := H0.out.cell hd
  cases e1
  have HR := Lib.hid (H0.out.2.1 d hd)
  have HVV := Lib.hid hv
  rw [hv] at c0 HR
  obtain ⟨i0, hi, hz0, hz1, hz2⟩ := info_parts info_letter
  have hdi : (d : Int) < (n : Int) := by omega
  have hd0 : (0 : Int) ≤ (d : Int) := by omega
  have hne1 : G ≠ w.heap.size := by omega
  have hne2 : w.heap.size ≠ G := by omega
  have hrow : ∀ k, (V d).ownBlock = some k → k ≠ G ∧ k < w.heap.size := fun k hk => ⟨fun e => by subst e; exact h.outer hd rfl hk, (h.lt (Or.inr ⟨d, hd, hk⟩)).2⟩
  rw [hv] at hrow
  have HRow := Lib.hid hrow
  have HW0 := Lib.hid hW0
  have K0 := Lib.hid k0
  have HH := Lib.hid h
  have zW1 : W0.heap.size ≤ w.heap.size + 1 := by omega
  have zW2 : w.heap.size + 1 ≤ W0.heap.size := by omega
  have hne3 : G ≠ W0.heap.size := by omega
  have hne4 : w.heap.size ≠ W0.heap.size := by omega
  have hG3 : G < W0.heap.size := by omega
  have hH3 : w.heap.size < W0.heap.size := by omega
  clear hW0 k0 h hrow hv hlc zW
  go_enter Try.func28, Try.ntmps28
  go_wp2
  rw [HW0.out]
  go_region_law (refine step_append_lies _ (by rfl) _ _ 26 (by rfl) base 33 i0 _ 2 24 Try.underlying26 hi hz0 hz1 hz2 rfl (by decide) _ (M d).length (lcells (M d)) (by rfl) (World.ownsRow.alloc (show _ from HR.out) _) ⟨W0.heap.size, 0, none⟩ 1 1 [.int .i64 i, .string s] (by rfl) rfl (by intro j u hu; match j, hu with | 0, hu => (simp at hu; subst hu; simp [Addr.add]) | 1, hu => (simp at hu; subst hu; simp [Addr.add])) (by intro u hu; simp at hu; rcases hu with rfl | rfl <;> rfl) (by decide) (by unfold maxLen; omega) (by omega) (by simp; omega) (W0.heap.size + 1) (by simp) ?_; intro g' cap w3 hown hgrow hat hlt; have o3 : Only W0 w3 (fun k => (Value.slice a (M d).length cc).ownBlock = some k) := Only.trans (Only.new (S := fun k => (Value.slice a (M d).length cc).ownBlock = some k) (by go_grown)) ((Only.of_grown hgrow).mono (T := fun k => (Value.slice a (M d).length cc).ownBlock = some k) (fun x _ e => e.symm)) (fun _ _ h => h); have hbG : w3.heap[G]? = W0.heap[G]? := o3.block G (by omega) (fun e => (HRow.out G e).1 rfl); have hbH : w3.heap[w.heap.size]? = W0.heap[w.heap.size]? := o3.block w.heap.size (by omega) (fun e => by have := (HRow.out _ e).2; omega); have s0 : w3.cell? ⟨G, d, none⟩ = some (.slice a (M d).length cc) := (World.cell?_of_block (a := ⟨G, d, none⟩) hbG).trans c0; have s1 : w3.frozen? ⟨G, d, none⟩ = false := (World.frozen?_of_block (a := ⟨G, d, none⟩) hbG).trans c1; have s2 : w3.cell? ⟨w.heap.size, 0, none⟩ = some (.int .i64 i) := (World.cell?_of_block (a := ⟨w.heap.size, 0, none⟩) hbH).trans b0; have s3 : w3.cell? ⟨w.heap.size, 1, none⟩ = some (.string s) := (World.cell?_of_block (a := ⟨w.heap.size, 1, none⟩) hbH).trans b1; have HO := Lib.hid hown; have O3 := Lib.hid o3; have HA : Hid ((Value.slice a (M d).length cc).ownBlock = some g' ∨ g' = W0.heap.size + 1) := hat; clear hown hgrow o3 hat hbG hbH)
  all_goals
    have HX : Hid (∀ k, (Value.slice (some ⟨g', 0, none⟩) ((M d).length + 1) cap).ownBlock = some k → (V d).ownBlock = some k ∨ W0.heap.size ≤ k) := fun k hk => by
      have e : g' = k := by simpa [Value.ownBlock] using hk
      subst e
      rcases HA.out with h | h
      · exact Or.inl (by rw [HVV.out]; exact h)
      · exact Or.inr (by omega)
    have HRW : Row w3 base (.slice (some ⟨g', 0, none⟩) ((M d).length + 1) cap) (M d ++ [(i, s)]) := by
      unfold Row
      rw [lcells_append, List.length_append]
      exact HO.out
    have HM := Lib.hid (H0.out.put hd HRW (by rw [HVV.out]; exact O3.out) HX.out)
    have HOn : Hid (Only w (w3.setCell ⟨G, d, none⟩ (.slice (some ⟨g', 0, none⟩) ((M d).length + 1) cap)) (inM (.slice (some ⟨G, 0, none⟩) n c) n V)) :=
      ((Only.new K0.out).trans (O3.out.mono (T := inM (.slice (some ⟨G, 0, none⟩) n c) n V) (fun x _ e => Or.inr ⟨d, hd, by rw [HVV.out]; exact e⟩)) (fun _ _ h => h)).trans (Only.set w3 ⟨G, d, none⟩ _ (S := inM (.slice (some ⟨G, 0, none⟩) n c) n V) (Or.inl rfl)) (fun _ _ h => h)
    refine bodyPost_end (results_none rfl _ _ _) rfl ?_
    exact ⟨_, rfl, HM.out, HOn.out, fun k hk => (HX.out k hk).imp id (fun h => by omega)⟩
end Go.Proofs.Ytekfjheaffkakaa

/-
  The stable sort on paper: where an entry is put, where a merge is cut, blocks of twenty. No program is named here.
-/
namespace Go.Proofs.Ytekfjheaffkakaa.Sy
variable {α : Type} {lt : α → α → Bool} {pos : α → Nat}

theorem low_false (h : Ord lt pos) {F : Nat → α} {a m : Nat} (hs : Srt lt pos F a m) {x : α} {k i : Nat} (ha : a ≤ k) (hk : k ≤ i) (hi : i < m) (hf : lt x (F i) = false) : lt x (F k) = false := by
  by_cases e : k = i
  · subst e; exact hf
  · exact h.ntr _ _ _ hf (ss_not h (hs k i ha (by omega) hi))
theorem high_true (h : Ord lt pos) {F : Nat → α} {a m : Nat} (hs : Srt lt pos F a m) {x : α} {k i : Nat} (ha : a ≤ i) (hk : i ≤ k) (hi : k < m) (hf : lt x (F i) = true) : lt x (F k) = true := by
  cases e : lt x (F k)
  · have := low_false h hs ha hk hi e; rw [this] at hf; cases hf
  · rfl
theorem low_true (h : Ord lt pos) {F : Nat → α} {a m : Nat} (hs : Srt lt pos F a m) {x : α} {k i : Nat} (ha : a ≤ k) (hk : k ≤ i) (hi : i < m) (hf : lt (F i) x = true) : lt (F k) x = true := by
  by_cases e : k = i
  · subst e; exact hf
  · have := ss_not h (hs k i ha (by omega) hi)
    cases e2 : lt (F k) x
    · have := h.ntr _ _ _ this e2; rw [this] at hf; cases hf
    · rfl
theorem high_false (h : Ord lt pos) {F : Nat → α} {a m : Nat} (hs : Srt lt pos F a m) {x : α} {k i : Nat} (ha : a ≤ i) (hk : i ≤ k) (hi : k < m) (hf : lt (F i) x = false) : lt (F k) x = false := by
  cases e : lt (F k) x
  · rfl
  · have := low_true h hs ha hk hi e; rw [this] at hf; cases hf
/-- The entry at m is put in front of all that it is less than. -/
theorem ins_left {F : Nat → α} {a m i : Nat} (hs : Srt lt pos F a m) (hp : ∀ k, a ≤ k → k < m → pos (F k) < pos (F m)) (hai : a ≤ i) (him : i ≤ m) (h1 : ∀ k, a ≤ k → k < i → lt (F m) (F k) = false) (h2 : ∀ k, i ≤ k → k < m → lt (F m) (F k) = true) : Srt lt pos (rot F i m (m + 1)) a (m + 1) := by
  have r1 : ∀ k, k < i → rot F i m (m + 1) k = F k := fun k hk => by unfold rot; rw [if_neg (by omega), if_neg (by omega)]
  have r2 : rot F i m (m + 1) i = F m := by unfold rot; rw [if_pos (by omega)]; congr 1; omega
  have r3 : ∀ k, i < k → k < m + 1 → rot F i m (m + 1) k = F (k - 1) := fun k k1 k2 => by
    unfold rot; rw [if_neg (by omega), if_pos (by omega)]; congr 1; omega
  intro p q hp1 hpq hq
  by_cases e1 : q < i
  · rw [r1 p (by omega), r1 q e1]; exact hs p q hp1 hpq (by omega)
  · by_cases e2 : q = i
    · subst e2
      rw [r1 p hpq, r2]
      exact (ss_of (hp p hp1 (by omega))).1 (h1 p hp1 hpq)
    · rw [r3 q (by omega) hq]
      by_cases e3 : p < i
      · rw [r1 p e3]; exact hs p (q - 1) hp1 (by omega) (by omega)
      · by_cases e4 : p = i
        · subst e4; rw [r2]; exact Or.inl (h2 (q - 1) (by omega) (by omega))
        · rw [r3 p (by omega) (by omega)]; exact hs (p - 1) (q - 1) (by omega) (by omega) (by omega)
/-- The entry at a is put behind all that are less. -/
theorem ins_right {F : Nat → α} {a b i : Nat} (hs : Srt lt pos F (a + 1) b) (hp : ∀ k, a < k → k < b → pos (F a) < pos (F k)) (hai : a + 1 ≤ i) (hib : i ≤ b) (h1 : ∀ k, a < k → k < i → lt (F k) (F a) = true) (h2 : ∀ k, i ≤ k → k < b → lt (F k) (F a) = false) : Srt lt pos (rot F a (a + 1) i) a b := by
  rw [move_right (by omega)]
  intro p q hp1 hpq hq
  show ss lt pos (if a ≤ p ∧ p < i - 1 then F (p + 1) else if p = i - 1 then F a else F p) (if a ≤ q ∧ q < i - 1 then F (q + 1) else if q = i - 1 then F a else F q)
  by_cases e1 : q < i - 1
  · rw [if_pos (by omega), if_pos (by omega)]; exact hs _ _ (by omega) (by omega) (by omega)
  · by_cases e2 : q = i - 1
    · rw [if_pos (by omega), if_neg (by omega), if_pos e2]; exact Or.inl (h1 _ (by omega) (by omega))
    · rw [if_neg (by omega : ¬ (a ≤ q ∧ q < i - 1)), if_neg e2]
      by_cases e3 : p < i - 1
      · rw [if_pos (by omega)]; exact hs _ _ (by omega) (by omega) hq
      · by_cases e4 : p = i - 1
        · rw [if_neg (by omega), if_pos e4]; exact (ss_of (hp q (by omega) hq)).1 (h2 q (by omega) hq)
        · rw [if_neg (by omega), if_neg e4]; exact hs p q (by omega) hpq hq
/-- Where symMerge's search ends. -/
theorem cut_found (h : Ord lt pos) {F : Nat → α} {a m b mid s : Nat} (ham : a < m) (hmb : m < b) (hmid : mid = (a + b) / 2) (hl : Srt lt pos F a m) (hr : Srt lt pos F m b) (s0 r0 : Nat)
    (h0 : (mid < m ∧ s0 = mid + m - b ∧ r0 = mid) ∨ (m ≤ mid ∧ s0 = a ∧ r0 = m)) (hs0 : s0 ≤ s) (hr0 : s ≤ r0)
    (c1 : s = s0 ∨ lt (F (mid + m - s)) (F (s - 1)) = false) (c2 : s = r0 ∨ lt (F (mid + m - 1 - s)) (F s) = true) :
    a ≤ s ∧ s ≤ m ∧ m ≤ mid + m - s ∧ mid + m - s ≤ b ∧ (∀ i, a ≤ i → i < s → ∀ j, mid + m - s ≤ j → j < b → lt (F j) (F i) = false) ∧ (∀ i, s ≤ i → i < m → ∀ j, m ≤ j → j < mid + m - s → lt (F j) (F i) = true) := by
  have k1 : a ≤ s := by omega
  have k2 : s ≤ m := by omega
  have k3 : s ≤ mid := by omega
  have k4 : mid + m - s ≤ b := by omega
  refine ⟨k1, k2, by omega, k4, fun i i1 i2 j j1 j2 => ?_, fun i i1 i2 j j1 j2 => ?_⟩
  · by_cases e : s = s0
    · omega
    · have q := c1.resolve_left e
      have q2 : lt (F j) (F (s - 1)) = false := high_false h hr (x := F (s - 1)) (by omega) j1 j2 q
      exact low_false h hl i1 (by omega) (by omega) q2
  · by_cases e : s = r0
    · omega
    · have q := c2.resolve_left e
      have q2 : lt (F (mid + m - 1 - s)) (F i) = true := high_true h hl k1 i1 i2 q
      exact low_true h hr j1 (by omega) (by omega) q2
/-- Entries of one block alone. -/
def Stay (F G : Nat → α) (a b : Nat) : Prop := ∀ k, a ≤ k → k < b → ∃ j, a ≤ j ∧ j < b ∧ G k = F j
theorem Stay.refl (F : Nat → α) (a b : Nat) : Stay F F a b := fun k h1 h2 => ⟨k, h1, h2, rfl⟩
theorem Stay.mix {F G H : Nat → α} {a b : Nat} (h : Stay F G a b) (k : Mix G H a b) : Stay F H a b := fun q h1 h2 => by
  obtain ⟨j, j1, j2, e⟩ := k.2 q h1 h2
  obtain ⟨i, i1, i2, e2⟩ := h j j1 j2
  exact ⟨i, i1, i2, e.trans e2⟩
theorem Stay.off {F G H : Nat → α} {a b c d : Nat} (h : Stay F G a b) (k : Mix G H c d) (hd : b ≤ c ∨ d ≤ a) : Stay F H a b := fun q h1 h2 => by
  obtain ⟨i, i1, i2, e2⟩ := h q h1 h2
  exact ⟨i, i1, i2, (k.1 q (by omega)).trans e2⟩
theorem Stay.join {F G : Nat → α} {a m b : Nat} (h : Stay F G a m) (k : Stay F G m b) (h1 : a ≤ m) (h2 : m ≤ b) : Stay F G a b := fun q q1 q2 => by
  by_cases e : q < m
  · obtain ⟨i, i1, i2, e2⟩ := h q q1 e
    exact ⟨i, i1, by omega, e2⟩
  · obtain ⟨i, i1, i2, e2⟩ := k q (by omega) q2
    exact ⟨i, by omega, i2, e2⟩
theorem par_of {F G : Nat → α} {a m b : Nat} (hF : ∀ i j, i < j → j < b → pos (F i) < pos (F j)) (h : Stay F G a m) (k : Stay F G m b) : Par pos G a m b := fun i j i1 i2 j1 j2 => by
  obtain ⟨p, p1, p2, e⟩ := h i i1 i2
  obtain ⟨q, q1, q2, e2⟩ := k j j1 j2
  rw [e, e2]
  exact hF p q (by omega) q2
theorem asc_of {F G : Nat → α} {a b n : Nat} (hF : ∀ i j, i < j → j < n → pos (F i) < pos (F j)) (h : ∀ k, a ≤ k → k < b → G k = F k) (hb : b ≤ n) : ∀ i j, a ≤ i → i < j → j < b → pos (G i) < pos (G j) := fun i j i1 ij j2 => by
  rw [h i i1 (by omega), h j (by omega) j2]; exact hF i j ij (by omega)
end Go.Proofs.Ytekfjheaffkakaa.Sy
