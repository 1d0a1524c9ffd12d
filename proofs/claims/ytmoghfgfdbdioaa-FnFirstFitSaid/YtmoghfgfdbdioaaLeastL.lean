/-
  The least number of trucks: exactly the numbers for which there is a loading; so it does not depend on the order, and lies between bounds.
-/
import Derived.Test.YtmoghfgfdbdioaaLoadN
namespace Go.Proofs.Ytmoghfgfdbdioaa.MW
set_option linter.unusedVariables false

/-- Weights can be given to n trucks. -/
def Ld (c : Int) (n : Nat) (W : List Int) : Prop := ∃ G : List Int, W.length = G.length ∧ (∀ y ∈ G, 0 ≤ y ∧ y < n) ∧ ∀ k, rp W G k ≤ c
theorem lw_has (c : Int) (m : Nat) (hm : m ≤ 8) : ∀ (W L : List Int) (u : Nat), Used L u → u + W.length ≤ 8 → (∀ x ∈ W, 1 ≤ x ∧ x ≤ c) → (∀ k, gz L k ≤ c) → lw c W L u ≤ m →
    ∃ G : List Int, W.length = G.length ∧ (∀ y ∈ G, 0 ≤ y ∧ y < m) ∧ ∀ k : Nat, gz L k + rp W G k ≤ c
  | [], L, u, _, _, _, hc, _ => ⟨[], rfl, fun y h => (by cases h), fun k => by have := hc k; simp [rp]; exact this⟩
  | x :: W, L, u, hU, hw, hx, hc, h => by
    have hl : W.length + 1 = (x :: W).length := rfl
    obtain ⟨hx1, hx2⟩ := hx x (List.mem_cons_self ..)
    have hz := hU.2.2.2 u (Nat.le_refl _)
    have hex : ∃ t, t < u + 1 ∧ gz L t + x ≤ c ∧ lw c W (L.set t (gz L t + x)) (max u (t + 1)) ≤ m := by
      rcases (leastOf_iff _ _ _ _).1 (show leastOf _ _ _ ≤ m from h) with h8 | ⟨t, h1, h2, h3⟩
      · refine ⟨u, by omega, by omega, Nat.le_trans (lw_le8 c W _ _ (by omega)) h8⟩
      · exact ⟨t, h1, of_decide_eq_true h2, h3⟩
    obtain ⟨t, h1, h2, h3⟩ := hex
    have hU2 := hU.put hx1 (t := t) (by omega) (by omega)
    have hge := lw_ge c W (L.set t (gz L t + x)) (max u (t + 1)) (by omega) (by omega)
    obtain ⟨G, g1, g2, g3⟩ := lw_has c m hm W _ _ hU2 (by omega) (fun z hz => hx z (List.mem_cons_of_mem _ hz)) (fun k => by
      by_cases e : t = k
      · subst e; rw [gz_set_self (by have := hU.1; omega)]; exact h2
      · rw [gz_set_ne e]; exact hc k) h3
    refine ⟨(t : Int) :: G, by simp [g1], fun y hy => ?_, fun k => ?_⟩
    · rcases List.mem_cons.1 hy with rfl | hy
      · omega
      · exact g2 y hy
    · have h4 := g3 k
      by_cases e : t = k
      · subst e
        rw [gz_set_self (by have := hU.1; omega)] at h4
        rw [rp_same]
        omega
      · rw [gz_set_ne e] at h4
        rw [rp_other _ _ (by omega)]
        exact h4
theorem rp_none : ∀ (W G : List Int) (k : Int), (∀ y ∈ G, y ≠ k) → rp W G k = 0
  | [], _, _, _ => by simp [rp]
  | x :: W, [], _, _ => by simp [rp]
  | x :: W, y :: G, k, h => by
    rw [rp_other _ _ (h y (List.mem_cons_self ..))]
    exact rp_none W G k fun z hz => h z (List.mem_cons_of_mem _ hz)
theorem used0 : Used (List.replicate 8 0) 0 := ⟨by simp, by simp, fun t ht => absurd ht (by simp), fun t _ => gz_replicate 8 t⟩
/-- The least number of trucks is at most n exactly if there is a loading with n trucks. -/
theorem least_iff {W : List Int} {c : Int} (hw : wOk W c = true) {n : Nat} (hn : n ≤ 8) : leastTrucks W c ≤ n ↔ Ld c n W := by
  obtain ⟨w1, w2, w3⟩ := (wOk_iff W c).1 hw
  have hx : ∀ x ∈ W, 1 ≤ x ∧ x ≤ c := fun x hx => by
    obtain ⟨i, hi, e⟩ := mem_gz hx
    rw [← e]; exact w3 i hi
  rw [leastTrucks_yes hw]
  constructor
  · intro h
    obtain ⟨G, g1, g2, g3⟩ := lw_has c n hn W (List.replicate 8 0) 0 used0 (by omega) hx (fun k => by rw [gz_replicate]; omega) (by omega)
    refine ⟨G, g1, g2, fun k => ?_⟩
    by_cases hk : 0 ≤ k
    · have := g3 k.toNat
      rw [gz_replicate, show ((k.toNat : Nat) : Int) = k by omega] at this
      omega
    · rw [rp_none W G k fun y hy e => by have := g2 y hy; omega]
      omega
  · rintro ⟨G, g1, g2, g3⟩
    have := lw_loading c n hn W G (List.replicate 8 0) [] g1 used0 (by simpa using w2) (fun x h => (hx x h).1) List.Pairwise.nil (fun k hk => by cases hk) g2 (fun t ht => absurd ht (by simp)) (fun k _ => g3 k)
    have h0 : ([] : List Int).length = 0 := rfl
    rw [h0] at this
    omega
theorem least_bd {W : List Int} {c : Int} (hw : wOk W c = true) : 0 ≤ leastTrucks W c ∧ leastTrucks W c ≤ 8 := by
  rw [leastTrucks_yes hw]
  have := lw_le8 c W (List.replicate 8 0) 0 (by omega)
  omega
/-- There is a loading with the least number. -/
theorem least_has {W : List Int} {c : Int} (hw : wOk W c = true) {n : Nat} (hn : leastTrucks W c = n) : Ld c n W := (least_iff hw (by have := least_bd hw; omega)).1 (by omega)
/-- All of them together. -/
def sumL : List Int → Int
  | [] => 0
  | x :: W => x + sumL W
def sumK (W G : List Int) : Nat → Int
  | 0 => 0
  | n + 1 => sumK W G n + rp W G (n : Int)
theorem sumK_cons (x y : Int) (W G : List Int) : ∀ n : Nat, 0 ≤ y → sumK (x :: W) (y :: G) n = (if y < n then x else 0) + sumK W G n
  | 0, h => by
    show (0 : Int) = (if y < ((0 : Nat) : Int) then x else 0) + 0
    rw [if_neg (by omega)]; rfl
  | n + 1, h => by
    have ih := sumK_cons x y W G n h
    show sumK (x :: W) (y :: G) n + rp (x :: W) (y :: G) (n : Int) = _ + (sumK W G n + rp W G (n : Int))
    rw [ih]
    by_cases e : y = (n : Int)
    · rw [e, rp_same, if_neg (by omega), if_pos (by omega)]; omega
    · rw [rp_other _ _ e]
      by_cases h1 : y < (n : Int)
      · rw [if_pos h1, if_pos (by omega)]; omega
      · rw [if_neg h1, if_neg (by omega)]; omega
theorem sum_loads : ∀ (W G : List Int) (n : Nat), W.length = G.length → (∀ y ∈ G, 0 ≤ y ∧ y < n) → sumK W G n = sumL W
  | [], [], n, _, _ => by
    induction n with
    | zero => rfl
    | succ n ih =>
      show sumK [] [] n + rp [] [] (n : Int) = 0
      rw [ih (fun y h => by cases h)]
      rfl
  | [], _ :: _, _, h, _ => by simp at h
  | _ :: _, [], _, h, _ => by simp at h
  | x :: W, y :: G, n, h, hg => by
    have hy := hg y (List.mem_cons_self ..)
    rw [sumK_cons x y W G n hy.1, if_pos hy.2, sum_loads W G n (by simpa using h) fun z hz => hg z (List.mem_cons_of_mem _ hz)]
    rfl
theorem sumK_le {W G : List Int} {c : Int} (h : ∀ k, rp W G k ≤ c) : ∀ n : Nat, sumK W G n ≤ n * c
  | 0 => by simp [sumK]
  | n + 1 => by
    have ih := sumK_le h n
    have := h (n : Int)
    show sumK W G n + rp W G (n : Int) ≤ _
    rw [Int.natCast_succ, Int.add_mul, Int.one_mul]
    omega
/-- The trucks have room for all weights. -/
theorem least_sum {W : List Int} {c : Int} (hw : wOk W c = true) {n : Nat} (hn : leastTrucks W c = n) : sumL W ≤ n * c := by
  obtain ⟨G, g1, g2, g3⟩ := least_has hw hn
  rw [← sum_loads W G n g1 g2]
  exact sumK_le g3 n
/-- The trucks of the large weights. -/
def bigG (c : Int) : List Int → List Int → List Int
  | x :: W, y :: G => if c < 2 * x then y :: bigG c W G else bigG c W G
  | _, _ => []
/-- How many weights are more than half of the capacity. -/
def big (c : Int) : List Int → Nat
  | [] => 0
  | x :: W => if c < 2 * x then big c W + 1 else big c W
theorem bigG_len (c : Int) : ∀ W G : List Int, W.length = G.length → (bigG c W G).length = big c W
  | [], _, _ => by simp [bigG, big]
  | x :: W, [], h => by simp at h
  | x :: W, y :: G, h => by
    have ih := bigG_len c W G (by simpa using h)
    unfold bigG big
    split
    · rw [List.length_cons, ih]
    · exact ih
theorem bigG_sub (c : Int) : ∀ W G : List Int, ∀ y ∈ bigG c W G, y ∈ G
  | [], _, y, h => by simp [bigG] at h
  | x :: W, [], y, h => by simp [bigG] at h
  | x :: W, z :: G, y, h => by
    unfold bigG at h
    split at h
    · rcases List.mem_cons.1 h with rfl | h
      · exact List.mem_cons_self ..
      · exact List.mem_cons_of_mem _ (bigG_sub c W G y h)
    · exact List.mem_cons_of_mem _ (bigG_sub c W G y h)
theorem rp_tail {x y k : Int} {W G : List Int} (hx : 1 ≤ x) : rp W G k ≤ rp (x :: W) (y :: G) k := by
  show _ ≤ (if y = k then x else 0) + rp W G k
  split <;> omega
theorem bigG_rp (c : Int) : ∀ W G : List Int, (∀ x ∈ W, 1 ≤ x) → ∀ y ∈ bigG c W G, c < 2 * rp W G y
  | [], _, _, y, h => by simp [bigG] at h
  | x :: W, [], _, y, h => by simp [bigG] at h
  | x :: W, z :: G, hx, y, h => by
    have hx1 := hx x (List.mem_cons_self ..)
    have hx' : ∀ x ∈ W, 1 ≤ x := fun a ha => hx a (List.mem_cons_of_mem _ ha)
    have ht := @rp_tail x z y W G hx1
    unfold bigG at h
    split at h
    · rename_i hb
      rcases List.mem_cons.1 h with rfl | h
      · rw [rp_same]
        have := rp_nonneg W G y hx'
        omega
      · have := bigG_rp c W G hx' y h
        omega
    · have := bigG_rp c W G hx' y h
      omega
theorem bigG_nodup (c : Int) : ∀ W G : List Int, (∀ x ∈ W, 1 ≤ x) → (∀ k, rp W G k ≤ c) → (bigG c W G).Pairwise (· ≠ ·)
  | [], _, _, _ => by simp [bigG]
  | x :: W, [], _, _ => by simp [bigG]
  | x :: W, z :: G, hx, hc => by
    have hx1 := hx x (List.mem_cons_self ..)
    have hx' : ∀ x ∈ W, 1 ≤ x := fun a ha => hx a (List.mem_cons_of_mem _ ha)
    have ih := bigG_nodup c W G hx' fun k => Int.le_trans (@rp_tail x z k W G hx1) (hc k)
    unfold bigG
    split
    · rename_i hb
      refine List.pairwise_cons.2 ⟨fun y hy e => ?_, ih⟩
      have h1 := bigG_rp c W G hx' y hy
      have h2 := hc z
      rw [rp_same, e] at h2
      omega
    · exact ih
theorem least_big {W : List Int} {c : Int} (hw : wOk W c = true) {n : Nat} (hn : leastTrucks W c = n) : big c W ≤ n := by
  obtain ⟨w1, w2, w3⟩ := (wOk_iff W c).1 hw
  have hx : ∀ x ∈ W, 1 ≤ x := fun x hx => by
    obtain ⟨i, hi, e⟩ := mem_gz hx
    rw [← e]; exact (w3 i hi).1
  obtain ⟨G, g1, g2, g3⟩ := least_has hw hn
  rw [← bigG_len c W G g1]
  exact below_len n _ (bigG_nodup c W G hx g3) fun k hk => g2 k (bigG_sub c W G k hk)
theorem one_each (c : Int) (hc : 0 ≤ c) : ∀ (W : List Int) (a : Int), (∀ x ∈ W, 1 ≤ x ∧ x ≤ c) → ∃ G : List Int, W.length = G.length ∧ (∀ y ∈ G, a ≤ y ∧ y < a + W.length) ∧ ∀ k, rp W G k ≤ c
  | [], a, _ => ⟨[], rfl, fun y h => (by cases h), fun k => by simp [rp]; exact hc⟩
  | x :: W, a, hx => by
    obtain ⟨hx1, hx2⟩ := hx x (List.mem_cons_self ..)
    obtain ⟨G, g1, g2, g3⟩ := one_each c hc W (a + 1) fun z hz => hx z (List.mem_cons_of_mem _ hz)
    refine ⟨a :: G, by simp [g1], fun y hy => ?_, fun k => ?_⟩
    · rcases List.mem_cons.1 hy with rfl | hy
      · simp only [List.length_cons]; omega
      · have := g2 y hy
        simp only [List.length_cons]; omega
    · by_cases e : a = k
      · subst e
        rw [rp_same, rp_none W G a fun y hy e => by have := g2 y hy; omega]
        omega
      · rw [rp_other _ _ e]; exact g3 k
theorem least_len {W : List Int} {c : Int} (hw : wOk W c = true) : leastTrucks W c ≤ W.length := by
  obtain ⟨w1, w2, w3⟩ := (wOk_iff W c).1 hw
  refine (least_iff hw w2).2 ?_
  obtain ⟨G, g1, g2, g3⟩ := one_each c (by omega) W 0 fun x hx => by
    obtain ⟨i, hi, e⟩ := mem_gz hx
    rw [← e]; exact w3 i hi
  exact ⟨G, g1, fun y hy => by have := g2 y hy; omega, g3⟩
theorem rp_append : ∀ (W G W2 G2 : List Int) (k : Int), W.length = G.length → rp (W ++ W2) (G ++ G2) k = rp W G k + rp W2 G2 k
  | [], [], W2, G2, k, _ => by simp [rp]
  | [], _ :: _, _, _, _, h => by simp at h
  | _ :: _, [], _, _, _, h => by simp at h
  | x :: W, y :: G, W2, G2, k, h => by
    have ih := rp_append W G W2 G2 k (by simpa using h)
    show (if y = k then x else 0) + rp (W ++ W2) (G ++ G2) k = (if y = k then x else 0) + rp W G k + rp W2 G2 k
    rw [ih]; omega
theorem rp_reverse : ∀ (W G : List Int) (k : Int), W.length = G.length → rp W.reverse G.reverse k = rp W G k
  | [], [], k, _ => rfl
  | [], _ :: _, _, h => by simp at h
  | _ :: _, [], _, h => by simp at h
  | x :: W, y :: G, k, h => by
    have hl : W.length = G.length := by simpa using h
    rw [List.reverse_cons, List.reverse_cons, rp_append _ _ _ _ k (by simp [hl]), rp_reverse W G k hl]
    show rp W G k + ((if y = k then x else 0) + 0) = (if y = k then x else 0) + rp W G k
    omega
theorem wOk_reverse {W : List Int} {c : Int} (hw : wOk W c = true) : wOk W.reverse c = true := by
  unfold wOk allIn at hw ⊢
  rw [List.all_reverse, List.length_reverse]
  exact hw
theorem ld_reverse {c : Int} {n : Nat} {W : List Int} (h : Ld c n W) : Ld c n W.reverse := by
  obtain ⟨G, g1, g2, g3⟩ := h
  exact ⟨G.reverse, by simp [g1], fun y hy => g2 y (List.mem_reverse.1 hy), fun k => by rw [rp_reverse W G k g1]; exact g3 k⟩
theorem least_reverse {W : List Int} {c : Int} (hw : wOk W c = true) : leastTrucks W.reverse c = leastTrucks W c := by
  have hr := wOk_reverse hw
  have b1 := least_bd hw
  have b2 := least_bd hr
  obtain ⟨n, hn⟩ := Int.eq_ofNat_of_zero_le b1.1
  obtain ⟨m, hm⟩ := Int.eq_ofNat_of_zero_le b2.1
  have h1 := (least_iff hr (n := n) (by omega)).2 (ld_reverse (least_has hw hn))
  have h2 := ld_reverse (least_has hr hm)
  rw [List.reverse_reverse] at h2
  have h3 := (least_iff hw (n := m) (by omega)).2 h2
  omega
theorem wOk_tail {x c : Int} {W : List Int} (hw : wOk (x :: W) c = true) : wOk W c = true := by
  obtain ⟨w1, w2, w3⟩ := (wOk_iff _ c).1 hw
  refine (wOk_iff W c).2 ⟨w1, by simp at w2; omega, fun i hi => ?_⟩
  have := w3 (i + 1) (by simp; omega)
  have e : gz (x :: W) (i + 1) = gz W i := by simp [gz]
  rw [e] at this
  exact this
/-- One weight less needs at most one truck less. -/
theorem least_tail {x c : Int} {W : List Int} (hw : wOk (x :: W) c = true) : leastTrucks W c = leastTrucks (x :: W) c ∨ leastTrucks W c = leastTrucks (x :: W) c - 1 := by
  have ht := wOk_tail hw
  obtain ⟨w1, w2, w3⟩ := (wOk_iff _ c).1 hw
  have hx := w3 0 (by simp)
  have hx0 : gz (x :: W) 0 = x := rfl
  rw [hx0] at hx
  have b1 := least_bd hw
  have b2 := least_bd ht
  have b3 := least_len ht
  have w2' : W.length + 1 ≤ 8 := by simpa using w2
  obtain ⟨n, hn⟩ := Int.eq_ofNat_of_zero_le b1.1
  obtain ⟨m, hm⟩ := Int.eq_ofNat_of_zero_le b2.1
  have h1 : leastTrucks W c ≤ n := by
    refine (least_iff ht (by omega)).2 ?_
    obtain ⟨G, g1, g2, g3⟩ := least_has hw hn
    match G, g1, g2, g3 with
    | y :: G, g1, g2, g3 => exact ⟨G, by simpa using g1, fun z hz => g2 z (List.mem_cons_of_mem _ hz), fun k => Int.le_trans (@rp_tail x y k W G hx.1) (g3 k)⟩
  have h2 : leastTrucks (x :: W) c ≤ (m + 1 : Nat) := by
    refine (least_iff hw (by omega)).2 ?_
    obtain ⟨G, g1, g2, g3⟩ := least_has ht hm
    refine ⟨(m : Int) :: G, by simp [g1], fun y hy => ?_, fun k => ?_⟩
    · rcases List.mem_cons.1 hy with rfl | hy
      · omega
      · have := g2 y hy; omega
    · by_cases e : (m : Int) = k
      · rw [← e, rp_same, rp_none W G _ fun y hy e => by have := g2 y hy; omega]
        omega
      · rw [rp_other _ _ e]; exact g3 k
  omega
end Go.Proofs.Ytmoghfgfdbdioaa.MW
