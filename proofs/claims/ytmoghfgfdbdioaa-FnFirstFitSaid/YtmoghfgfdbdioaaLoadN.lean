/-
  No loading needs fewer trucks than the least number.
-/
import Derived.Test.YtmoghfgfdbdioaaPackM
import Derived.Test.YtmoghfgfdbdioaaLoadM
namespace Go.Proofs.Ytmoghfgfdbdioaa.MW
set_option linter.unusedVariables false

/-- The weights that go to truck k. -/
def rp : List Int → List Int → Int → Int
  | x :: W, y :: G, k => (if y = k then x else 0) + rp W G k
  | _, _, _ => 0
theorem rp_nonneg : ∀ (W G : List Int) (k : Int), (∀ x ∈ W, 1 ≤ x) → 0 ≤ rp W G k
  | [], _, _, _ => by simp [rp]
  | x :: W, [], _, _ => by simp [rp]
  | x :: W, y :: G, k, h => by
    have := rp_nonneg W G k fun z hz => h z (List.mem_cons_of_mem _ hz)
    have := h x (List.mem_cons_self ..)
    unfold rp
    split <;> omega
theorem rp_same (x y : Int) (W G : List Int) : rp (x :: W) (y :: G) y = x + rp W G y := by simp [rp]
theorem rp_other {x y k : Int} (W G : List Int) (h : y ≠ k) : rp (x :: W) (y :: G) k = rp W G k := by simp [rp, h]
theorem below_len : ∀ (n : Nat) (S : List Int), S.Pairwise (· ≠ ·) → (∀ k ∈ S, 0 ≤ k ∧ k < n) → S.length ≤ n
  | 0, [], _, _ => Nat.le_refl _
  | 0, k :: S, _, h => by have := h k (List.mem_cons_self ..); omega
  | n + 1, S, hd, h => by
    by_cases hm : (n : Int) ∈ S
    · have h1 := below_len n (S.erase n) (hd.sublist (List.erase_sublist ..)) fun k hk => by
        have h2 := h k (List.mem_of_mem_erase hk)
        have h3 : k ≠ (n : Int) := fun e => by
          subst e
          exact (List.Nodup.mem_erase_iff hd).1 hk |>.1 rfl
        omega
      rw [List.length_erase_of_mem hm] at h1
      omega
    · have := below_len n S hd fun k hk => by
        have h2 := h k hk
        have h3 : k ≠ (n : Int) := fun e => hm (e ▸ hk)
        omega
      omega
theorem lw_loading (c : Int) (n : Nat) (hn : n ≤ 8) : ∀ (W G L S : List Int), W.length = G.length → Used L S.length → S.length + W.length ≤ 8 → (∀ x ∈ W, 1 ≤ x) → S.Pairwise (· ≠ ·) → (∀ k ∈ S, 0 ≤ k ∧ k < n) → (∀ y ∈ G, 0 ≤ y ∧ y < n) →
    (∀ t (ht : t < S.length), gz L t + rp W G S[t] ≤ c) → (∀ k, k ∉ S → rp W G k ≤ c) → lw c W L S.length ≤ n
  | [], _, L, S, _, _, _, _, hd, hs, _, _, _ => below_len n S hd hs
  | x :: W, [], _, _, h, _, _, _, _, _, _, _, _ => by simp at h
  | x :: W, y :: G, L, S, hl, hU, hw, hx, hd, hs, hg, h1, h2 => by
    have hl' : W.length = G.length := by simpa using hl
    have hw' : S.length + W.length + 1 ≤ 8 := by simpa [Nat.add_assoc] using hw
    have hx' : ∀ z ∈ W, 1 ≤ z := fun z hz => hx z (List.mem_cons_of_mem _ hz)
    have hg' : ∀ z ∈ G, 0 ≤ z ∧ z < n := fun z hz => hg z (List.mem_cons_of_mem _ hz)
    have hx1 := hx x (List.mem_cons_self ..)
    have hr := rp_nonneg W G y hx'
    show leastOf _ _ _ ≤ n
    rw [leastOf_iff]
    by_cases hy : y ∈ S
    · obtain ⟨t, ht, e⟩ := List.getElem_of_mem hy
      have h3 := h1 t ht
      rw [e, rp_same] at h3
      refine Or.inr ⟨t, by omega, decide_eq_true (by omega), ?_⟩
      have hm : max S.length (t + 1) = S.length := by omega
      have hU2 := hU.put hx1 (t := t) (by omega) (by omega)
      rw [hm] at hU2 ⊢
      refine lw_loading c n hn W G _ S hl' hU2 (by omega) hx' hd hs hg' (fun j hj => ?_) (fun k hk => ?_)
      · by_cases hjt : t = j
        · subst hjt
          rw [gz_set_self (by have := hU.1; omega), e]
          omega
        · rw [gz_set_ne hjt]
          have h4 := h1 j hj
          rw [rp_other] at h4
          · exact h4
          · intro e2
            rw [← e] at e2
            rcases Nat.lt_or_gt_of_ne hjt with h | h
            · exact List.pairwise_iff_getElem.1 hd t j ht hj h e2
            · exact List.pairwise_iff_getElem.1 hd j t hj ht h e2.symm
      · have h4 := h2 k hk
        rw [rp_other] at h4
        · exact h4
        · exact fun e2 => hk (e2 ▸ hy)
    · have h3 := h2 y hy
      rw [rp_same] at h3
      have hz := hU.2.2.2 S.length (Nat.le_refl _)
      refine Or.inr ⟨S.length, by omega, decide_eq_true (by omega), ?_⟩
      have hU2 := hU.put hx1 (t := S.length) (by omega) (by omega)
      have hm : max S.length (S.length + 1) = (S ++ [y]).length := by simp
      rw [hm] at hU2 ⊢
      refine lw_loading c n hn W G _ (S ++ [y]) hl' hU2 (by simp; omega) hx' ?_ ?_ hg' (fun j hj => ?_) (fun k hk => ?_)
      · rw [List.pairwise_append]
        exact ⟨hd, List.pairwise_singleton _ _, fun a ha b hb e => by rw [List.mem_singleton.1 hb] at e; exact hy (e ▸ ha)⟩
      · intro k hk
        rcases List.mem_append.1 hk with hk | hk
        · exact hs k hk
        · rw [List.mem_singleton.1 hk]; exact hg y (List.mem_cons_self ..)
      · by_cases hjt : S.length = j
        · subst hjt
          rw [gz_set_self (by have := hU.1; omega), List.getElem_append_right (Nat.le_refl _)]
          simp only [Nat.sub_self, List.getElem_cons_zero]
          omega
        · have hj2 : j < S.length := by rw [List.length_append, List.length_singleton] at hj; omega
          rw [gz_set_ne hjt, List.getElem_append_left hj2]
          have h4 := h1 j hj2
          rw [rp_other] at h4
          · exact h4
          · exact fun e2 => hy (e2 ▸ List.getElem_mem hj2)
      · rw [List.mem_append, not_or] at hk
        have h4 := h2 k hk.1
        rw [rp_other] at h4
        · exact h4
        · exact fun e2 => hk.2 (List.mem_singleton.2 e2.symm)
theorem part_cons (x y k : Int) (W G : List Int) : ∀ m, part (x :: W) (y :: G) k (m + 1) = (if y = k then x else 0) + part W G k m
  | 0 => by
    show (if gz (y :: G) 0 = k then (0 : Int) + gz (x :: W) 0 else 0) = _
    have e1 : gz (y :: G) 0 = y := rfl
    have e2 : gz (x :: W) 0 = x := rfl
    rw [e1, e2]
    show _ = (if y = k then x else 0) + 0
    split <;> omega
  | m + 1 => by
    have ih := part_cons x y k W G m
    show (if gz (y :: G) (m + 1) = k then part (x :: W) (y :: G) k (m + 1) + gz (x :: W) (m + 1) else part (x :: W) (y :: G) k (m + 1)) = (if y = k then x else 0) + (if gz G m = k then part W G k m + gz W m else part W G k m)
    have e1 : gz (y :: G) (m + 1) = gz G m := by simp [gz]
    have e2 : gz (x :: W) (m + 1) = gz W m := by simp [gz]
    rw [e1, e2, ih]
    by_cases h1 : gz G m = k
    · rw [if_pos h1, if_pos h1]; omega
    · rw [if_neg h1, if_neg h1]
theorem rp_part (k : Int) : ∀ W G : List Int, W.length = G.length → rp W G k = part W G k W.length
  | [], _, _ => rfl
  | x :: W, [], h => by simp at h
  | x :: W, y :: G, h => by
    show (if y = k then x else 0) + rp W G k = part (x :: W) (y :: G) k (W.length + 1)
    rw [part_cons, rp_part k W G (by simpa using h)]
theorem part_none {W G : List Int} {k : Int} : ∀ m, (∀ i, i < m → gz G i ≠ k) → part W G k m = 0
  | 0, _ => rfl
  | m + 1, h => by
    unfold part
    rw [if_neg (h m (by omega)), part_none m fun i hi => h i (by omega)]
/-- A loading whose trucks are not overloaded has at least the least number of trucks. -/
theorem fine_least {W G : List Int} {c : Int} (h1 : wOk W c = true) (h2 : gOk G = true) (h3 : W.length = G.length) (hc : ∀ k : Nat, (k : Int) < cnt G → part W G (k : Int) W.length ≤ c) : leastTrucks W c ≤ cnt G := by
  obtain ⟨w1, w2, w3⟩ := (wOk_iff W c).1 h1
  obtain ⟨g1, g2⟩ := (gOk_iff G).1 h2
  have hc8 := cnt_le8 h2
  obtain ⟨n, hn⟩ := Int.eq_ofNat_of_zero_le hc8.1
  have hgm : ∀ y ∈ G, 0 ≤ y ∧ y < n := fun y hy => by
    obtain ⟨i, hi, e⟩ := mem_gz hy
    have := g2 i hi
    have : gz G i < cnt G := cntTo_lt G G.length i hi
    omega
  have hU : Used (List.replicate 8 0) ([] : List Int).length := ⟨by simp, by simp, fun t ht => absurd ht (by simp), fun t _ => gz_replicate 8 t⟩
  have := lw_loading c n (by omega) W G (List.replicate 8 0) [] h3 hU (by simpa using w2) (fun x hx => by
    obtain ⟨i, hi, e⟩ := mem_gz hx
    rw [← e]; exact (w3 i hi).1) List.Pairwise.nil (fun k hk => by cases hk) hgm (fun t ht => absurd ht (by simp)) (fun k _ => by
    rw [rp_part k W G h3]
    by_cases hk : 0 ≤ k ∧ k < cnt G
    · have := hc k.toNat (by omega)
      rw [show ((k.toNat : Nat) : Int) = k by omega] at this
      exact this
    · rw [part_none]
      · omega
      · intro i hi e
        have := g2 i (by omega)
        have : gz G i < cnt G := cntTo_lt G G.length i (by omega)
        omega)
  rw [leastTrucks_yes h1, hn]
  have h0 : ([] : List Int).length = 0 := rfl
  rw [h0] at this
  omega
end Go.Proofs.Ytmoghfgfdbdioaa.MW
