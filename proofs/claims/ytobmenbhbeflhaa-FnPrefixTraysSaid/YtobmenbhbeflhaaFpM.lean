/-
  Trays by the beginnings of codes: what the law asks of them. No program is named here.
-/
import Derived.Test.YtobmenbhbeflhaaFillM
import Derived.Test.YtobmenbhbeflhaaTryN
namespace Go.Proofs.Ytobmenbhbeflhaa
set_option linter.unusedVariables false

def bgn (d : Nat) (x : ByteArray) : ByteArray := x.extract 0 d
/-- Each tray's codes begin alike; behind a tray that is not full the beginning changes. -/
structure FpI (I : Nat → Int) (C : Nat → ByteArray) (s : Int) (d : Nat) (i : Nat) : Prop where
  same : ∀ j, j < fN I C s d i → ∀ k, k < (fM I C s d i j).length → bgn d (nC (fM I C s d i j) k) = bgn d (nC (fM I C s d i j) 0)
  last : 0 < fN I C s d i → bgn d (nC (fM I C s d i (fN I C s d i - 1)) 0) = pre C d (i - 1) ∧ 0 < (fM I C s d i (fN I C s d i - 1)).length
  next : ∀ j, j + 1 < fN I C s d i → ((fM I C s d i j).length : Int) = s ∨ bgn d (nC (fM I C s d i (j + 1)) 0) ≠ bgn d (nC (fM I C s d i j) 0)
theorem nC_one (x : Int) (c : ByteArray) : nC [(x, c)] 0 = c := rfl
theorem nC_app0 {L : List (Int × ByteArray)} (h : 0 < L.length) (y : Int × ByteArray) : nC (L ++ [y]) 0 = nC L 0 := by
  rw [nC_at (by simp), nC_at h, List.getElem_append_left h]
theorem fp_inv (I : Nat → Int) (C : Nat → ByteArray) (s : Int) (d : Nat) : ∀ i, FpI I C s d i
  | 0 => ⟨fun j hj => absurd hj (by rw [fN_zero]; omega), fun h => absurd h (by rw [fN_zero]; omega), fun j hj => absurd hj (by rw [fN_zero]; omega)⟩
  | i + 1 => by
    have ih := fp_inv I C s d i
    cases hc : cutAt C s d i (fN I C s d i) (fM I C s d i) with
    | true =>
      obtain ⟨e1, e2⟩ := fill_cut hc
      obtain ⟨h1, h2, h3⟩ := ih
      refine ⟨fun j hj k hk => ?_, fun _ => ?_, fun j hj => ?_⟩
      · rw [e2] at hk ⊢
        rw [e1] at hj
        by_cases e : j = fN I C s d i
        · subst e
          rw [upd_same] at hk ⊢
          have : k = 0 := by simp at hk; omega
          subst this; rfl
        · rw [upd_other _ _ e] at hk ⊢
          exact h1 j (by omega) k hk
      · rw [e1, e2, Nat.add_sub_cancel, upd_same, Nat.add_sub_cancel]
        exact ⟨rfl, by simp⟩
      · rw [e1] at hj
        rw [e2]
        by_cases e : j + 1 = fN I C s d i
        · rw [e, upd_same, upd_other _ _ (by omega : j ≠ fN I C s d i), nC_one]
          have hN : 0 < fN I C s d i := by omega
          rw [cut_some hN, Bool.or_eq_true, decide_eq_true_eq, decide_eq_true_eq] at hc
          have hj' : fN I C s d i - 1 = j := by omega
          rw [hj'] at hc
          have h4 := (h2 hN).1
          rw [hj'] at h4
          rcases hc with hc | hc
          · exact Or.inl hc
          · exact Or.inr (by rw [h4]; exact hc)
        · rw [upd_other _ _ e, upd_other _ _ (by omega : j ≠ fN I C s d i)]
          exact h3 j (by omega)
    | false =>
      obtain ⟨e1, e2⟩ := fill_stay hc
      have hN := stay_pos hc
      have hc2 := hc
      rw [cut_some hN, Bool.or_eq_false_iff, decide_eq_false_iff_not, decide_eq_false_iff_not, Decidable.not_not] at hc2
      obtain ⟨_, hpre⟩ := hc2
      obtain ⟨h1, h2, h3⟩ := ih
      obtain ⟨h4, h5⟩ := h2 hN
      refine ⟨fun j hj k hk => ?_, fun _ => ?_, fun j hj => ?_⟩
      · rw [e2] at hk ⊢
        rw [e1] at hj
        by_cases e : j = fN I C s d i - 1
        · subst e
          rw [upd_same] at hk ⊢
          rw [nC_app0 h5]
          rw [List.length_append, List.length_singleton] at hk
          by_cases ek : k = (fM I C s d i (fN I C s d i - 1)).length
          · rw [nC_at (by simp; omega), List.getElem_append_right (by omega)]
            simp only [ek, Nat.sub_self, List.getElem_cons_zero]
            rw [h4, ← hpre]; rfl
          · have hk2 : k < (fM I C s d i (fN I C s d i - 1)).length := by omega
            rw [nC_at (by simp; omega), List.getElem_append_left hk2, ← nC_at hk2]
            exact h1 _ (by omega) k hk2
        · rw [upd_other _ _ e] at hk ⊢
          exact h1 j hj k hk
      · rw [e1, e2, upd_same, nC_app0 h5, Nat.add_sub_cancel]
        exact ⟨h4.trans hpre.symm, by simp⟩
      · rw [e1] at hj
        rw [e2, upd_other _ _ (by omega : j ≠ fN I C s d i - 1)]
        by_cases e : j + 1 = fN I C s d i - 1
        · rw [e, upd_same, nC_app0 h5]
          have := h3 j hj
          rw [e] at this
          exact this
        · rw [upd_other _ _ e]
          exact h3 j hj
/-- What the law asks of trays that were filled by beginnings. -/
theorem fp_law {n : Nat} {I : Nat → Int} {C : Nat → ByteArray} {s d : Int} (hf : Fits n I C) (h : fillOk n I C s d = true) :
    (1 ≤ s ∧ s ≤ 20) ∧ (0 ≤ d ∧ d ≤ 7) ∧ n ≤ 60 ∧ (∀ j, j < fillN n I C s d → 1 ≤ (fM I C s d.toNat n j).length ∧ (fM I C s d.toNat n j).length ≤ 20 ∧ (∀ k, k < (fM I C s d.toNat n j).length → (nC (fM I C s d.toNat n j) k).size = 7 ∧ bgn d.toNat (nC (fM I C s d.toNat n j) k) = bgn d.toNat (nC (fM I C s d.toNat n j) 0))) ∧
    (∀ j, j + 1 < fillN n I C s d → ((fM I C s d.toNat n j).length : Int) = s ∨ bgn d.toNat (nC (fM I C s d.toNat n (j + 1)) 0) ≠ bgn d.toNat (nC (fM I C s d.toNat n j) 0)) ∧
    M.flat (fM I C s d.toNat n) (fillN n I C s d) = M.lst I C n ∧ traysOk (fillN n I C s d) (fM I C s d.toNat n) s = true ∧ Sz (fillN n I C s d) (fM I C s d.toNat n) := by
  have hle : fillN n I C s d ≤ 60 := by
    rw [fillN_yes h]
    unfold fillOk at h
    rw [Bool.and_eq_true, Bool.and_eq_true] at h
    exact Nat.le_trans (fN_le _ _ _ _ _) (M.batch_yes h.1).1
  have h0 := h
  unfold fillOk at h0
  rw [Bool.and_eq_true, Bool.and_eq_true] at h0
  obtain ⟨hb, hs, hd⟩ := h0
  have hs := of_decide_eq_true hs
  have hd := of_decide_eq_true hd
  have hfl : M.flat (fM I C s d.toNat n) (fN I C s d.toNat n) = M.lst I C n := flat_fill I C s d.toNat n
  have hln := fill_len I C s d.toNat hs.1 n
  have hi := fp_inv I C s d.toNat n
  have hB := (batchL_iff n I C).1 hb
  rw [← hfl] at hB
  rw [fillN_yes h] at hle ⊢
  refine ⟨hs, hd, (M.batch_yes hb).1, fun j hj => ⟨by have := hln j hj; omega, by have := hln j hj; omega, fun k hk => ⟨?_, hi.same j hj k hk⟩⟩, hi.next, hfl, ?_, ?_⟩
  · have := (hB.1 _ ((row_sub hj).subset (List.getElem_mem hk))).1
    rw [nC_at hk]
    exact (M.code_yes this).2
  · rw [traysOk_last (decide_eq_true hs) hle ((lensIn_iff _ _ _).2 fun i hi => hln i hi)]
    exact (batchL_list _).2 hB
  · refine ⟨by omega, by have := hB.2.2; omega, hB.fits⟩
end Go.Proofs.Ytobmenbhbeflhaa
