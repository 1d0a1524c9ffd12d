/-
  Trays filled with no regard to the beginnings: all but the last are full, and they are as few as can be.
-/
import Derived.Test.YtihbpalhbbingaaFill2
import Derived.Test.YtihbpalhbbingaaTrkA
import Derived.Test.YtihbpalhbbingaaTryN
namespace Go.Proofs.Ytihbpalhbbingaa
open Go.RowKit
set_option linter.unusedVariables false

theorem pre_zero (C : Nat → ByteArray) (i j : Nat) : pre C 0 i = pre C 0 j := by
  unfold pre
  rw [ByteArray.extract_eq_empty_iff.2 (by omega), ByteArray.extract_eq_empty_iff.2 (by omega)]
/-- A new tray begins only where the one before is full. -/
theorem full_zero (I : Nat → Int) (C : Nat → ByteArray) (s : Int) : ∀ i j, j + 1 < fN I C s 0 i → ((fM I C s 0 i j).length : Int) = s
  | 0, j, h => absurd h (by rw [fN_zero]; omega)
  | i + 1, j, h => by
    have ih := full_zero I C s i
    cases hc : cutAt C s 0 i (fN I C s 0 i) (fM I C s 0 i)
    · obtain ⟨e1, e2⟩ := fill_stay (I := I) hc
      rw [e1] at h
      rw [e2, upd_other _ _ (by omega)]
      exact ih j h
    · obtain ⟨e1, e2⟩ := fill_cut (I := I) hc
      rw [e1] at h
      rw [e2, upd_other _ _ (by omega)]
      by_cases e : j + 1 = fN I C s 0 i
      · have hp : 0 < fN I C s 0 i := by omega
        rw [cut_some hp, Bool.or_eq_true] at hc
        rw [show j = fN I C s 0 i - 1 by omega]
        rcases hc with hc | hc
        · exact of_decide_eq_true hc
        · exact absurd (pre_zero C i (i - 1)) (of_decide_eq_true hc)
      · exact ih j (by omega)
theorem tot_full {M : Nat → List (Int × ByteArray)} {s : Int} : ∀ {k : Nat}, (∀ j, j < k → ((M j).length : Int) = s) → ((tot M k : Nat) : Int) = s * k
  | 0, _ => by show (0 : Int) = s * 0; omega
  | k + 1, h => by
    have ih := tot_full (M := M) (k := k) fun j hj => h j (by omega)
    have hk := h k (by omega)
    show ((tot M k + (M k).length : Nat) : Int) = s * ((k + 1 : Nat) : Int)
    rw [Int.natCast_add, ih, hk, Int.natCast_add, Int.mul_add]
    omega
/-- As few trays as can be. -/
theorem fill_few (I : Nat → Int) (C : Nat → ByteArray) {s : Int} (hs : 1 ≤ s) (n : Nat) : ((fN I C s 0 n : Nat) : Int) = ((n : Int) + s - 1) / s := by
  have ht := tot_fill I C s 0 n
  rcases Nat.eq_zero_or_pos (fN I C s 0 n) with e | e
  · rw [e] at ht
    have : n = 0 := ht.symm
    rw [e, this]
    exact (Int.ediv_eq_zero_of_lt (by omega) (by omega)).symm
  · obtain ⟨N, hN⟩ : ∃ N, fN I C s 0 n = N + 1 := ⟨fN I C s 0 n - 1, by omega⟩
    have h1 := tot_full (M := fM I C s 0 n) (s := s) (k := N) fun j hj => full_zero I C s n j (by omega)
    obtain ⟨h2, h3⟩ := fill_len I C s 0 hs n N (by omega)
    rw [hN] at ht ⊢
    have h4 : tot (fM I C s 0 n) N + (fM I C s 0 n N).length = n := ht
    have h5 : (n : Int) + s - 1 = (((fM I C s 0 n N).length : Int) - 1) + s * ((N + 1 : Nat) : Int) := by
      have : s * ((N + 1 : Nat) : Int) = s * N + s := by rw [Int.natCast_add, Int.mul_add]; omega
      rw [this, ← h1]
      omega
    rw [h5, Int.add_mul_ediv_left _ _ (by omega), Int.ediv_eq_zero_of_lt (by omega) (by omega)]
    omega
theorem bat_lst {n : Nat} {I : Nat → Int} {C : Nat → ByteArray} (h : M.batch n I C = true) : bat (M.lst I C n) = true := by
  obtain ⟨h60, hg⟩ := M.batch_yes h
  unfold bat
  rw [M.lst_length]
  cases hb : M.batch n (nI (M.lst I C n)) (nC (M.lst I C n))
  · exfalso
    have hgo : M.goodTo (nI (M.lst I C n)) (nC (M.lst I C n)) n = true := by
      refine (M.goodTo_iff _ _ n).2 fun i hi => ?_
      obtain ⟨e1, e2⟩ := lst_at (I := I) (C := C) hi
      obtain ⟨g1, g2, g3⟩ := hg i hi
      refine ⟨by rw [e2]; exact g1, by rw [e1]; exact g2, fun k hk => ?_⟩
      rw [e1, (lst_at (I := I) (C := C) (show k < n by omega)).1]
      exact g3 k (by omega)
    rw [M.batch_end hgo, decide_eq_false_iff_not] at hb
    omega
  · rfl
/-- All that is asked of filled trays. -/
theorem fill_law {n : Nat} {I : Nat → Int} {C : Nat → ByteArray} {s : Int} (hf : Fits n I C) (h : fillOk n I C s 0 = true) :
    n ≤ 60 ∧ (1 ≤ s ∧ s ≤ 20) ∧ ((fillN n I C s 0 : Nat) : Int) = MW.leastTrays (n : Int) s ∧ (∀ j, j + 1 < fillN n I C s 0 → ((fM I C s (0 : Int).toNat n j).length : Int) = s) ∧
    traysOk (fillN n I C s 0) (fM I C s (0 : Int).toNat n) s = true ∧ traysOk (fillN n I C s 0) (fM I C s (0 : Int).toNat n) 20 = true ∧ empty (fillN n I C s 0) (fM I C s (0 : Int).toNat n) = M.lst I C n ∧
    Sz (fillN n I C s 0) (fM I C s (0 : Int).toNat n) := by
  have hle := fillN_le (n := n) (I := I) (C := C) (s := s) (d := 0)
  rw [fillN_yes h] at hle ⊢
  have h0 := h
  unfold fillOk at h0
  rw [Bool.and_eq_true, Bool.and_eq_true] at h0
  obtain ⟨hb, hs, _⟩ := h0
  have hs := of_decide_eq_true hs
  have h60 := (M.batch_yes hb).1
  have hfl : M.flat (fM I C s (0 : Int).toNat n) (fN I C s (0 : Int).toNat n) = M.lst I C n := flat_fill I C s (0 : Int).toNat n
  have hln := fill_len I C s (0 : Int).toNat hs.1 n
  have T : ∀ z : Int, s ≤ z → z ≤ 20 → traysOk (fN I C s (0 : Int).toNat n) (fM I C s (0 : Int).toNat n) z = true := fun z h1 h2 => by
    rw [traysOk_last (decide_eq_true ⟨by omega, h2⟩) hle ((lensIn_iff _ _ _).2 fun i hi => ⟨(hln i hi).1, Int.le_trans (hln i hi).2 h1⟩), hfl]
    exact bat_lst hb
  refine ⟨h60, hs, ?_, fun j hj => full_zero I C s n j hj, T s (Int.le_refl s) hs.2, T 20 hs.2 (Int.le_refl _), ?_, ?_⟩
  · unfold MW.leastTrays
    rw [if_pos ⟨⟨by omega, by omega⟩, hs⟩]
    exact fill_few I C hs.1 n
  · unfold empty
    rw [if_pos (T 20 hs.2 (Int.le_refl _)), hfl]
  · refine ⟨by omega, by rw [hfl, M.lst_length]; omega, ?_⟩
    rw [hfl]
    intro i hi
    rw [M.lst_length] at hi
    rw [(lst_at (I := I) (C := C) hi).1, (lst_at (I := I) (C := C) hi).2]
    exact hf i hi
end Go.Proofs.Ytihbpalhbbingaa

/-
  Repacked trays: what the law asks of them, as plain functions. No program is named here.
-/
namespace Go.Proofs.Ytihbpalhbbingaa
set_option linter.unusedVariables false

theorem tot_small {M : Nat → List (Int × ByteArray)} {s : Int} : ∀ {n : Nat}, (∀ i, i < n → ((M i).length : Int) ≤ s) → ((tot M n : Nat) : Int) ≤ s * (n : Int)
  | 0, _ => by show ((0 : Nat) : Int) ≤ _; simp
  | n + 1, h => by
    have h1 := tot_small (M := M) (s := s) (n := n) (fun i hi => h i (by omega))
    have h2 := h n (by omega)
    show ((tot M n + (M n).length : Nat) : Int) ≤ _
    rw [Int.natCast_add, Int.natCast_add, Int.mul_add]
    omega
theorem rep_law {n : Nat} {MM : Nat → List (Int × ByteArray)} {s : Int} (h : repOk n MM s = true) :
    ∃ L, M.flat MM n = L ∧ BatchL L ∧ repOk (repN n MM s) (repM n MM s) s = true ∧ repN (repN n MM s) (repM n MM s) s = repN n MM s ∧ repM (repN n MM s) (repM n MM s) s = repM n MM s ∧
    fillOk L.length (nI L) (nC L) s 0 = true ∧ fillN L.length (nI L) (nC L) s 0 = repN n MM s ∧ fM (nI L) (nC L) s (0 : Int).toNat L.length = repM n MM s ∧
    M.flat (repM n MM s) (repN n MM s) = L ∧ Sz (repN n MM s) (repM n MM s) ∧ (traysOk n MM s = true → repN n MM s ≤ n) := by
  have h0 := h
  unfold repOk at h0
  rw [Bool.and_eq_true] at h0
  obtain ⟨h1, h2⟩ := h0
  have hB := flat_batch h1
  refine ⟨_, rfl, hB, ?_⟩
  have hfo : fillOk (M.flat MM n).length (nI (M.flat MM n)) (nC (M.flat MM n)) s 0 = true := fillOk_4 ((batchL_list _).2 hB) h2 (by omega)
  have hfn := fillN_yes hfo
  obtain ⟨_, hs, hfew, _, t1, t2, he, hsz⟩ := fill_law hB.fits hfo
  have eN : repN n MM s = fillN (M.flat MM n).length (nI (M.flat MM n)) (nC (M.flat MM n)) s 0 := by rw [hfn]; exact repN_yes h
  have eM : repM n MM s = fM (nI (M.flat MM n)) (nC (M.flat MM n)) s (0 : Int).toNat (M.flat MM n).length := rfl
  have hfl : M.flat (repM n MM s) (repN n MM s) = M.flat MM n := by
    rw [eN, hfn, eM, flat_fill, lst_nI]
  rw [← eN, ← eM] at t1 t2 hsz
  have hro : repOk (repN n MM s) (repM n MM s) s = true := repOk_3 t2 h2
  have e1 : repN (repN n MM s) (repM n MM s) s = repN n MM s := by
    rw [repN_yes hro, hfl, ← repN_yes h]
  have e2 : repM (repN n MM s) (repM n MM s) s = repM n MM s := by
    show fM (nI (M.flat (repM n MM s) (repN n MM s))) (nC (M.flat (repM n MM s) (repN n MM s))) s 0 (M.flat (repM n MM s) (repN n MM s)).length = _
    rw [hfl]; rfl
  refine ⟨hro, e1, e2, hfo, eN.symm, eM.symm, hfl, hsz, fun ht => ?_⟩
  have hl := tot_small (M := MM) (s := s) (n := n) (fun i hi => ((tray_few ht).2 i hi).2)
  rw [← tot_flat] at hl
  have hf := fill_few (nI (M.flat MM n)) (nC (M.flat MM n)) hs.1 (M.flat MM n).length
  have e3 : repN n MM s = fN (nI (M.flat MM n)) (nC (M.flat MM n)) s 0 (M.flat MM n).length := repN_yes h
  rw [← e3] at hf
  have h3 : (((M.flat MM n).length : Int) + s - 1) / s < (n : Int) + 1 := by
    apply Int.ediv_lt_of_lt_mul (by omega)
    rw [Int.add_mul, Int.mul_comm]
    omega
  omega
end Go.Proofs.Ytihbpalhbbingaa
