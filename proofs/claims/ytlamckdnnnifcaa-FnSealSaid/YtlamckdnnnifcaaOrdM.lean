/-
  Exchanged neighbors and the order seal.
-/
import Derived.Test.YtlamckdnnnifcaaDrawS
import Derived.Test.YtlamckdnnnifcaaSeal
namespace Go.Proofs.Ytlamckdnnnifcaa
open Go.RowKit
set_option linter.unusedVariables false

theorem Row.whole {w : World} {base g c : Nat} {L : List (Int × ByteArray)} (h : Row w base (.slice (some ⟨g, 0, none⟩) L.length c) L) (j : Nat) (hj : j < L.length) (x : Int) (s : ByteArray) :
    Row ((w.setCell ⟨g, j * 2, none⟩ (.int .i64 x)).setCell ⟨g, j * 2 + 1, none⟩ (.string s)) base (.slice (some ⟨g, 0, none⟩) L.length c) (L.set j (x, s)) ∧ w.grownBy ((w.setCell ⟨g, j * 2, none⟩ (.int .i64 x)).setCell ⟨g, j * 2 + 1, none⟩ (.string s)) (some g) := by
  obtain ⟨h1, g1⟩ := Row.id h j hj x
  have hl : (L.set j (x, L[j].2)).length = L.length := List.length_set
  have h1' : Row (w.setCell ⟨g, j * 2, none⟩ (.int .i64 x)) base (.slice (some ⟨g, 0, none⟩) (L.set j (x, L[j].2)).length c) (L.set j (x, L[j].2)) := by rw [hl]; exact h1
  obtain ⟨h2, g2⟩ := Row.code h1' j (by rw [hl]; exact hj) s
  simp only [List.getElem_set_self, List.set_set, List.length_set] at h2
  exact ⟨h2, g1.trans g2⟩
/-- Letters with two neighbors exchanged. -/
def swapL (L : List (Int × ByteArray)) (i : Nat) (y z : Int × ByteArray) : List (Int × ByteArray) := (L.set i y).set (i - 1) z
theorem swapL_len (L : List (Int × ByteArray)) (i : Nat) (y z : Int × ByteArray) : (swapL L i y z).length = L.length := by simp [swapL]
theorem swapL_at {L : List (Int × ByteArray)} {i : Nat} {y z : Int × ByteArray} {t : Nat} (ht : t < L.length) :
    nI (swapL L i y z) t = (if i - 1 = t then z.1 else if i = t then y.1 else nI L t) ∧ nC (swapL L i y z) t = (if i - 1 = t then z.2 else if i = t then y.2 else nC L t) := by
  have hl : t < (swapL L i y z).length := by rw [swapL_len]; exact ht
  have e0 : ∀ (R : List (Int × ByteArray)) (k : Nat) (u : Int × ByteArray) (h : t < (R.set k u).length), (R.set k u)[t] = if k = t then u else R[t]'(by simpa using h) := fun R k u h => List.getElem_set h
  have e : (swapL L i y z)[t] = if i - 1 = t then z else if i = t then y else L[t] :=
    (e0 (L.set i y) (i - 1) z hl).trans (by rw [e0 L i y])
  rw [nI_at hl, nC_at hl, nI_at ht, nC_at ht, e]
  by_cases a : i - 1 = t
  · simp only [if_pos a, and_self]
  · by_cases b : i = t
    · simp only [if_neg a, if_pos b, and_self]
    · simp only [if_neg a, if_neg b, and_self]
theorem M.seal_same {f : Int → Int → Int} {I J : Nat → Int} : ∀ k, (∀ t, t < k → J t = I t) → M.seal f J k = M.seal f I k
  | 0, _ => rfl
  | k + 1, h => by rw [M.seal_succ, M.seal_succ, M.seal_same k (fun t ht => h t (by omega)), h k (by omega)]
theorem M.ord_back {I J : Nat → Int} {a : Nat} : ∀ d, (∀ t, a ≤ t → t < a + d → J t = I t) → M.seal M.ord J (a + d) = M.seal M.ord I (a + d) → M.seal M.ord J a = M.seal M.ord I a
  | 0, _, h => h
  | d + 1, hJ, h => by
    refine M.ord_back d (fun t h1 h2 => hJ t h1 (by omega)) ?_
    rw [← Nat.add_assoc, M.seal_succ, M.seal_succ, hJ (a + d) (by omega) (by omega)] at h
    have b1 := M.seal_bd M.ord J (a + d)
    have b2 := M.seal_bd M.ord I (a + d)
    unfold M.ord at *
    omega
theorem M.ord_swap {I J : Nat → Int} {i n : Nat} (h1 : 1 ≤ i) (hi : i < n) (hJ : ∀ t, t < n → t ≠ i → t ≠ i - 1 → J t = I t) (e1 : J i = I (i - 1)) (e2 : J (i - 1) = I i) (h : M.seal M.ord J n = M.seal M.ord I n) : (I i - I (i - 1)) % 9973 = 0 := by
  obtain ⟨j, rfl⟩ : ∃ j, i = j + 1 := ⟨i - 1, by omega⟩
  rw [Nat.add_sub_cancel] at *
  have h2 : M.seal M.ord J (j + 2) = M.seal M.ord I (j + 2) := M.ord_back (n - (j + 2)) (fun t a b => hJ t (by omega) (by omega) (by omega)) (by rw [show j + 2 + (n - (j + 2)) = n by omega]; exact h)
  have h0 : M.seal M.ord J j = M.seal M.ord I j := M.seal_same j (fun t ht => hJ t (by omega) (by omega) (by omega))
  rw [M.seal_succ M.ord J (j + 1), M.seal_succ M.ord J j, M.seal_succ M.ord I (j + 1), M.seal_succ M.ord I j, h0, e1, e2] at h2
  unfold M.ord at h2
  omega
theorem tmod_zero (d : Int) : (d.tmod 9973 = 0) ↔ d % 9973 = 0 := by
  rw [← Int.dvd_iff_tmod_eq_zero, ← Int.dvd_iff_emod_eq_zero]
end Go.Proofs.Ytlamckdnnnifcaa
