/-
  Lists of orders that are the same: what the law asks of them. No program is named here.
-/
import Derived.Test.YtekkajgifgnklaaSame2
import Derived.Test.YtekkajgifgnklaaAddM
namespace Go.Proofs.Ytekkajgifgnklaa
open Go.RowKit
set_option linter.unusedVariables false

namespace M
variable {F T F2 T2 : Nat → ByteArray} {n n2 : Nat}
theorem allF_left {j : Nat} (hj : j < n) : allF F T n F2 T2 n2 j = F j := by
  unfold allF
  have hl : j < (flst F T n ++ flst F2 T2 n2).length := by rw [List.length_append, flst_length]; omega
  have h1 : j < (flst F T n).length := by rw [flst_length]; exact hj
  rw [nF_at hl, List.getElem_append_left h1]
  simp [flst]
theorem allF_right {j : Nat} (hj : j < n2) : allF F T n F2 T2 n2 (n + j) = F2 j := by
  unfold allF
  have hl : n + j < (flst F T n ++ flst F2 T2 n2).length := by rw [List.length_append, flst_length, flst_length]; omega
  rw [nF_at hl, List.getElem_append_right (by rw [flst_length]; omega)]
  simp [flst]
theorem same_iff (h : fwd n F T = true) (h2 : fwd n2 F2 T2 = true) : same F T n F2 T2 n2 = true ↔ (∀ i, i < n → sameAt F T n F2 T2 n2 (F i) = true) ∧ ∀ i, i < n2 → sameAt F T n F2 T2 n2 (F2 i) = true := by
  unfold same
  rw [h, h2, Bool.true_and, Bool.true_and, List.all_eq_true]
  constructor
  · intro hs
    refine ⟨fun i hi => ?_, fun i hi => ?_⟩
    · have := hs i (List.mem_range.2 (by omega))
      rw [allF_left hi] at this
      exact this
    · have := hs (n + i) (List.mem_range.2 (by omega))
      rw [allF_right hi] at this
      exact this
  · rintro ⟨h1, h3⟩ j hj
    have hj := List.mem_range.1 hj
    by_cases e : j < n
    · rw [allF_left e]; exact h1 j e
    · have := h3 (j - n) (by omega)
      have e2 : allF F T n F2 T2 n2 j = F2 (j - n) := by
        have := allF_right (F := F) (T := T) (n := n) (F2 := F2) (T2 := T2) (n2 := n2) (j := j - n) (by omega)
        rw [show n + (j - n) = j by omega] at this
        exact this
      rw [e2]
      exact this
theorem sameAt_comm (c : ByteArray) : sameAt F T n F2 T2 n2 c = sameAt F2 T2 n2 F T n c := by
  unfold sameAt
  exact decide_eq_decide.2 ⟨fun e => e.symm, fun e => e.symm⟩
theorem same_comm (h : fwd n F T = true) (h2 : fwd n2 F2 T2 = true) : same F2 T2 n2 F T n = same F T n F2 T2 n2 := by
  have e : same F2 T2 n2 F T n = true ↔ same F T n F2 T2 n2 = true := by
    rw [same_iff h2 h, same_iff h h2]
    constructor
    · rintro ⟨p, q⟩
      exact ⟨fun i hi => by rw [sameAt_comm]; exact q i hi, fun i hi => by rw [sameAt_comm]; exact p i hi⟩
    · rintro ⟨p, q⟩
      exact ⟨fun i hi => by rw [sameAt_comm]; exact q i hi, fun i hi => by rw [sameAt_comm]; exact p i hi⟩
  exact Bool.eq_iff_iff.2 e
theorem same_self (h : fwd n F T = true) : same F T n F T n = true := by
  rw [same_iff h h]
  exact ⟨fun i _ => decide_eq_true rfl, fun i _ => decide_eq_true rfl⟩
theorem end_sub (h : fwd n F T = true) (h2 : fwd n2 F2 T2 = true) (hs : ∀ i, i < n → sameAt F T n F2 T2 n2 (F i) = true) {x : ByteArray} (hx : x ∈ endless F T n) : x ∈ endless F2 T2 n2 := by
  obtain ⟨i, hi, e, hr⟩ := (endless_mem h).1 hx
  have hc : code x = true := by rw [← e]; exact ((fwd_yes h).2 i hi).1
  have hsm := hs i hi
  rw [e] at hsm
  have he := same_some h h2 hc (of_decide_eq_true hsm)
  rw [hr] at he
  cases hn : nextOf F2 T2 n2 x with
  | none =>
    rw [res_here hn] at he
    cases he
  | some y =>
    obtain ⟨k, hk, hkx, _⟩ := nextOf_at hn
    refine (endless_mem h2).2 ⟨k, hk, ?_, he.symm⟩
    first | exact hkx | exact hkx.symm
theorem end_same (h : fwd n F T = true) (h2 : fwd n2 F2 T2 = true) (hs : same F T n F2 T2 n2 = true) : endless F T n = endless F2 T2 n2 := by
  obtain ⟨p, q⟩ := (same_iff h h2).1 hs
  have hm : ∀ x, x ∈ endless F T n ↔ x ∈ endless F2 T2 n2 := fun x => ⟨end_sub h h2 p, end_sub h2 h fun i hi => by rw [sameAt_comm]; exact q i hi⟩
  have hp := (List.perm_ext_iff_of_nodup (endless_nodup h) (endless_nodup h2)).2 hm
  refine List.Perm.eq_of_pairwise (le := fun (a b : ByteArray) => bl a ≤ bl b) ?_ ?_ ?_ hp
  · intro a b _ _ h1 h2
    exact bl_inj (List.le_antisymm h1 h2)
  · rw [endless_yes h]; exact insAll_up _
  · rw [endless_yes h2]; exact insAll_up _
/-- What the law finds after it has asked for k codes. -/
def asked (F T : Nat → ByteArray) (n : Nat) (F2 T2 : Nat → ByteArray) (n2 : Nat) : Nat → Bool
  | 0 => decide (endless F T n = endless F2 T2 n2)
  | k + 1 => asked F T n F2 T2 n2 k && (decide ((res F T n (allF F T n F2 T2 n2 k)).isSome = (res F2 T2 n2 (allF F T n F2 T2 n2 k)).isSome) && sameAt F T n F2 T2 n2 (allF F T n F2 T2 n2 k))
theorem asked_all (h : fwd n F T = true) (h2 : fwd n2 F2 T2 = true) : asked F T n F2 T2 n2 (n + n2) = same F T n F2 T2 n2 := by
  cases hs : same F T n F2 T2 n2
  · rw [Bool.eq_false_iff]
    intro e
    have hd : ∀ k, asked F T n F2 T2 n2 k = true → ∀ j, j < k → sameAt F T n F2 T2 n2 (allF F T n F2 T2 n2 j) = true := by
      intro k
      induction k with
      | zero => intro _ j hj; omega
      | succ k ih =>
        intro e j hj
        have e' : (asked F T n F2 T2 n2 k && (decide ((res F T n (allF F T n F2 T2 n2 k)).isSome = (res F2 T2 n2 (allF F T n F2 T2 n2 k)).isSome) && sameAt F T n F2 T2 n2 (allF F T n F2 T2 n2 k))) = true := e
        rw [Bool.and_eq_true, Bool.and_eq_true] at e'
        by_cases ej : j = k
        · subst ej; exact e'.2.2
        · exact ih e'.1 j (by omega)
    rw [same_end h h2 (hd _ e)] at hs
    cases hs
  · have hall : ∀ j, j < n + n2 → sameAt F T n F2 T2 n2 (allF F T n F2 T2 n2 j) = true := fun j hj => by
      obtain ⟨p, q⟩ := (same_iff h h2).1 hs
      by_cases e : j < n
      · rw [allF_left e]; exact p j e
      · have e2 : allF F T n F2 T2 n2 j = F2 (j - n) := by
          have := allF_right (F := F) (T := T) (n := n) (F2 := F2) (T2 := T2) (n2 := n2) (j := j - n) (by omega)
          rw [show n + (j - n) = j by omega] at this
          exact this
        rw [e2]
        exact q (j - n) (by omega)
    have hk : ∀ k, k ≤ n + n2 → asked F T n F2 T2 n2 k = true := by
      intro k
      induction k with
      | zero => intro _; exact decide_eq_true (end_same h h2 hs)
      | succ k ih =>
        intro hk
        show (asked F T n F2 T2 n2 k && (decide ((res F T n (allF F T n F2 T2 n2 k)).isSome = (res F2 T2 n2 (allF F T n F2 T2 n2 k)).isSome) && sameAt F T n F2 T2 n2 (allF F T n F2 T2 n2 k))) = true
        have hc := allF_code (T := T) (T2 := T2) h h2 (j := k) (by omega)
        rw [ih (by omega), hall k (by omega), decide_eq_true (same_some h h2 hc (of_decide_eq_true (hall k (by omega))))]
        rfl
    exact hk _ (Nat.le_refl _)
end M
end Go.Proofs.Ytekkajgifgnklaa
