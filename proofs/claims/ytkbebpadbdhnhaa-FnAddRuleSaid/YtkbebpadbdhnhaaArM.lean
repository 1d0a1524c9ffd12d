/-
  Added rules: what they change. No program is named here.
-/
import Derived.Test.YtkbebpadbdhnhaaAddRM
import Derived.Test.YtkbebpadbdhnhaaLkM
namespace Go.Proofs.Ytkbebpadbdhnhaa
open Go.RowKit
set_option linter.unusedVariables false

section
variable {F T : Nat → ByteArray} {n : Nat} {p y : ByteArray}
theorem raw_new (hr : M.rankTo F p n = -1) : (M.addRaw F T n p y).length = n + 1 ∧ (∀ i, i < n → nF (M.addRaw F T n p y) i = F i ∧ nT (M.addRaw F T n p y) i = T i) ∧ nF (M.addRaw F T n p y) n = p ∧ nT (M.addRaw F T n p y) n = y := by
  rw [M.addRaw_new hr]
  have hl : (M.flst F T n).length = n := flst_len F T n
  have hlen : (M.flst F T n ++ [(p, y)]).length = n + 1 := by rw [List.length_append, hl]; rfl
  refine ⟨hlen, fun i hi => ?_, ?_, ?_⟩
  · have h1 : i < (M.flst F T n ++ [(p, y)]).length := by omega
    rw [nF_at h1, nT_at h1, List.getElem_append_left (by omega), flst_get]
    exact ⟨rfl, rfl⟩
  · have h1 : n < (M.flst F T n ++ [(p, y)]).length := by omega
    rw [nF_at h1, List.getElem_append_right (by omega)]
    simp [hl]
  · have h1 : n < (M.flst F T n ++ [(p, y)]).length := by omega
    rw [nT_at h1, List.getElem_append_right (by omega)]
    simp [hl]
theorem raw_old {k : Nat} (hk : k < n) (hr : M.rankTo F p n = (k : Int)) : (M.addRaw F T n p y).length = n ∧ (∀ i, i < n → i ≠ k → nF (M.addRaw F T n p y) i = F i ∧ nT (M.addRaw F T n p y) i = T i) ∧ nF (M.addRaw F T n p y) k = p ∧ nT (M.addRaw F T n p y) k = y := by
  rw [M.addRaw_old hr]
  have hl : (M.flst F T n).length = n := flst_len F T n
  have hlen : ((M.flst F T n).set k (p, y)).length = n := by rw [List.length_set, hl]
  refine ⟨hlen, fun i hi hne => ?_, ?_, ?_⟩
  · have h1 : i < ((M.flst F T n).set k (p, y)).length := by omega
    rw [nF_at h1, nT_at h1, List.getElem_set_ne (by omega), flst_get]
    exact ⟨rfl, rfl⟩
  · have h1 : k < ((M.flst F T n).set k (p, y)).length := by omega
    rw [nF_at h1, List.getElem_set_self]
  · have h1 : k < ((M.flst F T n).set k (p, y)).length := by omega
    rw [nT_at h1, List.getElem_set_self]
/-- Where the added rule stands: all before it have other prefixes; what stands elsewhere was there before. -/
theorem raw_at (F T : Nat → ByteArray) (n : Nat) (p y : ByteArray) : ∃ k, k < (M.addRaw F T n p y).length ∧ nF (M.addRaw F T n p y) k = p ∧ nT (M.addRaw F T n p y) k = y ∧ (∀ i, i < k → nF (M.addRaw F T n p y) i ≠ p) ∧
    (∀ i, i < n → F i ≠ p → i < (M.addRaw F T n p y).length ∧ nF (M.addRaw F T n p y) i = F i ∧ nT (M.addRaw F T n p y) i = T i) ∧
    (∀ i, i < (M.addRaw F T n p y).length → nF (M.addRaw F T n p y) i = p ∨ ∃ j, j < n ∧ nF (M.addRaw F T n p y) i = F j) ∧
    ((M.addRaw F T n p y).length = n ∨ (M.addRaw F T n p y).length = n + 1) := by
  rcases M.rankC F p n with ⟨hr, hno⟩ | ⟨k, hk, hkp, hno, hr⟩
  · obtain ⟨h1, h2, h3, h4⟩ := raw_new (T := T) (y := y) hr
    refine ⟨n, by omega, h3, h4, fun i hi => by rw [(h2 i hi).1]; exact hno i hi, fun i hi _ => ⟨by omega, h2 i hi⟩, fun i hi => ?_, Or.inr h1⟩
    by_cases e : i = n
    · subst e; exact Or.inl h3
    · exact Or.inr ⟨i, by omega, (h2 i (by omega)).1⟩
  · obtain ⟨h1, h2, h3, h4⟩ := raw_old (T := T) (y := y) hk hr
    refine ⟨k, by omega, h3, h4, fun i hi => by rw [(h2 i (by omega) (by omega)).1]; exact hno i hi, fun i hi hne => ⟨by omega, h2 i hi (fun e => hne (by rw [e]; exact hkp))⟩, fun i hi => ?_, Or.inl h1⟩
    by_cases e : i = k
    · subst e; exact Or.inl h3
    · exact Or.inr ⟨i, by omega, (h2 i (by omega) e).1⟩
/-- The longest beginning of a code that is a prefix, or none. -/
theorem longest (F : Nat → ByteArray) (n : Nat) (c : ByteArray) : ∀ m, (∃ j i, j ≤ m ∧ i < n ∧ F i = c.extract 0 j ∧ ∀ j', j < j' → j' ≤ m → ∀ k, k < n → F k ≠ c.extract 0 j') ∨ ∀ j, j ≤ m → ∀ k, k < n → F k ≠ c.extract 0 j
  | 0 => by
    by_cases h : ∃ i, i < n ∧ F i = c.extract 0 0
    · obtain ⟨i, hi, e⟩ := h
      exact Or.inl ⟨0, i, Nat.le_refl 0, hi, e, fun j' h1 h2 => by omega⟩
    · exact Or.inr fun j hj k hk e => h ⟨k, hk, by rw [show j = 0 by omega] at e; exact e⟩
  | m + 1 => by
    by_cases h : ∃ i, i < n ∧ F i = c.extract 0 (m + 1)
    · obtain ⟨i, hi, e⟩ := h
      exact Or.inl ⟨m + 1, i, Nat.le_refl _, hi, e, fun j' h1 h2 => by omega⟩
    · have hno : ∀ k, k < n → F k ≠ c.extract 0 (m + 1) := fun k hk e => h ⟨k, hk, e⟩
      rcases longest F n c m with ⟨j, i, hj, hi, e, hm⟩ | hm
      · refine Or.inl ⟨j, i, by omega, hi, e, fun j' h1 h2 k hk => ?_⟩
        by_cases e2 : j' = m + 1
        · rw [e2]; exact hno k hk
        · exact hm j' h1 (by omega) k hk
      · refine Or.inr fun j hj k hk => ?_
        by_cases e2 : j = m + 1
        · rw [e2]; exact hno k hk
        · exact hm j (by omega) k hk
theorem set_self {L : List (ByteArray × ByteArray)} {k : Nat} (hk : k < L.length) : L.set k (nF L k, nT L k) = L := by
  rw [nF_at hk, nT_at hk]
  exact List.set_getElem_self hk
/-- What the law asks of an added rule. -/
theorem ar_law (h : M.addROk F T n p y = true) (hp : p.size ≤ 30) : ∃ A, M.addRL F T n p y = A ∧ M.rul n F T = true ∧ M.rul A.length (nF A) (nT A) = true ∧ (A.length = n ∨ A.length = n + 1) ∧
    (∀ c, M.begins c p = false → (M.lookUp (nF A) (nT A) A.length c).getD ⟨#[]⟩ = (M.lookUp F T n c).getD ⟨#[]⟩) ∧
    M.addROk (nF A) (nT A) A.length p y = true ∧ M.addRL (nF A) (nT A) A.length p y = A := by
  have h0 := h
  unfold M.addROk at h0
  rw [Bool.and_eq_true] at h0
  obtain ⟨hr, hr2⟩ := h0
  obtain ⟨k, hk, e1, e2, hno, hold, hall, hlen⟩ := raw_at F T n p y
  refine ⟨M.addRaw F T n p y, (M.addR_yes hr hr2).2, hr, hr2, hlen, fun c hb => ?_, ?_⟩
  · congr 1
    cases hc : M.code c
    · rw [M.lookUp_bad hc, M.lookUp_bad hc]
    · have hcs := (M.code_yes hc).2
      have hpn : ∀ j, j ≤ c.size → p ≠ c.extract 0 j := fun j hj e => by
        have hs : p.size = j := by rw [e]; simp; omega
        rw [M.begins_long (by omega), hs, decide_eq_false_iff_not] at hb
        exact hb e.symm
      have hmiss : ∀ j, j ≤ c.size → (∀ k, k < n → F k ≠ c.extract 0 j) → ∀ k, k < (M.addRaw F T n p y).length → nF (M.addRaw F T n p y) k ≠ c.extract 0 j := fun j hj hm k hk e => by
        rcases hall k hk with e3 | ⟨i, hi, e3⟩
        · exact hpn j hj (e3.symm.trans e)
        · exact hm i hi (e3.symm.trans e)
      rcases longest F n c c.size with ⟨j, i, hj, hi, e, hm⟩ | hm
      · obtain ⟨q1, q2, q3⟩ := hold i hi (fun e3 => hpn j hj (e3.symm.trans e))
        rw [M.look_hits hr hc hj hi e hm, M.look_hits hr2 hc hj q1 (q2.trans e) fun j' h1 h2 => hmiss j' h2 (hm j' h1 h2), q3]
      · rw [M.look_misses hr hc hm, M.look_misses hr2 hc fun j hj => hmiss j hj (hm j hj)]
  · have hrk : M.rankTo (nF (M.addRaw F T n p y)) p (M.addRaw F T n p y).length = (k : Int) := M.rank_hit hk e1 hno
    have hag : M.addRaw (nF (M.addRaw F T n p y)) (nT (M.addRaw F T n p y)) (M.addRaw F T n p y).length p y = M.addRaw F T n p y := by
      rw [M.addRaw_old hrk, flst_nI]
      have := set_self hk
      rw [e1, e2] at this
      exact this
    exact M.addR_yes hr2 (by rw [hag]; exact hr2) |>.imp id fun q => q.trans hag
end
end Go.Proofs.Ytkbebpadbdhnhaa
