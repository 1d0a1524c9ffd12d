/-
  An order added: nothing that arrived is lost. No program is named here.
-/
import Derived.Test.YtekkajgifgnklaaRemM
import Derived.Test.YtekkajgifgnklaaEndless
namespace Go.Proofs.Ytekkajgifgnklaa.M
set_option linter.unusedVariables false

theorem endl_mem {F T : Nat → ByteArray} {n : Nat} {x : ByteArray} : ∀ {k : Nat}, x ∈ endl F T n k ↔ ∃ i, i < k ∧ F i = x ∧ (res F T n x).isSome = false
  | 0 => ⟨fun h => (by cases h), fun ⟨i, h, _⟩ => absurd h (by omega)⟩
  | k + 1 => by
    have ih := endl_mem (F := F) (T := T) (n := n) (x := x) (k := k)
    cases e : (res F T n (F k)).isSome
    · rw [endl_no e, List.mem_append, ih]
      constructor
      · rintro (⟨i, hi, h1, h2⟩ | h)
        · exact ⟨i, by omega, h1, h2⟩
        · have := List.mem_singleton.1 h
          subst this
          exact ⟨k, by omega, rfl, e⟩
      · rintro ⟨i, hi, h1, h2⟩
        by_cases e2 : i = k
        · subst e2
          exact Or.inr (List.mem_singleton.2 h1.symm)
        · exact Or.inl ⟨i, by omega, h1, h2⟩
    · rw [endl_yes e, ih]
      constructor
      · rintro ⟨i, hi, h1, h2⟩
        exact ⟨i, by omega, h1, h2⟩
      · rintro ⟨i, hi, h1, h2⟩
        by_cases e2 : i = k
        · subst e2
          rw [h1, h2] at e
          cases e
        · exact ⟨i, by omega, h1, h2⟩
theorem endless_mem {F T : Nat → ByteArray} {n : Nat} (h : fwd n F T = true) {x : ByteArray} : x ∈ endless F T n ↔ ∃ i, i < n ∧ F i = x ∧ (res F T n x).isSome = false := by
  rw [endless_yes h, (insAll_perm _).mem_iff, endl_mem]
theorem next_at {F T : Nat → ByteArray} {n i : Nat} (h : fwd n F T = true) (hi : i < n) : nextOf F T n (F i) = some (T i) := nextOf_some (rank_hit hi rfl fun j hj e => ((fwd_yes h).2 i hi).2.2 j hj e)
/-- What an added order leaves as it was. -/
theorem add_other (F T : Nat → ByteArray) (n : Nat) (x y : ByteArray) {c : ByteArray} (hc : c ≠ x) : nextOf (nF (wo x (flst F T n) ++ [(x, y)])) (nT (wo x (flst F T n) ++ [(x, y)])) (wo x (flst F T n) ++ [(x, y)]).length c = nextOf F T n c := by
  rw [add_next _ _ _ _ (by rw [nxL_wo, if_pos rfl]), if_neg hc, nextOf_row, nxL_wo, if_neg hc, nextOf_flst]
theorem add_self (F T : Nat → ByteArray) (n : Nat) (x y : ByteArray) : nextOf (nF (wo x (flst F T n) ++ [(x, y)])) (nT (wo x (flst F T n) ++ [(x, y)])) (wo x (flst F T n) ++ [(x, y)]).length x = some y := by
  rw [add_next _ _ _ _ (by rw [nxL_wo, if_pos rfl]), if_pos rfl]
theorem add_apart {F T : Nat → ByteArray} {n : Nat} {x y : ByteArray} (hn : nextOf F T n x = some y) (hs : (res F T n x).isSome = true) : x ≠ y := by
  intro e
  subst e
  obtain ⟨p, hp⟩ := Option.isSome_iff_exists.1 hs
  obtain ⟨d, t⟩ := p
  obtain ⟨_, h2, h3⟩ := res_some hp
  have h4 := ring_iter (nx := nextOf F T n) (l := 1) (x := x) hn t
  rw [Nat.mul_one, h2] at h4
  have := Option.some.inj h4
  subst this
  rw [hn] at h3
  cases h3
/-- What never arrives with the order never arrived. -/
theorem add_lost {F T F' T' : Nat → ByteArray} {n n' : Nat} {x c : ByteArray} (hfg : ∀ c, c ≠ x → nextOf F T n c = nextOf F' T' n' c) (hs : (res F' T' n' x).isSome = true) (hc : (res F' T' n' c).isSome = false) : (res F T n c).isSome = false := by
  have hc' : res F' T' n' c = none := by
    cases e : res F' T' n' c with
    | none => rfl
    | some p => rw [e] at hc; cases hc
  obtain ⟨m, _, _, hall⟩ := res_none hc'
  obtain ⟨p, hp⟩ := Option.isSome_iff_exists.1 hs
  obtain ⟨d, t⟩ := p
  obtain ⟨_, h2, h3⟩ := res_some hp
  have hno : ∀ s z, iter (nextOf F' T' n') s c = some z → z ≠ x := fun s z hz e => by
    subst e
    have := hall (s + (t + 1))
    rw [iter_add, hz] at this
    have h4 : iter (nextOf F' T' n') (t + 1) z = none := by
      show (iter (nextOf F' T' n') t z).bind (nextOf F' T' n') = none
      rw [h2]; exact h3
    rw [show ((some z).bind (iter (nextOf F' T' n') (t + 1))) = iter (nextOf F' T' n') (t + 1) z from rfl, h4] at this
    cases this
  cases e : res F T n c with
  | none => rfl
  | some q =>
    exfalso
    obtain ⟨z, s⟩ := q
    obtain ⟨_, h5, h6⟩ := res_some e
    have h7 : iter (nextOf F T n) (s + 1) c = none := by
      show (iter (nextOf F T n) s c).bind (nextOf F T n) = none
      rw [h5]; exact h6
    have hag := iter_agree (f := nextOf F' T' n') (g := nextOf F T n) (x := x) (y := c) hfg (s := s + 1) (fun u _ z hz => hno u z hz)
    have := hall (s + 1)
    rw [← hag, h7] at this
    cases this
theorem add_sub {F T : Nat → ByteArray} {n : Nat} {x y : ByteArray} (h : fwd n F T = true) (hB : fwd (wo x (flst F T n) ++ [(x, y)]).length (nF (wo x (flst F T n) ++ [(x, y)])) (nT (wo x (flst F T n) ++ [(x, y)])) = true)
    (hs : (res (nF (wo x (flst F T n) ++ [(x, y)])) (nT (wo x (flst F T n) ++ [(x, y)])) (wo x (flst F T n) ++ [(x, y)]).length x).isSome = true) {c : ByteArray}
    (hc : c ∈ endless (nF (wo x (flst F T n) ++ [(x, y)])) (nT (wo x (flst F T n) ++ [(x, y)])) (wo x (flst F T n) ++ [(x, y)]).length) : c ∈ endless F T n := by
  obtain ⟨i, hi, h1, h2⟩ := (endless_mem hB).1 hc
  have hcx : c ≠ x := fun e => by rw [e, hs] at h2; cases h2
  rw [nF_at hi] at h1
  rcases List.mem_append.1 (List.getElem_mem hi) with hp | hp
  · have h3 := (List.mem_filter.1 hp).1
    unfold flst at h3
    obtain ⟨j, hj, e⟩ := List.mem_map.1 h3
    refine (endless_mem h).2 ⟨j, List.mem_range.1 hj, ?_, add_lost (x := x) (fun c hc => (add_other F T n x y hc).symm) hs h2⟩
    rw [← h1]
    exact congrArg Prod.fst e
  · exfalso
    have := List.mem_singleton.1 hp
    rw [this] at h1
    exact hcx h1.symm
end Go.Proofs.Ytekkajgifgnklaa.M
namespace Go.Proofs.Ytekkajgifgnklaa.M
set_option linter.unusedVariables false

theorem end_from {F T : Nat → ByteArray} {n j : Nat} (h : fwd n F T = true) (hj : j < n) : has (F j) (endless F T n) = !(res F T n (F j)).isSome := by
  cases e : (res F T n (F j)).isSome
  · exact has_iff.2 ((endless_mem h).2 ⟨j, hj, rfl, e⟩)
  · exact has_no fun hm => by
      obtain ⟨i, _, _, h2⟩ := (endless_mem h).1 hm
      rw [e] at h2
      cases h2
theorem end_to {F T : Nat → ByteArray} {n j : Nat} (h : fwd n F T = true) (hj : j < n) : has (T j) (endless F T n) = !(res F T n (F j)).isSome := by
  have hn := next_at h hj
  cases e : res F T n (F j) with
  | none =>
    have h2 := res_lost hn e
    have h3 : (nextOf F T n (T j)).isSome = true := by
      cases e3 : nextOf F T n (T j) with
      | none => rw [res_here e3] at h2; cases h2
      | some d => rfl
    obtain ⟨d, hd⟩ := Option.isSome_iff_exists.1 h3
    obtain ⟨k, hk, hFk, _, _, _⟩ := nextOf_at hd
    exact has_iff.2 ((endless_mem h).2 ⟨k, hk, hFk, by rw [h2]; rfl⟩)
  | some p =>
    obtain ⟨d, t⟩ := p
    have h2 := (res_on hn e).2
    exact has_no fun hm => by
      obtain ⟨i, _, _, h3⟩ := (endless_mem h).1 hm
      rw [h2] at h3
      cases h3
theorem end_next {F T : Nat → ByteArray} {n : Nat} {c : ByteArray} (h : fwd n F T = true) (hc : c ∈ endless F T n) : ∃ d, nextOf F T n c = some d := by
  obtain ⟨i, hi, h1, _⟩ := (endless_mem h).1 hc
  exact ⟨T i, by rw [← h1]; exact next_at h hi⟩
theorem endl_nodup {F T : Nat → ByteArray} {n : Nat} (hd : ∀ k, k < n → ∀ j, j < k → F j ≠ F k) : ∀ {k : Nat}, k ≤ n → (endl F T n k).Nodup
  | 0, _ => List.Pairwise.nil
  | k + 1, hk => by
    have ih := endl_nodup (T := T) hd (k := k) (by omega)
    cases e : (res F T n (F k)).isSome
    · rw [endl_no e, List.nodup_append]
      refine ⟨ih, List.pairwise_singleton _ _, fun a ha b hb e2 => ?_⟩
      have := List.mem_singleton.1 hb
      subst this
      obtain ⟨i, hi, h1, _⟩ := endl_mem.1 ha
      exact hd k (by omega) i hi (h1.trans e2)
    · rw [endl_yes e]; exact ih
theorem endless_nodup {F T : Nat → ByteArray} {n : Nat} (h : fwd n F T = true) : (endless F T n).Nodup := by
  rw [endless_yes h]
  exact (insAll_perm _).nodup_iff.2 (endl_nodup (fun k hk j hj => ((fwd_yes h).2 k hk).2.2 j hj) (Nat.le_refl n))
/-- Each code comes behind the one before it. -/
theorem end_up {F T : Nat → ByteArray} {n j : Nat} (h : fwd n F T = true) (hj : j + 1 < (endless F T n).length) :
    Op.bytesLess (sC (endless F T n) (j + 1)).toList (sC (endless F T n) j).toList = false ∧ ((sC (endless F T n) (j + 1)).toList == (sC (endless F T n) j).toList) = false := by
  have hu : Up (endless F T n) := by rw [endless_yes h]; exact insAll_up _
  have hle := List.pairwise_iff_getElem.1 hu j (j + 1) (by omega) hj (by omega)
  have hne := List.pairwise_iff_getElem.1 (endless_nodup h) j (j + 1) (by omega) hj (by omega)
  rw [sC_at hj, sC_at (by omega)]
  exact ⟨(less_le _ _).2 hle, neq_list0 fun e => hne e.symm⟩
end Go.Proofs.Ytekkajgifgnklaa.M
