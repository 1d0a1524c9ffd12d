/-
  Orders that send letters to their end at once: what they are, and what they do. No program is named here.
-/
import Derived.Test.YtekkajgifgnklaaDirM
import Derived.Test.YtekkajgifgnklaaAddM
namespace Go.Proofs.Ytekkajgifgnklaa.M
set_option linter.unusedVariables false

theorem endOf_some {F T : Nat → ByteArray} {n : Nat} {c d : ByteArray} (h : endOf F T n c = some d) : ∃ t, res F T n c = some (d, t) := by
  unfold endOf at h
  cases e : res F T n c with
  | none => rw [e] at h; cases h
  | some p =>
    obtain ⟨d', t⟩ := p
    rw [e] at h
    have := Option.some.inj h
    subst this
    exact ⟨t, rfl⟩
theorem direct_mem {F T : Nat → ByteArray} {n : Nat} (h : fwd n F T = true) {p : ByteArray × ByteArray} : p ∈ direct F T n ↔ endOf F T n p.1 = some p.2 ∧ ∃ i, i < n ∧ F i = p.1 := by
  rw [direct_yes h]
  constructor
  · intro hp
    refine ⟨dirS_mem hp, ?_⟩
    unfold dirS at hp
    obtain ⟨c, hc, e⟩ := List.mem_filterMap.1 hp
    have hc2 := (insAll_perm _).mem_iff.1 hc
    unfold sst at hc2
    obtain ⟨i, hi, rfl⟩ := List.mem_map.1 hc2
    cases h2 : endOf F T n (F i) with
    | none => rw [h2] at e; cases e
    | some d =>
      rw [h2] at e
      have := Option.some.inj e
      subst this
      exact ⟨i, List.mem_range.1 hi, rfl⟩
  · rintro ⟨h1, i, hi, e⟩
    unfold dirS
    refine List.mem_filterMap.2 ⟨p.1, (insAll_perm _).mem_iff.2 (List.mem_map.2 ⟨i, List.mem_range.2 hi, e⟩), ?_⟩
    rw [h1]
    rfl
theorem sst_nodup {F T : Nat → ByteArray} {n : Nat} (h : fwd n F T = true) : (sst F n).Nodup := by
  refine List.pairwise_iff_getElem.2 fun i j hi hj hij => ?_
  have hjn : j < n := by rw [sst_length] at hj; exact hj
  simp only [sst, List.getElem_map, List.getElem_range]
  exact fun e => ((fwd_yes h).2 j hjn).2.2 i hij e
theorem direct_apart {F T : Nat → ByteArray} {n : Nat} (h : fwd n F T = true) : (direct F T n).Pairwise fun a b => a.1 ≠ b.1 := by
  rw [direct_yes h]
  unfold dirS
  rw [List.pairwise_filterMap]
  refine List.Pairwise.imp ?_ ((insAll_perm _).nodup_iff.2 (sst_nodup h))
  intro a b hab p hp q hq
  cases h1 : endOf F T n a with
  | none => rw [h1] at hp; cases hp
  | some x =>
    cases h2 : endOf F T n b with
    | none => rw [h2] at hq; cases hq
    | some y =>
      rw [h1] at hp
      rw [h2] at hq
      have e1 := Option.some.inj hp
      have e2 := Option.some.inj hq
      rw [← e1, ← e2]
      exact hab
theorem direct_fwd {F T : Nat → ByteArray} {n : Nat} (h : fwd n F T = true) : fwd (direct F T n).length (nF (direct F T n)) (nT (direct F T n)) = true :=
  fwd_of (Nat.le_trans (direct_le F T n) (fwd_yes h).1) fun i hi => by
    obtain ⟨h1, k, hk, e⟩ := (direct_mem h).1 (List.getElem_mem hi)
    obtain ⟨t, ht⟩ := endOf_some h1
    have hc : code (direct F T n)[i].1 = true := by rw [← e]; exact ((fwd_yes h).2 k hk).1
    rw [nF_at hi, nT_at hi]
    refine ⟨hc, iter_code' h hc (res_some ht).2.1, fun k hk => ?_⟩
    rw [nF_at (Nat.lt_trans hk hi)]
    exact List.pairwise_iff_getElem.1 (direct_apart h) k i (Nat.lt_trans hk hi) hi hk
theorem direct_next {F T : Nat → ByteArray} {n : Nat} (h : fwd n F T = true) {p : ByteArray × ByteArray} (hp : p ∈ direct F T n) : nextOf (nF (direct F T n)) (nT (direct F T n)) (direct F T n).length p.1 = some p.2 := by
  obtain ⟨i, hi, e⟩ := List.getElem_of_mem hp
  have h1 := next_at (direct_fwd h) hi
  rw [nF_at hi, nT_at hi, e] at h1
  exact h1
theorem direct_end {F T : Nat → ByteArray} {n : Nat} (h : fwd n F T = true) {p : ByteArray × ByteArray} (hp : p ∈ direct F T n) : nextOf (nF (direct F T n)) (nT (direct F T n)) (direct F T n).length p.2 = none := by
  cases e : nextOf (nF (direct F T n)) (nT (direct F T n)) (direct F T n).length p.2 with
  | none => rfl
  | some d =>
    obtain ⟨k, hk, e1, _⟩ := nextOf_at e
    rw [nF_at hk] at e1
    obtain ⟨_, i, hi, e2⟩ := (direct_mem h).1 (List.getElem_mem hk)
    have h3 := next_at h hi
    rw [e2, e1] at h3
    obtain ⟨t, ht⟩ := endOf_some ((direct_mem h).1 hp).1
    rw [(res_some ht).2.2] at h3
    cases h3
theorem direct_res {F T : Nat → ByteArray} {n : Nat} (h : fwd n F T = true) {p : ByteArray × ByteArray} (hp : p ∈ direct F T n) : res (nF (direct F T n)) (nT (direct F T n)) (direct F T n).length p.1 = some (p.2, 1) :=
  res_iter (s := 1) (direct_next h hp) (direct_end h hp) (List.length_pos_of_mem hp)
theorem direct_long {F T : Nat → ByteArray} {n : Nat} (h : fwd n F T = true) : ∀ k, k ≤ (direct F T n).length → longTo (nF (direct F T n)) (nT (direct F T n)) (direct F T n).length k ≤ 1
  | 0, _ => Nat.zero_le _
  | k + 1, hk => by
    have ih := direct_long h k (by omega)
    have hc : cntOf (res (nF (direct F T n)) (nT (direct F T n)) (direct F T n).length (nF (direct F T n) k)) = 1 := by
      rw [nF_at hk, direct_res h (List.getElem_mem hk)]
      rfl
    by_cases hlt : longTo (nF (direct F T n)) (nT (direct F T n)) (direct F T n).length k < 1
    · rw [long_up rfl hc hlt]
      exact Nat.le_refl 1
    · rw [long_on rfl hc hlt]
      exact ih
/-- No chain of direct orders is longer than one order. -/
theorem direct_longest {F T : Nat → ByteArray} {n : Nat} (h : fwd n F T = true) : longest (nF (direct F T n)) (nT (direct F T n)) (direct F T n).length ≤ 1 := by
  rw [longest_yes (direct_fwd h)]
  have := direct_long h _ (Nat.le_refl _)
  omega
theorem sst_nF (D : List (ByteArray × ByteArray)) : sst (nF D) D.length = D.map (·.1) := by
  refine List.ext_getElem (by rw [sst_length, List.length_map]) fun i h1 h2 => ?_
  simp only [sst, List.getElem_map, List.getElem_range]
  exact nF_at (by rw [sst_length] at h1; exact h1)
theorem filterMap_self {α : Type} (f : α → Option α) : ∀ L : List α, (∀ p, p ∈ L → f p = some p) → L.filterMap f = L
  | [], _ => rfl
  | p :: L, h => by
    rw [List.filterMap_cons_some (h p List.mem_cons_self), filterMap_self f L fun q hq => h q (List.mem_cons_of_mem _ hq)]
/-- Direct orders made direct are the same. -/
theorem direct_twice {F T : Nat → ByteArray} {n : Nat} (h : fwd n F T = true) : direct (nF (direct F T n)) (nT (direct F T n)) (direct F T n).length = direct F T n := by
  rw [direct_yes (direct_fwd h)]
  refine (direct_only ?_ ?_).symm
  · rw [sst_nF]
    unfold dirS
    rw [List.filterMap_map]
    rw [filterMap_self _ (direct F T n) fun p hp => ?_]
    show (endOf (nF (direct F T n)) (nT (direct F T n)) (direct F T n).length p.1).map (fun d => (p.1, d)) = some p
    rw [endOf_yes (direct_res h hp)]
    rfl
  · rw [direct_yes h]
    exact dirS_up (insAll_up _)
theorem direct_cnt {F T : Nat → ByteArray} {n : Nat} : ∀ k, (dirS F T n (sst F k)).length + (endl F T n k).length = k
  | 0 => rfl
  | k + 1 => by
    have ih := direct_cnt (F := F) (T := T) (n := n) k
    rw [sst_succ]
    cases e : res F T n (F k) with
    | none =>
      rw [dirS_no (endOf_no e), endl_no (by rw [e]; rfl), List.length_append, List.length_singleton]
      omega
    | some p =>
      obtain ⟨d, t⟩ := p
      rw [dirS_yes (endOf_yes e), endl_yes (by rw [e]; rfl), List.length_append, List.length_singleton]
      omega
/-- Each order leads to an end, or is endless. -/
theorem direct_all {F T : Nat → ByteArray} {n : Nat} (h : fwd n F T = true) : (direct F T n).length + (endless F T n).length = n := by
  rw [direct_yes h, endless_yes h, (direct_perm F T n).length_eq, insAll_len]
  exact direct_cnt n
/-- Each code comes behind the one before it. -/
theorem direct_up {F T : Nat → ByteArray} {n j : Nat} (h : fwd n F T = true) (hj : j + 1 < (direct F T n).length) :
    Op.bytesLess (nF (direct F T n) (j + 1)).toList (nF (direct F T n) j).toList = false ∧ ((nF (direct F T n) (j + 1)).toList == (nF (direct F T n) j).toList) = false := by
  have hu : Up2 (direct F T n) := by rw [direct_yes h]; exact dirS_up (insAll_up _)
  have hle := List.pairwise_iff_getElem.1 hu j (j + 1) (by omega) hj (by omega)
  have hne := List.pairwise_iff_getElem.1 (direct_apart h) j (j + 1) (by omega) hj (by omega)
  rw [nF_at hj, nF_at (by omega)]
  exact ⟨(less_le _ _).2 hle, neq_list0 fun e => hne e.symm⟩
theorem allF_two {F T F2 T2 : Nat → ByteArray} {n n2 i : Nat} (hi : i < n2) : allF F T n F2 T2 n2 (n + i) = F2 i := by
  unfold allF
  have hl : n + i < (flst F T n ++ flst F2 T2 n2).length := by rw [List.length_append, flst_length, flst_length]; omega
  rw [nF_at hl, List.getElem_append_right (by rw [flst_length]; omega)]
  simp [flst]
theorem allF_mem {F T F2 T2 : Nat → ByteArray} {n n2 j : Nat} (hj : j < n + n2) : (∃ i, i < n ∧ allF F T n F2 T2 n2 j = F i) ∨ ∃ i, i < n2 ∧ allF F T n F2 T2 n2 j = F2 i := by
  by_cases h : j < n
  · refine Or.inl ⟨j, h, ?_⟩
    unfold allF
    have hl : j < (flst F T n ++ flst F2 T2 n2).length := by rw [List.length_append, flst_length, flst_length]; exact hj
    rw [nF_at hl, List.getElem_append_left (by rw [flst_length]; exact h)]
    simp [flst]
  · obtain ⟨i, rfl⟩ : ∃ i, j = n + i := ⟨j - n, by omega⟩
    exact Or.inr ⟨i, by omega, allF_two (by omega)⟩
/-- Direct orders have the same ends exactly if no code is endless. -/
theorem direct_same {F T : Nat → ByteArray} {n : Nat} (h : fwd n F T = true) : same (nF (direct F T n)) (nT (direct F T n)) (direct F T n).length F T n = decide ((endless F T n).length = 0) := by
  by_cases hE : (endless F T n).length = 0
  · rw [decide_eq_true hE]
    refine same_end (direct_fwd h) h fun j hj => ?_
    have hp : ∃ p, p ∈ direct F T n ∧ p.1 = allF (nF (direct F T n)) (nT (direct F T n)) (direct F T n).length F T n j := by
      rcases allF_mem hj with ⟨i, hi, e⟩ | ⟨i, hi, e⟩
      · exact ⟨_, List.getElem_mem hi, by rw [e, nF_at hi]⟩
      · cases hr : res F T n (F i) with
        | none =>
          have hm : F i ∈ endless F T n := (endless_mem h).2 ⟨i, hi, rfl, by rw [hr]; rfl⟩
          rw [List.length_eq_zero_iff.1 hE] at hm
          cases hm
        | some q =>
          obtain ⟨d, t⟩ := q
          exact ⟨(F i, d), (direct_mem h).2 ⟨endOf_yes hr, i, hi, rfl⟩, e.symm⟩
    obtain ⟨p, hp, e⟩ := hp
    rw [← e]
    obtain ⟨t, ht⟩ := endOf_some ((direct_mem h).1 hp).1
    unfold sameAt
    rw [direct_res h hp, ht]
    exact decide_eq_true rfl
  · rw [decide_eq_false hE]
    obtain ⟨c, hc⟩ := List.exists_mem_of_length_pos (Nat.pos_of_ne_zero hE)
    obtain ⟨i, hi, e, hr⟩ := (endless_mem h).1 hc
    have hr' : res F T n c = none := by
      cases e2 : res F T n c with
      | none => rfl
      | some q => rw [e2] at hr; cases hr
    refine same_out (j := (direct F T n).length + i) (by omega) ?_
    rw [allF_two hi, e]
    have hx : nextOf (nF (direct F T n)) (nT (direct F T n)) (direct F T n).length c = none := by
      cases e3 : nextOf (nF (direct F T n)) (nT (direct F T n)) (direct F T n).length c with
      | none => rfl
      | some d =>
        obtain ⟨k, hk, e4, _⟩ := nextOf_at e3
        rw [nF_at hk] at e4
        obtain ⟨t, ht⟩ := endOf_some ((direct_mem h).1 (List.getElem_mem hk)).1
        rw [e4, hr'] at ht
        cases ht
    unfold sameAt
    rw [res_here hx, hr']
    refine decide_eq_false fun e5 => ?_
    have hcc : code c = true := by rw [← e]; exact ((fwd_yes h).2 i hi).1
    exact code_ne hcc e5
end Go.Proofs.Ytekkajgifgnklaa.M
