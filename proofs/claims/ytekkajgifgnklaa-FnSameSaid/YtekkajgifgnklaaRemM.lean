/-
  An order removed and added again: letters go where they went. No program is named here.
-/
import Derived.Test.YtekkajgifgnklaaWayM
import Derived.Test.YtekkajgifgnklaaAdd2
namespace Go.Proofs.Ytekkajgifgnklaa.M
set_option linter.unusedVariables false

/-- Where a list of orders sends letters. -/
def nxL (L : List (ByteArray × ByteArray)) (c : ByteArray) : Option ByteArray := (L.find? fun p => decide (p.1 = c)).map (·.2)
theorem nxL_append (A B : List (ByteArray × ByteArray)) (c : ByteArray) : nxL (A ++ B) c = (nxL A c).or (nxL B c) := by
  unfold nxL
  rw [List.find?_append]
  cases List.find? (fun p => decide (p.1 = c)) A <;> rfl
theorem nxL_one (x y c : ByteArray) : nxL [(x, y)] c = if c = x then some y else none := by
  unfold nxL
  by_cases h : c = x
  · rw [if_pos h]
    simp [h]
  · rw [if_neg h]
    have : ¬ x = c := fun e => h e.symm
    simp [this]
theorem nxL_wo (x : ByteArray) (c : ByteArray) : ∀ L : List (ByteArray × ByteArray), nxL (wo x L) c = if c = x then none else nxL L c
  | [] => by
    show nxL [] c = _
    unfold nxL
    split <;> rfl
  | p :: L => by
    have ih := nxL_wo x c L
    unfold wo nxL at *
    by_cases h : p.1 = x
    · by_cases e : c = x
      · rw [if_pos e] at ih ⊢
        simpa [h] using ih
      · rw [if_neg e] at ih ⊢
        have : ¬ x = c := fun e2 => e e2.symm
        simpa [h, this] using ih
    · by_cases e : c = x
      · rw [if_pos e] at ih ⊢
        have : ¬ p.1 = c := fun e2 => h (e2.trans e)
        simpa [h, this] using ih
      · rw [if_neg e] at ih ⊢
        by_cases e2 : p.1 = c
        · simp [e2, e]
        · simpa [h, e2] using ih
theorem nextOf_flst (F T : Nat → ByteArray) (c : ByteArray) : ∀ n, nextOf F T n c = nxL (flst F T n) c
  | 0 => by rw [nextOf_zero]; rfl
  | n + 1 => by
    rw [flst_succ, nxL_append, nxL_one, ← nextOf_flst F T c n]
    rcases rank_cases F c n with ⟨hr, hno⟩ | ⟨k, hk, hFk, hno, hr⟩
    · rw [nextOf_none (F := F) (T := T) (n := n) (by omega)]
      by_cases e : c = F n
      · rw [if_pos e, nextOf_some (rank_hit (Nat.lt_succ_self n) e.symm hno)]; rfl
      · rw [if_neg e, nextOf_none]
        · rfl
        · rw [rank_miss fun j hj => ?_]
          · omega
          · by_cases e2 : j = n
            · subst e2; exact fun e3 => e e3.symm
            · exact hno j (by omega)
    · rw [nextOf_some hr, nextOf_some (rank_hit (by omega) hFk hno)]; rfl
theorem nextOf_row (L : List (ByteArray × ByteArray)) (c : ByteArray) : nextOf (nF L) (nT L) L.length c = nxL L c := by
  rw [nextOf_flst, flst_nI]
/-- Orders are valid. -/
def Good (L : List (ByteArray × ByteArray)) : Prop := L.length ≤ 30 ∧ (∀ p ∈ L, code p.1 = true ∧ code p.2 = true) ∧ L.Pairwise fun p q => p.1 ≠ q.1
theorem fwd_of {F T : Nat → ByteArray} {n : Nat} (h : n ≤ 30) (h2 : ∀ i, i < n → code (F i) = true ∧ code (T i) = true ∧ ∀ k, k < i → F k ≠ F i) : fwd n F T = true := by
  rw [fwd_end ((fwdTo_iff F T n).2 h2), decide_eq_true h]
theorem good_fwd {L : List (ByteArray × ByteArray)} (h : Good L) : fwd L.length (nF L) (nT L) = true := by
  obtain ⟨h1, h2, h3⟩ := h
  refine fwd_of h1 fun i hi => ?_
  rw [nF_at hi, nT_at hi]
  refine ⟨(h2 _ (List.getElem_mem hi)).1, (h2 _ (List.getElem_mem hi)).2, fun k hk => ?_⟩
  rw [nF_at (by omega)]
  exact List.pairwise_iff_getElem.1 h3 k i (by omega) hi hk
theorem fwd_good {F T : Nat → ByteArray} {n : Nat} (h : fwd n F T = true) : Good (flst F T n) := by
  obtain ⟨h1, h2⟩ := fwd_yes h
  refine ⟨by rw [flst_length]; exact h1, fun p hp => ?_, ?_⟩
  · unfold flst at hp
    obtain ⟨i, hi, rfl⟩ := List.mem_map.1 hp
    exact ⟨(h2 i (List.mem_range.1 hi)).1, (h2 i (List.mem_range.1 hi)).2.1⟩
  · rw [List.pairwise_iff_getElem]
    intro i j hi hj hij
    rw [flst_length] at hi hj
    have e1 : (flst F T n)[i]'(by rw [flst_length]; exact hi) = (F i, T i) := by simp [flst]
    have e2 : (flst F T n)[j]'(by rw [flst_length]; exact hj) = (F j, T j) := by simp [flst]
    rw [e1, e2]
    exact (h2 j hj).2.2 i hij
theorem good_wo {L : List (ByteArray × ByteArray)} (h : Good L) (x : ByteArray) : Good (wo x L) :=
  ⟨Nat.le_trans (wo_le x L) h.1, fun p hp => h.2.1 p (List.mem_filter.1 hp).1, h.2.2.filter _⟩
theorem good_more {L : List (ByteArray × ByteArray)} {x y : ByteArray} (h : Good L) (hl : L.length + 1 ≤ 30) (hx : code x = true) (hy : code y = true) (hno : ∀ p ∈ L, p.1 ≠ x) : Good (L ++ [(x, y)]) := by
  refine ⟨by rw [List.length_append]; exact hl, fun p hp => ?_, ?_⟩
  · rcases List.mem_append.1 hp with hp | hp
    · exact h.2.1 p hp
    · have := List.mem_singleton.1 hp
      subst this
      exact ⟨hx, hy⟩
  · rw [List.pairwise_append]
    refine ⟨h.2.2, List.pairwise_singleton _ _, fun p hp q hq => ?_⟩
    have := List.mem_singleton.1 hq
    subst this
    exact hno p hp
theorem wo_no {x : ByteArray} {L : List (ByteArray × ByteArray)} : ∀ p ∈ wo x L, p.1 ≠ x := fun p hp e => by
  have := (List.mem_filter.1 hp).2
  rw [decide_eq_true e] at this
  cases this
theorem wo_same {x : ByteArray} {L : List (ByteArray × ByteArray)} (h : ∀ p ∈ L, p.1 ≠ x) : wo x L = L := wo_all fun j hj => h _ (List.getElem_mem hj)
theorem woAt_len {F T : Nat → ByteArray} {k : Nat} : ∀ {n : Nat}, (woAt F T (k : Int) n).length = if k < n then n - 1 else n
  | 0 => by rw [if_neg (by omega)]; rfl
  | n + 1 => by
    have ih := woAt_len (F := F) (T := T) (k := k) (n := n)
    unfold woAt
    by_cases e : (n : Int) = (k : Int)
    · rw [if_pos e, ih, if_neg (by omega), if_pos (by omega)]; rfl
    · rw [if_neg e, List.length_append, ih]
      show (if k < n then n - 1 else n) + 1 = _
      split <;> split <;> omega
/-- One order less. -/
theorem rem_len {F T : Nat → ByteArray} {n k : Nat} {x : ByteArray} (h : fwd n F T = true) (hr : rankTo F x n = (k : Int)) (hk : k < n) : (wo x (flst F T n)).length + 1 = n := by
  rw [← woAt_rank h x, hr, woAt_len, if_pos hk]; omega
theorem rem_rank {F T : Nat → ByteArray} {n : Nat} {x y : ByteArray} (hn : nextOf F T n x = some y) : ∃ k : Nat, k < n ∧ rankTo F x n = (k : Int) := by
  obtain ⟨k, hk, _, _, _, hr⟩ := nextOf_at hn
  exact ⟨k, hk, hr⟩
theorem rem_good {F T : Nat → ByteArray} {n : Nat} (h : fwd n F T = true) (x : ByteArray) : fwd (wo x (flst F T n)).length (nF (wo x (flst F T n))) (nT (wo x (flst F T n))) = true := good_fwd (good_wo (fwd_good h) x)
theorem rem_next (F T : Nat → ByteArray) (n : Nat) (x : ByteArray) : nextOf (nF (wo x (flst F T n))) (nT (wo x (flst F T n))) (wo x (flst F T n)).length x = none := by
  rw [nextOf_row, nxL_wo, if_pos rfl]
theorem back_row {R : List (ByteArray × ByteArray)} {x : ByteArray} (h : ∀ p ∈ R, p.1 ≠ x) (y : ByteArray) : addRow (nF R) (nT R) R.length x y = R ++ [(x, y)] := by
  unfold addRow
  rw [flst_nI, wo_same h]
theorem back_next {F T : Nat → ByteArray} {n : Nat} {x y : ByteArray} (hn : nextOf F T n x = some y) (c : ByteArray) : nextOf (nF (wo x (flst F T n) ++ [(x, y)])) (nT (wo x (flst F T n) ++ [(x, y)])) (wo x (flst F T n) ++ [(x, y)]).length c = nextOf F T n c := by
  rw [nextOf_row, nxL_append, nxL_wo, nxL_one, ← nextOf_flst]
  by_cases e : c = x
  · rw [if_pos e, if_pos e, e, hn]; rfl
  · rw [if_neg e, if_neg e]
    cases nextOf F T n c <;> rfl
theorem back_res {F T : Nat → ByteArray} {n : Nat} {x y : ByteArray} (h : fwd n F T = true) (hn : nextOf F T n x = some y) (c : ByteArray) : res (nF (wo x (flst F T n) ++ [(x, y)])) (nT (wo x (flst F T n) ++ [(x, y)])) (wo x (flst F T n) ++ [(x, y)]).length c = res F T n c := by
  obtain ⟨k, hk, hr⟩ := rem_rank hn
  have hl : (wo x (flst F T n) ++ [(x, y)]).length = n := by
    rw [List.length_append]
    exact rem_len h hr hk
  have hf := funext (back_next hn)
  unfold res
  rw [hf, hl]
theorem back_good {F T : Nat → ByteArray} {n : Nat} {x y : ByteArray} (h : fwd n F T = true) (hn : nextOf F T n x = some y) : fwd (wo x (flst F T n) ++ [(x, y)]).length (nF (wo x (flst F T n) ++ [(x, y)])) (nT (wo x (flst F T n) ++ [(x, y)])) = true := by
  obtain ⟨k, hk, hr⟩ := rem_rank hn
  have hl := rem_len h hr hk
  obtain ⟨hx, hy⟩ := next_code h hn
  exact good_fwd (good_more (good_wo (fwd_good h) x) (by have := (fwd_yes h).1; omega) hx hy wo_no)
theorem back_same {F T : Nat → ByteArray} {n : Nat} {x y : ByteArray} (h : fwd n F T = true) (hn : nextOf F T n x = some y) : same (nF (wo x (flst F T n) ++ [(x, y)])) (nT (wo x (flst F T n) ++ [(x, y)])) (wo x (flst F T n) ++ [(x, y)]).length F T n = true :=
  same_end (back_good h hn) h fun j _ => by
    unfold sameAt
    rw [back_res h hn]
    exact decide_eq_true rfl
end Go.Proofs.Ytekkajgifgnklaa.M
namespace Go.Proofs.Ytekkajgifgnklaa
theorem fits_wo {F T : Nat → ByteArray} {n : Nat} (h : FFits n F T) (x : ByteArray) : FFits (M.wo x (M.flst F T n)).length (nF (M.wo x (M.flst F T n))) (nT (M.wo x (M.flst F T n))) := FFits.row fun p hp => by
  have h2 := (List.mem_filter.1 hp).1
  unfold M.flst at h2
  obtain ⟨i, hi, rfl⟩ := List.mem_map.1 h2
  exact h i (List.mem_range.1 hi)
end Go.Proofs.Ytekkajgifgnklaa
namespace Go.Proofs.Ytekkajgifgnklaa.M
set_option linter.unusedVariables false

theorem iter_agree {f g : ByteArray → Option ByteArray} {x y : ByteArray} (hfg : ∀ c, c ≠ x → g c = f c) : ∀ {s : Nat}, (∀ u, u < s → ∀ z, iter f u y = some z → z ≠ x) → iter g s y = iter f s y
  | 0, _ => rfl
  | s + 1, h => by
    have ih := iter_agree hfg (s := s) (fun u hu => h u (by omega))
    show (iter g s y).bind g = (iter f s y).bind f
    rw [ih]
    cases e : iter f s y with
    | none => rfl
    | some z => exact hfg z (h s (by omega) z e)
/-- Letters arrive, elsewhere than at x. -/
def arr (x : ByteArray) : Option (ByteArray × Nat) → Bool
  | none => false
  | some p => !decide (p.1 = x)
/-- Where x leads to y, and leads nowhere in f. -/
theorem res_more {F T F' T' : Nat → ByteArray} {n n' : Nat} {x y : ByteArray} (hx : nextOf F T n x = none) (hx' : nextOf F' T' n' x = some y) (hfg : ∀ c, c ≠ x → nextOf F' T' n' c = nextOf F T n c) (hn : n ≤ n') : (res F' T' n' x).isSome = arr x (res F T n y) := by
  have h1 : (res F' T' n' x).isSome = (res F' T' n' y).isSome := by
    cases e : res F' T' n' x with
    | none => rw [res_lost hx' e]
    | some p =>
      obtain ⟨d, t⟩ := p
      rw [(res_on hx' e).2]; rfl
  rw [h1]
  cases e : res F T n y with
  | none =>
    obtain ⟨m, _, _, hall⟩ := res_none e
    have hag : ∀ s, iter (nextOf F' T' n') s y = iter (nextOf F T n) s y := fun s => iter_agree hfg fun u _ z hz ez => by
      have := hall (u + 1)
      have h2 : iter (nextOf F T n) (u + 1) y = none := by
        show (iter (nextOf F T n) u y).bind (nextOf F T n) = none
        rw [hz, ez]; exact hx
      rw [h2] at this
      cases this
    cases e2 : res F' T' n' y with
    | none => rfl
    | some p =>
      obtain ⟨d, t⟩ := p
      obtain ⟨_, h3, h4⟩ := res_some e2
      have h5 : iter (nextOf F' T' n') (t + 1) y = none := by
        show (iter (nextOf F' T' n') t y).bind (nextOf F' T' n') = none
        rw [h3]; exact h4
      have := hall (t + 1)
      rw [← hag, h5] at this
      cases this
  | some p =>
    obtain ⟨d, t⟩ := p
    obtain ⟨ht, h3, h4⟩ := res_some e
    have hag : iter (nextOf F' T' n') t y = iter (nextOf F T n) t y := iter_agree hfg fun u hu z hz ez => by
      have h5 := iter_le (nx := nextOf F T n) (s := u + 1) (t := t) (c := y) (by omega) (by rw [h3]; rfl)
      have h2 : iter (nextOf F T n) (u + 1) y = none := by
        show (iter (nextOf F T n) u y).bind (nextOf F T n) = none
        rw [hz, ez]; exact hx
      rw [h2] at h5
      cases h5
    show _ = !decide (d = x)
    by_cases hd : d = x
    · rw [decide_eq_true hd]
      have hring : iter (nextOf F' T' n') (t + 1) y = some y := by
        show (iter (nextOf F' T' n') t y).bind (nextOf F' T' n') = some y
        rw [hag, h3, hd]; exact hx'
      cases e2 : res F' T' n' y with
      | none => rfl
      | some q =>
        obtain ⟨z, s⟩ := q
        obtain ⟨_, h5, h6⟩ := res_some e2
        have h7 : iter (nextOf F' T' n') (s + 1) y = none := by
          show (iter (nextOf F' T' n') s y).bind (nextOf F' T' n') = none
          rw [h5]; exact h6
        have h8 := ring_iter hring (s + 1)
        have h9 := iter_le (nx := nextOf F' T' n') (s := s + 1) (t := (s + 1) * (t + 1)) (c := y) (Nat.le_mul_of_pos_right _ (by omega)) (by rw [h8]; rfl)
        rw [h7] at h9
        cases h9
    · rw [decide_eq_false hd, res_iter (F := F') (T := T') (n := n') (s := t) (hag.trans h3) ((hfg d hd).trans h4) (by omega)]; rfl
theorem wo_back {F T : Nat → ByteArray} {n : Nat} {x y : ByteArray} : addRow F T n x y = wo x (flst F T n) ++ [(x, y)] := rfl
theorem add_next (R : List (ByteArray × ByteArray)) (x y c : ByteArray) (h : nxL R x = none) : nextOf (nF (R ++ [(x, y)])) (nT (R ++ [(x, y)])) (R ++ [(x, y)]).length c = if c = x then some y else nextOf (nF R) (nT R) R.length c := by
  rw [nextOf_row, nextOf_row, nxL_append, nxL_one]
  by_cases e : c = x
  · rw [if_pos e, if_pos e, e, h]; rfl
  · rw [if_neg e, if_neg e]
    cases nxL R c <;> rfl
/-- Whether an order is added. -/
theorem add_when {F T : Nat → ByteArray} {n : Nat} {x y : ByteArray} (h : fwd n F T = true) (hx : code x = true) (hy : code y = true) : addOk F T n x y = (arr x (res (nF (wo x (flst F T n))) (nT (wo x (flst F T n))) (wo x (flst F T n)).length y) && decide ((wo x (flst F T n)).length + 1 ≤ 30)) := by
  unfold addOk
  rw [h, Bool.true_and, wo_back]
  have hR : nxL (wo x (flst F T n)) x = none := by rw [nxL_wo, if_pos rfl]
  obtain ⟨R, hRR⟩ : ∃ R, wo x (flst F T n) = R := ⟨_, rfl⟩
  have hg := good_wo (fwd_good h) x
  have hno : ∀ p ∈ wo x (flst F T n), p.1 ≠ x := wo_no
  rw [hRR] at hR hg hno ⊢
  by_cases hl : R.length + 1 ≤ 30
  · rw [decide_eq_true hl, Bool.and_true, resCode_yes (good_fwd (good_more hg hl hx hy hno)) hx]
    exact res_more (by rw [nextOf_row]; exact hR) (by rw [add_next R x y x hR, if_pos rfl]) (fun c hc => by rw [add_next R x y c hR, if_neg hc]) (by rw [List.length_append]; omega)
  · rw [decide_eq_false hl, Bool.and_false, resCode_no]
    · rfl
    · exact fwd_long (by rw [List.length_append]; show 30 < R.length + 1; omega)
/-- Orders read from a row, and as they were. -/
theorem res_flst (F T : Nat → ByteArray) (n : Nat) (c : ByteArray) : res (nF (flst F T n)) (nT (flst F T n)) (flst F T n).length c = res F T n c := by
  have hf : nextOf (nF (flst F T n)) (nT (flst F T n)) (flst F T n).length = nextOf F T n := funext fun c => by rw [nextOf_row, nextOf_flst]
  unfold res
  rw [hf, flst_length]
end Go.Proofs.Ytekkajgifgnklaa.M
