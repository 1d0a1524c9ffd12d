/-
  When an order is added: only if its letters arrive, and not at its own code. No program is named here.
-/
import Derived.Test.YtbfbbpmddgfeiaaRemM
namespace Go.Proofs.Ytbfbbpmddgfeiaa.M
set_option linter.unusedVariables false

theorem iter_agree {f g : ByteArray → Option ByteArray} {x y : ByteArray} (hfg : ∀ c, c ≠ x → g c = f c) : ∀ {s : Nat}, (∀ u, u < s → ∀ z, iter f u y = some z → z ≠ x) → iter g s y = iter f s y
  | 0, _ => rfl
  | s + 1, h => by
    have ih := iter_agree hfg (s := s) (fun u hu => h u (by omega))
    show (iter g s y).bind g = (iter f s y).bind f
    rw [ih]
    cases e : iter f s y with
    | none => rfl
    | some z => exact hfg z (h s (by omega) z e)
/-- Letters arrive, elsewhere than at x. -/
def arr (x : ByteArray) : Option (ByteArray × Nat) → Bool
  | none => false
  | some p => !decide (p.1 = x)
/-- Where x leads to y, and leads nowhere in f. -/
theorem res_more {F T F' T' : Nat → ByteArray} {n n' : Nat} {x y : ByteArray} (hx : nextOf F T n x = none) (hx' : nextOf F' T' n' x = some y) (hfg : ∀ c, c ≠ x → nextOf F' T' n' c = nextOf F T n c) (hn : n ≤ n') : (res F' T' n' x).isSome = arr x (res F T n y) := by
  have h1 : (res F' T' n' x).isSome = (res F' T' n' y).isSome := by
    cases e : res F' T' n' x with
    | none => rw [res_lost hx' e]
    | some p =>
      obtain ⟨d, t⟩ := p
      rw [(res_on hx' e).2]; rfl
  rw [h1]
  cases e : res F T n y with
  | none =>
    obtain ⟨m, _, _, hall⟩ := res_none e
    have hag : ∀ s, iter (nextOf F' T' n') s y = iter (nextOf F T n) s y := fun s => iter_agree hfg fun u _ z hz ez => by
      have := hall (u + 1)
      have h2 : iter (nextOf F T n) (u + 1) y = none := by
        show (iter (nextOf F T n) u y).bind (nextOf F T n) = none
        rw [hz, ez]; exact hx
      rw [h2] at this
      cases this
    cases e2 : res F' T' n' y with
    | none => rfl
    | some p =>
      obtain ⟨d, t⟩ := p
      obtain ⟨_, h3, h4⟩ := res_some e2
      have h5 : iter (nextOf F' T' n') (t + 1) y = none := by
        show (iter (nextOf F' T' n') t y).bind (nextOf F' T' n') = none
        rw [h3]; exact h4
      have := hall (t + 1)
      rw [← hag, h5] at this
      cases this
  | some p =>
    obtain ⟨d, t⟩ := p
    obtain ⟨ht, h3, h4⟩ := res_some e
    have hag : iter (nextOf F' T' n') t y = iter (nextOf F T n) t y := iter_agree hfg fun u hu z hz ez => by
      have h5 := iter_le (nx := nextOf F T n) (s := u + 1) (t := t) (c := y) (by omega) (by rw [h3]; rfl)
      have h2 : iter (nextOf F T n) (u + 1) y = none := by
        show (iter (nextOf F T n) u y).bind (nextOf F T n) = none
        rw [hz, ez]; exact hx
      rw [h2] at h5
      cases h5
    show _ = !decide (d = x)
    by_cases hd : d = x
    · rw [decide_eq_true hd]
      have hring : iter (nextOf F' T' n') (t + 1) y = some y := by
        show (iter (nextOf F' T' n') t y).bind (nextOf F' T' n') = some y
        rw [hag, h3, hd]; exact hx'
      cases e2 : res F' T' n' y with
      | none => rfl
      | some q =>
        obtain ⟨z, s⟩ := q
        obtain ⟨_, h5, h6⟩ := res_some e2
        have h7 : iter (nextOf F' T' n') (s + 1) y = none := by
          show (iter (nextOf F' T' n') s y).bind (nextOf F' T' n') = none
          rw [h5]; exact h6
        have h8 := ring_iter hring (s + 1)
        have h9 := iter_le (nx := nextOf F' T' n') (s := s + 1) (t := (s + 1) * (t + 1)) (c := y) (Nat.le_mul_of_pos_right _ (by omega)) (by rw [h8]; rfl)
        rw [h7] at h9
        cases h9
    · rw [decide_eq_false hd, res_iter (F := F') (T := T') (n := n') (s := t) (hag.trans h3) ((hfg d hd).trans h4) (by omega)]; rfl
theorem wo_back {F T : Nat → ByteArray} {n : Nat} {x y : ByteArray} : addRow F T n x y = wo x (flst F T n) ++ [(x, y)] := rfl
theorem add_next (R : List (ByteArray × ByteArray)) (x y c : ByteArray) (h : nxL R x = none) : nextOf (nF (R ++ [(x, y)])) (nT (R ++ [(x, y)])) (R ++ [(x, y)]).length c = if c = x then some y else nextOf (nF R) (nT R) R.length c := by
  rw [nextOf_row, nextOf_row, nxL_append, nxL_one]
  by_cases e : c = x
  · rw [if_pos e, if_pos e, e, h]; rfl
  · rw [if_neg e, if_neg e]
    cases nxL R c <;> rfl
/-- Whether an order is added. -/
theorem add_when {F T : Nat → ByteArray} {n : Nat} {x y : ByteArray} (h : fwd n F T = true) (hx : code x = true) (hy : code y = true) : addOk F T n x y = (arr x (res (nF (wo x (flst F T n))) (nT (wo x (flst F T n))) (wo x (flst F T n)).length y) && decide ((wo x (flst F T n)).length + 1 ≤ 30)) := by
  unfold addOk
  rw [h, Bool.true_and, wo_back]
  have hR : nxL (wo x (flst F T n)) x = none := by rw [nxL_wo, if_pos rfl]
  obtain ⟨R, hRR⟩ : ∃ R, wo x (flst F T n) = R := ⟨_, rfl⟩
  have hg := good_wo (fwd_good h) x
  have hno : ∀ p ∈ wo x (flst F T n), p.1 ≠ x := wo_no
  rw [hRR] at hR hg hno ⊢
  by_cases hl : R.length + 1 ≤ 30
  · rw [decide_eq_true hl, Bool.and_true, resCode_yes (good_fwd (good_more hg hl hx hy hno)) hx]
    exact res_more (by rw [nextOf_row]; exact hR) (by rw [add_next R x y x hR, if_pos rfl]) (fun c hc => by rw [add_next R x y c hR, if_neg hc]) (by rw [List.length_append]; omega)
  · rw [decide_eq_false hl, Bool.and_false, resCode_no]
    · rfl
    · exact fwd_long (by rw [List.length_append]; show 30 < R.length + 1; omega)
/-- Orders read from a row, and as they were. -/
theorem res_flst (F T : Nat → ByteArray) (n : Nat) (c : ByteArray) : res (nF (flst F T n)) (nT (flst F T n)) (flst F T n).length c = res F T n c := by
  have hf : nextOf (nF (flst F T n)) (nT (flst F T n)) (flst F T n).length = nextOf F T n := funext fun c => by rw [nextOf_row, nextOf_flst]
  unfold res
  rw [hf, flst_length]
end Go.Proofs.Ytbfbbpmddgfeiaa.M
