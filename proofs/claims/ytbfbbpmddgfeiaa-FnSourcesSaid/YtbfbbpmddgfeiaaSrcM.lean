/-
  The codes whose letters arrive at a code, and those whose letters never arrive, as plain functions. No program is named here.
-/
import Derived.Test.YtbfbbpmddgfeiaaDirM
import Derived.Test.YtbfbbpmddgfeiaaWayM
import Derived.Test.YtbfbbpmddgfeiaaDelM
namespace Go.Proofs.Ytbfbbpmddgfeiaa.M
set_option linter.unusedVariables false

theorem srcIx_mem {F T : Nat → ByteArray} {n : Nat} {c x : ByteArray} : ∀ {k : Nat}, x ∈ srcIx F T n c k ↔ ∃ i, i < k ∧ F i = x ∧ endOf F T n x = some c
  | 0 => ⟨fun h => (by cases h), fun ⟨i, h, _⟩ => absurd h (by omega)⟩
  | k + 1 => by
    have ih := srcIx_mem (F := F) (T := T) (n := n) (c := c) (x := x) (k := k)
    unfold srcIx
    by_cases e : endOf F T n (F k) = some c
    · rw [if_pos e, List.mem_append, ih]
      constructor
      · rintro (⟨i, hi, h1, h2⟩ | h)
        · exact ⟨i, by omega, h1, h2⟩
        · have := List.mem_singleton.1 h
          subst this
          exact ⟨k, by omega, rfl, e⟩
      · rintro ⟨i, hi, h1, h2⟩
        by_cases e2 : i = k
        · subst e2
          exact Or.inr (List.mem_singleton.2 h1.symm)
        · exact Or.inl ⟨i, by omega, h1, h2⟩
    · rw [if_neg e, ih]
      constructor
      · rintro ⟨i, hi, h1, h2⟩
        exact ⟨i, by omega, h1, h2⟩
      · rintro ⟨i, hi, h1, h2⟩
        by_cases e2 : i = k
        · subst e2
          rw [h1] at e
          exact absurd h2 e
        · exact ⟨i, by omega, h1, h2⟩
theorem srcs_mem {F T : Nat → ByteArray} {n j : Nat} {c : ByteArray} (h : fwd n F T = true) (hj : j < n) : has (F j) (srcs F T n c) = decide (endOf F T n (F j) = some c) := by
  have : F j ∈ srcs F T n c ↔ endOf F T n (F j) = some c := by
    rw [srcs_yes c h, (insAll_perm _).mem_iff, srcIx_mem]
    exact ⟨fun ⟨_, _, _, h2⟩ => h2, fun h2 => ⟨j, hj, rfl, h2⟩⟩
  by_cases e : endOf F T n (F j) = some c
  · rw [decide_eq_true e, has_iff.2 (this.2 e)]
  · rw [decide_eq_false e, has_no (fun h2 => e (this.1 h2))]
theorem end_last {F T : Nat → ByteArray} {n : Nat} {x c : ByteArray} (h : endOf F T n x = some c) : nextOf F T n c = none := by
  unfold endOf at h
  cases e : res F T n x with
  | none => rw [e] at h; cases h
  | some p =>
    obtain ⟨d, t⟩ := p
    rw [e] at h
    have : d = c := Option.some.inj h
    subst this
    exact (res_some e).2.2
theorem srcs_sent {F T : Nat → ByteArray} {n : Nat} {c d : ByteArray} (h : fwd n F T = true) (hn : nextOf F T n c = some d) : srcs F T n c = [] := by
  rw [srcs_yes c h]
  have : srcIx F T n c n = [] := by
    rw [List.eq_nil_iff_forall_not_mem]
    intro x hx
    obtain ⟨i, _, _, h2⟩ := srcIx_mem.1 hx
    rw [end_last h2] at hn
    cases hn
  rw [this]; rfl
end Go.Proofs.Ytbfbbpmddgfeiaa.M
