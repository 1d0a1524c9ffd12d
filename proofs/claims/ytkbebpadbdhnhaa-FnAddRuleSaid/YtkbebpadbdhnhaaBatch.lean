/-
  What BatchValid returns, in the program and in the model of the document.
-/
import Derived.Test.YtkbebpadbdhnhaaLet
import Derived.Test.YtkbebpadbdhnhaaIn
import Derived.Maps.OwnOps
import Derived.Maps.OwnSet
import Derived.Maps.Views
import Derived.WalkLawsBesides
namespace Go.Proofs.Ytkbebpadbdhnhaa
open Go.RowKit Go.Maps
open Go.PlainAid (bt get_bt bt_nonneg bt_le)

/-- The numbers of the first k letters, as the map that the program fills. -/
def Seen (I : Nat → Int) : Nat → DataW Unit
  | 0 => .map []
  | k + 1 => (Seen I k).put (.int .i64 (I k)) (.lit (.bool true))
theorem Seen.isMap (I : Nat → Int) : ∀ k, IsMap (Seen I k)
  | 0 => isMap_empty
  | k + 1 => (Seen.isMap I k).put _ _
theorem Seen.hit (I : Nat → Int) : ∀ k j, j < k → (Seen I k).atKey (.int .i64 (I j)) (.lit (.bool false)) = .lit (.bool true)
  | 0, j, h => absurd h (by omega)
  | k + 1, j, h => by
    by_cases e : I j = I k
    · rw [e]
      exact atKey_put_same (Seen.isMap I k) (by simp [WideAt.IsKeyLit]) _ _
    · rw [Seen, atKey_put_other (by intro h'; injection h' with _ h2; exact e h2)]
      exact Seen.hit I k j (by by_cases e2 : j = k; (subst e2; exact absurd rfl e); omega)
theorem Seen.miss (I : Nat → Int) (x : Int) : ∀ k, (∀ j, j < k → I j ≠ x) → (Seen I k).atKey (.int .i64 x) (.lit (.bool false)) = .lit (.bool false)
  | 0, _ => rfl
  | k + 1, h => by
    rw [Seen, atKey_put_other (by intro h'; injection h' with _ h2; exact h k (by omega) h2.symm)]
    exact Seen.miss I x k fun j hj => h j (by omega)
theorem plainElem_bool_inv {H : Type} {P : Program} {e : TypeId} (he : P.underlying e = some .bool) {v : Value} {z : DataW H × List MemPlace} (h : plainElem P e v = some z) : ∃ x, v = .bool x ∧ z = (.lit (.bool x), []) := by
  unfold plainElem at h
  rw [he] at h
  cases v <;> simp at h
  exact ⟨_, rfl, h.symm⟩
theorem look_bool {P : Program} {w : World} {t k e : TypeId} {b n : Nat} {D : DataW Unit} (h : w.ownsMap P k (plainElem P e) b n D) (K : Keyed P k) (ht : P.underlying t = some (.map k e)) (he : P.underlying e = some .bool) (hz : (zeroValue e).run P w = .ok (.bool false) w)
    {key : Value} {kl : Lit} (hkey : keyOf P k key = some kl) {x : Bool} (hx : D.atKey kl (.lit (.bool false)) = .lit (.bool x)) : (Instr.lookup t (.map (some b)) key false).run P w = .ok (.bool x) w := by
  obtain ⟨v, ps, hrun, hv⟩ := h.lookup K ht hz (plainElem_bool he false) hkey
  obtain ⟨c, rfl, hc⟩ := plainElem_bool_inv he hv
  simp only [Prod.mk.injEq] at hc
  have : (.lit (.bool x) : DataW Unit) = .lit (.bool c) := hx.symm.trans hc.1
  injection this with this
  injection this with this
  rw [this]; exact hrun
theorem lawInt : Keyed Try.prog 3 := int_keyed Try.underlying3
theorem zeroBool (w : World) : (zeroValue 4).run Try.prog w = .ok (.bool false) w := by kernel_rfl
/-- The map that BatchValid fills. -/
def OwnSeen (w : World) (b : Nat) (I : Nat → Int) (k : Nat) : Prop := w.ownsMap Try.prog 3 (plainElem Try.prog 4) b k (Seen I k)
end Go.Proofs.Ytkbebpadbdhnhaa
