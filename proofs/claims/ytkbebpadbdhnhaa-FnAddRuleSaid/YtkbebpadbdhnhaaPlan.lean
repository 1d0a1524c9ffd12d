/-
  Plans by value: the copy and the comparison of the law's own text; whether a plan is valid, in the program and in the model of the document.
-/
import Derived.Test.YtkbebpadbdhnhaaStr
import Derived.Test.YtkbebpadbdhnhaaPlanM
import Derived.Test.YtkbebpadbdhnhaaCap
import Derived.Maps.OwnOps
import Derived.Maps.OwnSet
import Derived.Maps.Views
import Derived.WalkLawsBesides
namespace Go.Proofs.Ytkbebpadbdhnhaa
open Go.RowKit Go.Maps
open Go.PlainAid (bt get_bt bt_nonneg bt_le)

/-- A block of three cells, which can be written. -/
def Tri (w : World) (b : Nat) (x y z : Value) : Prop := (w.cell? ⟨b, 0, none⟩ = some x ∧ w.cell? ⟨b, 1, none⟩ = some y ∧ w.cell? ⟨b, 2, none⟩ = some z) ∧ (w.frozen? ⟨b, 0, none⟩ = false ∧ w.frozen? ⟨b, 1, none⟩ = false ∧ w.frozen? ⟨b, 2, none⟩ = false)
theorem Tri.lt {w : World} {b : Nat} {x y z : Value} (h : Tri w b x y z) : b < w.heap.size := World.block_lt_of_cell? _ _ h.1.1
theorem Tri.on {w w' : World} {b : Nat} {x y z : Value} (h : Tri w b x y z) (hb : Below w.heap.size w w') : Tri w' b x y z := by
  have hlt := h.lt
  obtain ⟨⟨h0, h1, h2⟩, f0, f1, f2⟩ := h
  have k := fun o => hb.cell (p := ⟨b, o, none⟩) hlt
  have q := fun o => hb.frozen (p := ⟨b, o, none⟩) hlt
  exact ⟨⟨by rw [k]; exact h0, by rw [k]; exact h1, by rw [k]; exact h2⟩, by rw [q]; exact f0, by rw [q]; exact f1, by rw [q]; exact f2⟩
theorem tri_made (w : World) (x y z : Value) (T : TypeId) : Tri (w.alloc (.cells #[x, y, z] T)) w.heap.size x y z :=
  ⟨⟨by simp [go_sem], by simp [go_sem], by simp [go_sem]⟩, by simp [go_sem], by simp [go_sem], by simp [go_sem]⟩
theorem Tri.alloc {w : World} {b : Nat} {x y z : Value} (h : Tri w b x y z) (o : Obj) : Tri (w.alloc o) b x y z := h.on (below_alloc0 w o)

theorem neq_list0 {a b : ByteArray} (h : a ≠ b) : (a.toList == b.toList) = false := by
  rw [beq_eq_false_iff_ne]
  intro e
  rw [ByteArray.toList_eq, ByteArray.toList_eq] at e
  exact h (ByteArray.ext (Array.toList_inj.1 e))
theorem quiet_flip {P : Program} {f : FuncId} {args : Array Value} {w : World} {v : Value} (h : Calls P f args w fun e w' => e = .returned v ∧ w = w') : Calls P f args w fun e w' => e = .returned v ∧ w' = w :=
  h.mono fun _ _ ⟨he, hw⟩ => ⟨he, hw.symm⟩

/-- The first k strings, as the map that the program fills. -/
def SeenS (S : Nat → ByteArray) : Nat → DataW Unit
  | 0 => .map []
  | k + 1 => (SeenS S k).put (.string (S k).data.toList) (.lit (.bool true))
theorem SeenS.isMap (S : Nat → ByteArray) : ∀ k, IsMap (SeenS S k)
  | 0 => isMap_empty
  | k + 1 => (SeenS.isMap S k).put _ _
theorem SeenS.hit (S : Nat → ByteArray) : ∀ k j, j < k → (SeenS S k).atKey (.string (S j).data.toList) (.lit (.bool false)) = .lit (.bool true)
  | 0, j, h => absurd h (by omega)
  | k + 1, j, h => by
    by_cases e : S j = S k
    · rw [e]
      exact atKey_put_same (SeenS.isMap S k) (by simp [WideAt.IsKeyLit]) _ _
    · rw [SeenS, atKey_put_other (by intro h'; injection h' with h2; exact e (ByteArray.ext (Array.toList_inj.1 h2)))]
      exact SeenS.hit S k j (by by_cases e2 : j = k; (subst e2; exact absurd rfl e); omega)
theorem SeenS.miss (S : Nat → ByteArray) (x : ByteArray) : ∀ k, (∀ j, j < k → S j ≠ x) → (SeenS S k).atKey (.string x.data.toList) (.lit (.bool false)) = .lit (.bool false)
  | 0, _ => rfl
  | k + 1, h => by
    rw [SeenS, atKey_put_other (by intro h'; injection h' with h2; exact h k (by omega) (ByteArray.ext (Array.toList_inj.1 h2)).symm)]
    exact SeenS.miss S x k fun j hj => h j (by omega)
theorem plainElem_bool_invS {H : Type} {P : Program} {e : TypeId} (he : P.underlying e = some .bool) {v : Value} {z : DataW H × List MemPlace} (h : plainElem P e v = some z) : ∃ x, v = .bool x ∧ z = (.lit (.bool x), []) := by
  unfold plainElem at h
  rw [he] at h
  cases v <;> simp at h
  exact ⟨_, rfl, h.symm⟩
theorem look_boolS {P : Program} {w : World} {t k e : TypeId} {b n : Nat} {D : DataW Unit} (h : w.ownsMap P k (plainElem P e) b n D) (K : Keyed P k) (ht : P.underlying t = some (.map k e)) (he : P.underlying e = some .bool) (hz : (zeroValue e).run P w = .ok (.bool false) w)
    {key : Value} {kl : Lit} (hkey : keyOf P k key = some kl) {x : Bool} (hx : D.atKey kl (.lit (.bool false)) = .lit (.bool x)) : (Instr.lookup t (.map (some b)) key false).run P w = .ok (.bool x) w := by
  obtain ⟨v, ps, hrun, hv⟩ := h.lookup K ht hz (plainElem_bool he false) hkey
  obtain ⟨c, rfl, hc⟩ := plainElem_bool_invS he hv
  simp only [Prod.mk.injEq] at hc
  have : (.lit (.bool x) : DataW Unit) = .lit (.bool c) := hx.symm.trans hc.1
  injection this with this
  injection this with this
  rw [this]; exact hrun
theorem lawStr : Keyed Try.prog 9 := string_keyed Try.underlying9
theorem zeroBoolS (w : World) : (zeroValue 4).run Try.prog w = .ok (.bool false) w := by kernel_rfl
/-- The map that differentCodes fills. -/
def OwnSeenS (w : World) (b : Nat) (S : Nat → ByteArray) (k : Nat) : Prop := w.ownsMap Try.prog 9 (plainElem Try.prog 4) b k (SeenS S k)
theorem OwnSeenS.look {w : World} {b k : Nat} {S : Nat → ByteArray} (h : OwnSeenS w b S k) {y : ByteArray} (hy : y.size ≤ maxLen) {x : Bool} (hx : (SeenS S k).atKey (.string y.data.toList) (.lit (.bool false)) = .lit (.bool x)) :
    (Instr.lookup 48 (.map (some b)) (.string y) false).run Try.prog w = .ok (.bool x) w :=
  look_boolS h lawStr Try.underlying48 Try.underlying4 (zeroBoolS w) (WideMaps.keyOf_string_mk Try.underlying9 hy) hx

end Go.Proofs.Ytkbebpadbdhnhaa
