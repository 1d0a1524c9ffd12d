/-
  slices.Clone of strings: one slice of strings appended to an empty one.
-/
import Derived.Test.YtjabpidmfgcamaaDoorMgP2
import Derived.Lib.SliceRun
namespace Go.Proofs.YtjabpidmfgcamaaDoor
open Go.RowKit
set_option linter.unusedVariables false

theorem sappend_nil_src {P : Program} (w : World) (base : Nat) (t ty e : TypeId) (i : TypeInfo) (size : Nat) (ht : P.underlying t = some (.slice e)) (hi : P.info? e = some i)
    (v : Value) (n : Nat) (xs : List Value) (hown : w.ownsRow base e size v n xs) (c : Nat) : (Builtin.append_ #[t, t] ty #[v, .slice none 0 c]).run P w = .ok v w := by
  rcases hown.2 with ⟨rfl, rfl⟩ | ⟨g, cap, cur, rfl, _, _, hnc, _⟩
  · simp [Builtin.append_, run_underlying ht, sizeOf, typeInfo, hi, Builtin.lenOf, Builtin.firstCells]
  · simp [Builtin.append_, run_underlying ht, sizeOf, typeInfo, hi, Builtin.lenOf, Builtin.firstCells, hnc, storeCells]
theorem wpList_append_strs {ops : Array Oper} {rest : List Oper} {o : Oper} {a : Act} {Q : Exit → Act → World → Prop} (w : World) (hgd : o.guard = none) (s x : Operand)
    (ho : o.op = .call { callee := .builtin .append, args := #[s, x], argTypes := #[23, 23] })
    (base : Nat) (v : Value) (L : List ByteArray) (hs : a.eval s = v) (hrow : SRow w base v L) (a2 : Option Addr) (m c2 : Nat) (S : Nat → ByteArray) (hx : a.eval x = .slice a2 m c2) (hu : Strs w a2 m S) (hl : L.length + m ≤ 4194304) (hbase : base ≤ w.heap.size)
    (K : ∀ v' w', SRow w' base v' (L ++ sst S m) → w.grownBy w' v.ownBlock → (v'.ownBlock = v.ownBlock ∨ v'.ownBlock = some w.heap.size) → wpList Tryd.prog ops Q rest (a.put o.dst v') w') :
    wpList Tryd.prog ops Q (o :: rest) a w := by
  obtain ⟨i0, hi, hz0, hz1, hz2⟩ := info_parts info_string
  by_cases h0 : m = 0
  · subst h0
    have hnil : sst S 0 = [] := rfl
    rw [hnil, List.append_nil] at K
    cases a2 with
    | none =>
      refine wpList_plain hgd fun K' hK => ?_
      have hrun := sappend_nil_src (P := Tryd.prog) w base 23 o.type 9 i0 1 Tryd.underlying23 hi v L.length (scells L) hrow c2
      unfold Oper.wp
      simp [execOp, ho, resolve, invoke, builtin, hs, hx, hrun, Result.andThen]
      exact hK _ _ (K v w hrow (World.grownBy.refl w _) (Or.inl rfl))
    | some ad =>
      refine wpList_append_own_at w hgd s x 23 ho base 9 i0 _ 1 16 Tryd.underlying23 hi hz0 hz1 hz2 rfl (by decide) v L.length (scells L) hs hrow ad 0 c2 [] hx rfl (fun j u hu => by simp at hu) (fun u hu => by cases hu) (by unfold maxLen; omega) (by omega) hbase ?_
      intro v' w' h1 h2 _ h3
      exact K v' w' (by unfold SRow; simpa using h1) h2 h3
  · obtain ⟨b, o', e, _⟩ := hu 0 (by omega)
    subst e
    refine wpList_append_own_at w hgd s x 23 ho base 9 i0 _ 1 16 Tryd.underlying23 hi hz0 hz1 hz2 rfl (by decide) v L.length (scells L) hs hrow ⟨b, o', none⟩ m c2 (scells (sst S m)) hx (by rw [scells_length, sst_length, Nat.mul_one]) ?_ ?_ (by unfold maxLen; omega) (by omega) hbase ?_
    · intro j u hj
      have hjl : j < m := by
        have := (List.getElem?_eq_some_iff.1 hj).1
        rw [scells_length, sst_length] at this
        exact this
      have hadd : (⟨b, o', none⟩ : Addr).add j = ⟨b, o' + j, none⟩ := by unfold Addr.add; split <;> simp_all
      rw [hadd]
      obtain ⟨b', o2, e2, c0⟩ := hu j hjl
      cases e2
      have hat := scells_at (sst S m) j (by rw [sst_length]; exact hjl)
      have e3 : (sst S m)[j]'(by rw [sst_length]; exact hjl) = S j := by simp [sst]
      rw [e3] at hat
      rw [← Option.some.inj (hat.symm.trans hj)]
      exact c0
    · intro u hu'
      simp only [scells, List.mem_map] at hu'
      obtain ⟨x, _, rfl⟩ := hu'
      rfl
    · intro v' w' h1 h2 _ h3
      refine K v' w' ?_ h2 h3
      unfold SRow
      rw [List.length_append, sst_length, scells_append]
      exact h1

def SRowOut (w : World) (L : List ByteArray) (e : Ending) (w' : World) : Prop := ∃ v, e = .returned v ∧ SRow w' w.heap.size v L ∧ Below w.heap.size w w'
end Go.Proofs.YtjabpidmfgcamaaDoor
