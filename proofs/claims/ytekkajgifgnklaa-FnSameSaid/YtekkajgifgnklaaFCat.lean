/-
  One slice of orders appended to another.
-/
import Derived.Test.YtekkajgifgnklaaFRow
import Derived.Maps.AppendAt
namespace Go.Proofs.Ytekkajgifgnklaa
open Go.RowKit

theorem fcells_one : ∀ (L : List (ByteArray × ByteArray)) (u : Value), u ∈ fcells L → u.oneCell' = true
  | [], _, h => by cases h
  | x :: L, u, h => by
    have h' : u ∈ (.string x.1 : Value) :: .string x.2 :: fcells L := h
    rcases List.mem_cons.1 h' with rfl | h'
    · rfl
    · rcases List.mem_cons.1 h' with rfl | h'
      · rfl
      · exact fcells_one L u h'
theorem flst_len (I : Nat → ByteArray) (C : Nat → ByteArray) (n : Nat) : (M.flst I C n).length = n := by simp [M.flst]
theorem flst_get (I : Nat → ByteArray) (C : Nat → ByteArray) (n i : Nat) (h : i < (M.flst I C n).length) : (M.flst I C n)[i] = (I i, C i) := by simp [M.flst]
theorem fcells_lst' (I : Nat → ByteArray) (C : Nat → ByteArray) (n q : Nat) (h : q < n) : (fcells (M.flst I C n))[q * 2]? = some (.string (I q)) ∧ (fcells (M.flst I C n))[q * 2 + 1]? = some (.string (C q)) := by
  have hat := fcells_at (M.flst I C n) q (by rw [flst_len]; exact h)
  have e := flst_get I C n q (by rw [flst_len]; exact h)
  rw [e] at hat
  exact hat
theorem fappend_nil_src {P : Program} (w : World) (base : Nat) (t ty e : TypeId) (i : TypeInfo) (size : Nat) (ht : P.underlying t = some (.slice e)) (hi : P.info? e = some i)
    (v : Value) (n : Nat) (xs : List Value) (hown : w.ownsRow base e size v n xs) (c : Nat) : (Builtin.append_ #[t, t] ty #[v, .slice none 0 c]).run P w = .ok v w := by
  rcases hown.2 with ⟨rfl, rfl⟩ | ⟨g, cap, cur, rfl, _, _, hnc, _⟩
  · simp [Builtin.append_, run_underlying ht, sizeOf, typeInfo, hi, Builtin.lenOf, Builtin.firstCells]
  · simp [Builtin.append_, run_underlying ht, sizeOf, typeInfo, hi, Builtin.lenOf, Builtin.firstCells, hnc, storeCells]
theorem wpList_append_fws {ops : Array Oper} {rest : List Oper} {o : Oper} {a : Act} {Q : Exit → Act → World → Prop} (w : World) (hgd : o.guard = none) (s x : Operand)
    (ho : o.op = .call { callee := .builtin .append, args := #[s, x], argTypes := #[23, 23] })
    (base : Nat) (v : Value) (L : List (ByteArray × ByteArray)) (hs : a.eval s = v) (hrow : FRow w base v L) (a2 : Option Addr) (m c2 : Nat) (I : Nat → ByteArray) (C : Nat → ByteArray) (hx : a.eval x = .slice a2 m c2) (hu : Fws w a2 m I C) (hl : L.length + m ≤ 4194304) (hbase : base ≤ w.heap.size)
    (K : ∀ v' w', FRow w' base v' (L ++ M.flst I C m) → w.grownBy w' v.ownBlock → (v'.ownBlock = v.ownBlock ∨ v'.ownBlock = some w.heap.size) → wpList Try.prog ops Q rest (a.put o.dst v') w') :
    wpList Try.prog ops Q (o :: rest) a w := by
  obtain ⟨i0, hi, hz0, hz1, hz2⟩ := info_parts info_forward
  by_cases h0 : m = 0
  · subst h0
    have hnil : M.flst I C 0 = [] := rfl
    rw [hnil, List.append_nil] at K
    cases a2 with
    | none =>
      refine wpList_plain hgd fun K' hK => ?_
      have hrun := fappend_nil_src (P := Try.prog) w base 23 o.type 45 i0 2 Try.underlying23 hi v L.length (fcells L) hrow c2
      unfold Oper.wp
      simp [execOp, ho, resolve, invoke, builtin, hs, hx, hrun, Result.andThen]
      exact hK _ _ (K v w hrow (World.grownBy.refl w _) (Or.inl rfl))
    | some ad =>
      refine wpList_append_own_at w hgd s x 23 ho base 45 i0 _ 2 32 Try.underlying23 hi hz0 hz1 hz2 rfl (by decide) v L.length (fcells L) hs hrow ad 0 c2 [] hx rfl (fun j u hu => by simp at hu) (fun u hu => by cases hu) (by unfold maxLen; omega) (by omega) hbase ?_
      intro v' w' h1 h2 _ h3
      exact K v' w' (by unfold FRow; simpa using h1) h2 h3
  · obtain ⟨b, o', e, _⟩ := hu 0 (by omega)
    subst e
    refine wpList_append_own_at w hgd s x 23 ho base 45 i0 _ 2 32 Try.underlying23 hi hz0 hz1 hz2 rfl (by decide) v L.length (fcells L) hs hrow ⟨b, o', none⟩ m c2 (fcells (M.flst I C m)) hx (by rw [fcells_length, flst_len]) ?_ (fcells_one _) (by unfold maxLen; omega) (by omega) hbase ?_
    · intro j u hj
      have hjl : j < m * 2 := by
        have := (List.getElem?_eq_some_iff.1 hj).1
        rw [fcells_length, flst_len] at this
        exact this
      have hadd : (⟨b, o', none⟩ : Addr).add j = ⟨b, o' + j, none⟩ := by unfold Addr.add; split <;> simp_all
      rw [hadd]
      obtain ⟨q, hq⟩ : ∃ q, j = q * 2 ∨ j = q * 2 + 1 := ⟨j / 2, by omega⟩
      rcases hq with rfl | rfl
      · obtain ⟨b', o2, e2, c0, c1⟩ := hu q (by omega)
        cases e2
        have hat := fcells_lst' I C m q (by omega)
        rw [← Option.some.inj (hat.1.symm.trans hj)]
        exact c0
      · obtain ⟨b', o2, e2, c0, c1⟩ := hu q (by omega)
        cases e2
        have hat := fcells_lst' I C m q (by omega)
        rw [← Option.some.inj (hat.2.symm.trans hj)]
        exact c1
    · intro v' w' h1 h2 _ h3
      refine K v' w' ?_ h2 h3
      unfold FRow
      rw [List.length_append, flst_len, fcells_append]
      exact h1
theorem flst_nI (R : List (ByteArray × ByteArray)) : M.flst (nF R) (nT R) R.length = R := by
  apply List.ext_getElem?
  intro i
  by_cases h : i < R.length
  · rw [List.getElem?_eq_getElem (by rw [flst_len]; exact h), flst_get, nF_at h, nT_at h, List.getElem?_eq_getElem h]
  · rw [List.getElem?_eq_none (by rw [flst_len]; omega), List.getElem?_eq_none (by omega)]
end Go.Proofs.Ytekkajgifgnklaa
