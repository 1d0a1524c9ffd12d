/-
  Plain functions on letters: as a list, and divided by the beginning of their codes. No program is named here.
-/
import Derived.Test.YthnaglnmmgpiaaaMgN1
import Derived.Test.YthnaglnmmgpiaaaMat
import Derived.Maps.AppendAt
namespace Go.Proofs.Ythnaglnmmgpiaaa.M

/-- The first k letters. -/
def lst (I : Nat → Int) (C : Nat → ByteArray) (k : Nat) : List (Int × ByteArray) := (List.range k).map fun i => (I i, C i)
theorem lst_succ (I : Nat → Int) (C : Nat → ByteArray) (k : Nat) : lst I C (k + 1) = lst I C k ++ [(I k, C k)] := by
  unfold lst
  rw [List.range_succ, List.map_append]
  rfl
theorem lst_length (I : Nat → Int) (C : Nat → ByteArray) (k : Nat) : (lst I C k).length = k := by simp [lst]
/-- A code begins with a prefix. -/
def begins (c p : ByteArray) : Bool := decide (p.size ≤ c.size) && decide (c.extract 0 p.size = p)
theorem begins_short {c p : ByteArray} (h : c.size < p.size) : begins c p = false := by
  unfold begins
  rw [decide_eq_false (by omega)]; rfl
theorem begins_long {c p : ByteArray} (h : p.size ≤ c.size) : begins c p = decide (c.extract 0 p.size = p) := by
  unfold begins
  rw [decide_eq_true h]; rfl
theorem list_eq (a b : ByteArray) : (a.toList == b.toList) = decide (a = b) := by
  by_cases h : a = b
  · subst h; simp
  · rw [decide_eq_false h, beq_eq_false_iff_ne]
    intro e
    rw [ByteArray.toList_eq, ByteArray.toList_eq] at e
    exact h (ByteArray.ext (Array.toList_inj.1 e))
/-- The letters whose codes begin with a prefix, and the others. -/
def withP (p : ByteArray) (L : List (Int × ByteArray)) : List (Int × ByteArray) := L.filter fun x => begins x.2 p
def sansP (p : ByteArray) (L : List (Int × ByteArray)) : List (Int × ByteArray) := L.filter fun x => !begins x.2 p
theorem split_yes {p : ByteArray} {I : Nat → Int} {C : Nat → ByteArray} {k : Nat} (h : begins (C k) p = true) : withP p (lst I C (k + 1)) = withP p (lst I C k) ++ [(I k, C k)] ∧ sansP p (lst I C (k + 1)) = sansP p (lst I C k) := by
  unfold withP sansP
  rw [lst_succ, List.filter_append, List.filter_append]
  simp [h]
theorem split_no {p : ByteArray} {I : Nat → Int} {C : Nat → ByteArray} {k : Nat} (h : begins (C k) p = false) : withP p (lst I C (k + 1)) = withP p (lst I C k) ∧ sansP p (lst I C (k + 1)) = sansP p (lst I C k) ++ [(I k, C k)] := by
  unfold withP sansP
  rw [lst_succ, List.filter_append, List.filter_append]
  simp [h]
theorem withP_le (p : ByteArray) (I : Nat → Int) (C : Nat → ByteArray) (k : Nat) : (withP p (lst I C k)).length ≤ k := by
  have := List.length_filter_le (fun x : Int × ByteArray => begins x.2 p) (lst I C k)
  rw [lst_length] at this
  exact this
theorem sansP_le (p : ByteArray) (I : Nat → Int) (C : Nat → ByteArray) (k : Nat) : (sansP p (lst I C k)).length ≤ k := by
  have := List.length_filter_le (fun x : Int × ByteArray => !begins x.2 p) (lst I C k)
  rw [lst_length] at this
  exact this
/-- The letters whose codes are wanted, and the others. -/
def withF (f : ByteArray → Bool) (L : List (Int × ByteArray)) : List (Int × ByteArray) := L.filter fun x => f x.2
def sansF (f : ByteArray → Bool) (L : List (Int × ByteArray)) : List (Int × ByteArray) := L.filter fun x => !f x.2
theorem filt_yes {f : ByteArray → Bool} {I : Nat → Int} {C : Nat → ByteArray} {k : Nat} (h : f (C k) = true) : withF f (lst I C (k + 1)) = withF f (lst I C k) ++ [(I k, C k)] ∧ sansF f (lst I C (k + 1)) = sansF f (lst I C k) := by
  unfold withF sansF
  rw [lst_succ, List.filter_append, List.filter_append]
  simp [h]
theorem filt_no {f : ByteArray → Bool} {I : Nat → Int} {C : Nat → ByteArray} {k : Nat} (h : f (C k) = false) : withF f (lst I C (k + 1)) = withF f (lst I C k) ∧ sansF f (lst I C (k + 1)) = sansF f (lst I C k) ++ [(I k, C k)] := by
  unfold withF sansF
  rw [lst_succ, List.filter_append, List.filter_append]
  simp [h]
theorem withF_le (f : ByteArray → Bool) (I : Nat → Int) (C : Nat → ByteArray) (k : Nat) : (withF f (lst I C k)).length ≤ k := by
  have := List.length_filter_le (fun x : Int × ByteArray => f x.2) (lst I C k)
  rw [lst_length] at this
  exact this
theorem sansF_le (f : ByteArray → Bool) (I : Nat → Int) (C : Nat → ByteArray) (k : Nat) : (sansF f (lst I C k)).length ≤ k := by
  have := List.length_filter_le (fun x : Int × ByteArray => !f x.2) (lst I C k)
  rw [lst_length] at this
  exact this
/-- A prefix of codes. -/
def prefixOk (p : ByteArray) : Bool := digs p && decide (p.size ≤ 7)
def splitOk (n : Nat) (I : Nat → Int) (C : Nat → ByteArray) (p : ByteArray) : Bool := batch n I C && prefixOk p
def countP (n : Nat) (I : Nat → Int) (C : Nat → ByteArray) (p : ByteArray) : Int := if splitOk n I C p = true then ((withP p (lst I C n)).length : Int) else -1
theorem countP_no {n : Nat} {I : Nat → Int} {C : Nat → ByteArray} {p : ByteArray} (h : splitOk n I C p = false) : countP n I C p = -1 := if_neg (by rw [h]; decide)
theorem countP_yes {n : Nat} {I : Nat → Int} {C : Nat → ByteArray} {p : ByteArray} (h : splitOk n I C p = true) : countP n I C p = (withP p (lst I C n)).length := if_pos h
end Go.Proofs.Ythnaglnmmgpiaaa.M

/-
  One slice of letters appended to another.
-/
namespace Go.Proofs.Ythnaglnmmgpiaaa
open Go.RowKit

theorem lcells_one : ∀ (L : List (Int × ByteArray)) (u : Value), u ∈ lcells L → u.oneCell' = true
  | [], _, h => by cases h
  | x :: L, u, h => by
    have h' : u ∈ (.int .i64 x.1 : Value) :: .string x.2 :: lcells L := h
    rcases List.mem_cons.1 h' with rfl | h'
    · rfl
    · rcases List.mem_cons.1 h' with rfl | h'
      · rfl
      · exact lcells_one L u h'
theorem lst_len (I : Nat → Int) (C : Nat → ByteArray) (n : Nat) : (M.lst I C n).length = n := by simp [M.lst]
theorem lst_get (I : Nat → Int) (C : Nat → ByteArray) (n i : Nat) (h : i < (M.lst I C n).length) : (M.lst I C n)[i] = (I i, C i) := by simp [M.lst]
theorem lcells_lst' (I : Nat → Int) (C : Nat → ByteArray) (n q : Nat) (h : q < n) : (lcells (M.lst I C n))[q * 2]? = some (.int .i64 (I q)) ∧ (lcells (M.lst I C n))[q * 2 + 1]? = some (.string (C q)) := by
  have hat := lcells_at (M.lst I C n) q (by rw [lst_len]; exact h)
  have e := lst_get I C n q (by rw [lst_len]; exact h)
  rw [e] at hat
  exact hat
theorem append_nil_src {P : Program} (w : World) (base : Nat) (t ty e : TypeId) (i : TypeInfo) (size : Nat) (ht : P.underlying t = some (.slice e)) (hi : P.info? e = some i)
    (v : Value) (n : Nat) (xs : List Value) (hown : w.ownsRow base e size v n xs) (c : Nat) : (Builtin.append_ #[t, t] ty #[v, .slice none 0 c]).run P w = .ok v w := by
  rcases hown.2 with ⟨rfl, rfl⟩ | ⟨g, cap, cur, rfl, _, _, hnc, _⟩
  · simp [Builtin.append_, run_underlying ht, sizeOf, typeInfo, hi, Builtin.lenOf, Builtin.firstCells]
  · simp [Builtin.append_, run_underlying ht, sizeOf, typeInfo, hi, Builtin.lenOf, Builtin.firstCells, hnc, storeCells]
theorem wpList_append_lts {ops : Array Oper} {rest : List Oper} {o : Oper} {a : Act} {Q : Exit → Act → World → Prop} (w : World) (hgd : o.guard = none) (s x : Operand)
    (ho : o.op = .call { callee := .builtin .append, args := #[s, x], argTypes := #[30, 30] })
    (base : Nat) (v : Value) (L : List (Int × ByteArray)) (hs : a.eval s = v) (hrow : Row w base v L) (a2 : Option Addr) (m c2 : Nat) (I : Nat → Int) (C : Nat → ByteArray) (hx : a.eval x = .slice a2 m c2) (hu : Lts w a2 m I C) (hl : L.length + m ≤ 4194304) (hbase : base ≤ w.heap.size)
    (K : ∀ v' w', Row w' base v' (L ++ M.lst I C m) → w.grownBy w' v.ownBlock → (v'.ownBlock = v.ownBlock ∨ v'.ownBlock = some w.heap.size) → wpList Try.prog ops Q rest (a.put o.dst v') w') :
    wpList Try.prog ops Q (o :: rest) a w := by
  obtain ⟨i0, hi, hz0, hz1, hz2⟩ := info_parts info_letter
  by_cases h0 : m = 0
  · subst h0
    have hnil : M.lst I C 0 = [] := rfl
    rw [hnil, List.append_nil] at K
    cases a2 with
    | none =>
      refine wpList_plain hgd fun K' hK => ?_
      have hrun := append_nil_src (P := Try.prog) w base 30 o.type 32 i0 2 Try.underlying30 hi v L.length (lcells L) hrow c2
      unfold Oper.wp
      simp [execOp, ho, resolve, invoke, builtin, hs, hx, hrun, Result.andThen]
      exact hK _ _ (K v w hrow (World.grownBy.refl w _) (Or.inl rfl))
    | some ad =>
      refine wpList_append_own_at w hgd s x 30 ho base 32 i0 _ 2 24 Try.underlying30 hi hz0 hz1 hz2 rfl (by decide) v L.length (lcells L) hs hrow ad 0 c2 [] hx rfl (fun j u hu => by simp at hu) (fun u hu => by cases hu) (by unfold maxLen; omega) (by omega) hbase ?_
      intro v' w' h1 h2 _ h3
      exact K v' w' (by unfold Row; simpa using h1) h2 h3
  · obtain ⟨b, o', e, _⟩ := hu 0 (by omega)
    subst e
    refine wpList_append_own_at w hgd s x 30 ho base 32 i0 _ 2 24 Try.underlying30 hi hz0 hz1 hz2 rfl (by decide) v L.length (lcells L) hs hrow ⟨b, o', none⟩ m c2 (lcells (M.lst I C m)) hx (by rw [lcells_length, lst_len]) ?_ (lcells_one _) (by unfold maxLen; omega) (by omega) hbase ?_
    · intro j u hj
      have hjl : j < m * 2 := by
        have := (List.getElem?_eq_some_iff.1 hj).1
        rw [lcells_length, lst_len] at this
        exact this
      have hadd : (⟨b, o', none⟩ : Addr).add j = ⟨b, o' + j, none⟩ := by unfold Addr.add; split <;> simp_all
      rw [hadd]
      obtain ⟨q, hq⟩ : ∃ q, j = q * 2 ∨ j = q * 2 + 1 := ⟨j / 2, by omega⟩
      rcases hq with rfl | rfl
      · obtain ⟨b', o2, e2, c0, c1⟩ := hu q (by omega)
        cases e2
        have hat := lcells_lst' I C m q (by omega)
        rw [← Option.some.inj (hat.1.symm.trans hj)]
        exact c0
      · obtain ⟨b', o2, e2, c0, c1⟩ := hu q (by omega)
        cases e2
        have hat := lcells_lst' I C m q (by omega)
        rw [← Option.some.inj (hat.2.symm.trans hj)]
        exact c1
    · intro v' w' h1 h2 _ h3
      refine K v' w' ?_ h2 h3
      unfold Row
      rw [List.length_append, lst_len, lcells_append]
      exact h1
theorem lst_nI (R : List (Int × ByteArray)) : M.lst (nI R) (nC R) R.length = R := by
  apply List.ext_getElem?
  intro i
  by_cases h : i < R.length
  · rw [List.getElem?_eq_getElem (by rw [lst_len]; exact h), lst_get, nI_at h, nC_at h, List.getElem?_eq_getElem h]
  · rw [List.getElem?_eq_none (by rw [lst_len]; omega), List.getElem?_eq_none (by omega)]
end Go.Proofs.Ythnaglnmmgpiaaa
