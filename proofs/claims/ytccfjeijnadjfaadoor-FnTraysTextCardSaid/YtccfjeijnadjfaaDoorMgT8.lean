/-
  One slice of letters appended to another.
-/
import Derived.Test.YtccfjeijnadjfaaDoorMat
import Derived.Test.YtccfjeijnadjfaaDoorMgT3
import Derived.Maps.AppendAt
import Derived.PlainAid
import Derived.Lib.Join
namespace Go.Proofs.YtccfjeijnadjfaaDoor
open Go.RowKit

theorem lcells_one : ∀ (L : List (Int × ByteArray)) (u : Value), u ∈ lcells L → u.oneCell' = true
  | [], _, h => by cases h
  | x :: L, u, h => by
    have h' : u ∈ (.int .i64 x.1 : Value) :: .string x.2 :: lcells L := h
    rcases List.mem_cons.1 h' with rfl | h'
    · rfl
    · rcases List.mem_cons.1 h' with rfl | h'
      · rfl
      · exact lcells_one L u h'
theorem lst_len (I : Nat → Int) (C : Nat → ByteArray) (n : Nat) : (M.lst I C n).length = n := by simp [M.lst]
theorem lst_get (I : Nat → Int) (C : Nat → ByteArray) (n i : Nat) (h : i < (M.lst I C n).length) : (M.lst I C n)[i] = (I i, C i) := by simp [M.lst]
theorem lcells_lst' (I : Nat → Int) (C : Nat → ByteArray) (n q : Nat) (h : q < n) : (lcells (M.lst I C n))[q * 2]? = some (.int .i64 (I q)) ∧ (lcells (M.lst I C n))[q * 2 + 1]? = some (.string (C q)) := by
  have hat := lcells_at (M.lst I C n) q (by rw [lst_len]; exact h)
  have e := lst_get I C n q (by rw [lst_len]; exact h)
  rw [e] at hat
  exact hat
theorem append_nil_src {P : Program} (w : World) (base : Nat) (t ty e : TypeId) (i : TypeInfo) (size : Nat) (ht : P.underlying t = some (.slice e)) (hi : P.info? e = some i)
    (v : Value) (n : Nat) (xs : List Value) (hown : w.ownsRow base e size v n xs) (c : Nat) : (Builtin.append_ #[t, t] ty #[v, .slice none 0 c]).run P w = .ok v w := by
  rcases hown.2 with ⟨rfl, rfl⟩ | ⟨g, cap, cur, rfl, _, _, hnc, _⟩
  · simp [Builtin.append_, run_underlying ht, sizeOf, typeInfo, hi, Builtin.lenOf, Builtin.firstCells]
  · simp [Builtin.append_, run_underlying ht, sizeOf, typeInfo, hi, Builtin.lenOf, Builtin.firstCells, hnc, storeCells]
theorem wpList_append_lts {ops : Array Oper} {rest : List Oper} {o : Oper} {a : Act} {Q : Exit → Act → World → Prop} (w : World) (hgd : o.guard = none) (s x : Operand)
    (ho : o.op = .call { callee := .builtin .append, args := #[s, x], argTypes := #[28, 28] })
    (base : Nat) (v : Value) (L : List (Int × ByteArray)) (hs : a.eval s = v) (hrow : Row w base v L) (a2 : Option Addr) (m c2 : Nat) (I : Nat → Int) (C : Nat → ByteArray) (hx : a.eval x = .slice a2 m c2) (hu : Lts w a2 m I C) (hl : L.length + m ≤ 4194304) (hbase : base ≤ w.heap.size)
    (K : ∀ v' w', Row w' base v' (L ++ M.lst I C m) → w.grownBy w' v.ownBlock → (v'.ownBlock = v.ownBlock ∨ v'.ownBlock = some w.heap.size) → wpList Tryd.prog ops Q rest (a.put o.dst v') w') :
    wpList Tryd.prog ops Q (o :: rest) a w := by
  obtain ⟨i0, hi, hz0, hz1, hz2⟩ := info_parts info_letter
  by_cases h0 : m = 0
  · subst h0
    have hnil : M.lst I C 0 = [] := rfl
    rw [hnil, List.append_nil] at K
    cases a2 with
    | none =>
      refine wpList_plain hgd fun K' hK => ?_
      have hrun := append_nil_src (P := Tryd.prog) w base 28 o.type 30 i0 2 Tryd.underlying28 hi v L.length (lcells L) hrow c2
      unfold Oper.wp
      simp [execOp, ho, resolve, invoke, builtin, hs, hx, hrun, Result.andThen]
      exact hK _ _ (K v w hrow (World.grownBy.refl w _) (Or.inl rfl))
    | some ad =>
      refine wpList_append_own_at w hgd s x 28 ho base 30 i0 _ 2 24 Tryd.underlying28 hi hz0 hz1 hz2 rfl (by decide) v L.length (lcells L) hs hrow ad 0 c2 [] hx rfl (fun j u hu => by simp at hu) (fun u hu => by cases hu) (by unfold maxLen; omega) (by omega) hbase ?_
      intro v' w' h1 h2 _ h3
      exact K v' w' (by unfold Row; simpa using h1) h2 h3
  · obtain ⟨b, o', e, _⟩ := hu 0 (by omega)
    subst e
    refine wpList_append_own_at w hgd s x 28 ho base 30 i0 _ 2 24 Tryd.underlying28 hi hz0 hz1 hz2 rfl (by decide) v L.length (lcells L) hs hrow ⟨b, o', none⟩ m c2 (lcells (M.lst I C m)) hx (by rw [lcells_length, lst_len]) ?_ (lcells_one _) (by unfold maxLen; omega) (by omega) hbase ?_
    · intro j u hj
      have hjl : j < m * 2 := by
        have := (List.getElem?_eq_some_iff.1 hj).1
        rw [lcells_length, lst_len] at this
        exact this
      have hadd : (⟨b, o', none⟩ : Addr).add j = ⟨b, o' + j, none⟩ := by unfold Addr.add; split <;> simp_all
      rw [hadd]
      obtain ⟨q, hq⟩ : ∃ q, j = q * 2 ∨ j = q * 2 + 1 := ⟨j / 2, by omega⟩
      rcases hq with rfl | rfl
      · obtain ⟨b', o2, e2, c0, c1⟩ := hu q (by omega)
        cases e2
        have hat := lcells_lst' I C m q (by omega)
        rw [← Option.some.inj (hat.1.symm.trans hj)]
        exact c0
      · obtain ⟨b', o2, e2, c0, c1⟩ := hu q (by omega)
        cases e2
        have hat := lcells_lst' I C m q (by omega)
        rw [← Option.some.inj (hat.2.symm.trans hj)]
        exact c1
    · intro v' w' h1 h2 _ h3
      refine K v' w' ?_ h2 h3
      unfold Row
      rw [List.length_append, lst_len, lcells_append]
      exact h1
theorem lst_nI (R : List (Int × ByteArray)) : M.lst (nI R) (nC R) R.length = R := by
  apply List.ext_getElem?
  intro i
  by_cases h : i < R.length
  · rw [List.getElem?_eq_getElem (by rw [lst_len]; exact h), lst_get, nI_at h, nC_at h, List.getElem?_eq_getElem h]
  · rw [List.getElem?_eq_none (by rw [lst_len]; omega), List.getElem?_eq_none (by omega)]
end Go.Proofs.YtccfjeijnadjfaaDoor

/-
  Texts of lists on paper: items with a gap between each two. No program is named here.
-/
namespace Go.Proofs.YtccfjeijnadjfaaDoor.M
set_option linter.unusedVariables false

theorem bapp_assoc (a b c : ByteArray) : a ++ b ++ c = a ++ (b ++ c) := by
  apply ByteArray.ext
  simp [Array.append_assoc]
theorem bapp_data (a b : ByteArray) : (a ++ b).data.toList = a.data.toList ++ b.data.toList := by simp
theorem bnil_app (a : ByteArray) : (⟨#[]⟩ : ByteArray) ++ a = a := by
  apply ByteArray.ext
  simp
theorem bapp_nil (a : ByteArray) : a ++ (⟨#[]⟩ : ByteArray) = a := by
  apply ByteArray.ext
  simp
/-- The first k items with the sign g between each two. -/
def gapsTo (g : ByteArray) (T : Nat → ByteArray) : Nat → ByteArray
  | 0 => ⟨#[]⟩
  | k + 1 => (if k = 0 then gapsTo g T k else gapsTo g T k ++ g) ++ T k
theorem gapsTo_one (g : ByteArray) (T : Nat → ByteArray) : gapsTo g T 1 = T 0 := by
  show (if (0 : Nat) = 0 then gapsTo g T 0 else gapsTo g T 0 ++ g) ++ T 0 = T 0
  rw [if_pos rfl]
  exact bnil_app _
theorem gapsTo_first (g : ByteArray) (T : Nat → ByteArray) {k : Nat} (h : k = 0) : gapsTo g T (k + 1) = gapsTo g T k ++ T k := by
  show (if k = 0 then gapsTo g T k else gapsTo g T k ++ g) ++ T k = _
  rw [if_pos h]
theorem gapsTo_next (g : ByteArray) (T : Nat → ByteArray) {k : Nat} (h : k ≠ 0) : gapsTo g T (k + 1) = gapsTo g T k ++ g ++ T k := by
  show (if k = 0 then gapsTo g T k else gapsTo g T k ++ g) ++ T k = _
  rw [if_neg h]
theorem gapsTo_size {g : ByteArray} {T : Nat → ByteArray} {m : Nat} : ∀ {k : Nat}, (∀ i, i < k → (T i).size ≤ m) → (gapsTo g T k).size ≤ k * (m + g.size)
  | 0, _ => Nat.zero_le _
  | k + 1, h => by
    have ih := gapsTo_size (g := g) (k := k) fun i hi => h i (by omega)
    have h1 := h k (by omega)
    have e : (k + 1) * (m + g.size) = k * (m + g.size) + (m + g.size) := Nat.succ_mul _ _
    by_cases h0 : k = 0
    · rw [gapsTo_first g T h0, ByteArray.size_append]; omega
    · rw [gapsTo_next g T h0, ByteArray.size_append, ByteArray.size_append]; omega
theorem gapsTo_congr {g : ByteArray} {T U : Nat → ByteArray} : ∀ {k : Nat}, (∀ i, i < k → T i = U i) → gapsTo g T k = gapsTo g U k
  | 0, _ => rfl
  | k + 1, h => by
    have ih := gapsTo_congr (g := g) (k := k) fun i hi => h i (by omega)
    have h1 := h k (by omega)
    by_cases h0 : k = 0
    · rw [gapsTo_first g T h0, gapsTo_first g U h0, ih, h1]
    · rw [gapsTo_next g T h0, gapsTo_next g U h0, ih, h1]
theorem gapsTo_pos {g : ByteArray} {T : Nat → ByteArray} {k : Nat} (h0 : k ≠ 0) (h : 0 < (T (k - 1)).size) : 0 < (gapsTo g T k).size := by
  obtain ⟨j, rfl⟩ : ∃ j, k = j + 1 := ⟨k - 1, by omega⟩
  have h1 : 0 < (T j).size := h
  by_cases h2 : j = 0
  · rw [gapsTo_first g T h2, ByteArray.size_append]; omega
  · rw [gapsTo_next g T h2, ByteArray.size_append]; omega
theorem join_snoc (L : List (List UInt8)) (y sep : List UInt8) (h : L ≠ []) : Lib.join (L ++ [y]) sep = Lib.join L sep ++ sep ++ y := by
  cases L with
  | nil => exact absurd rfl h
  | cons x r =>
    rw [List.cons_append, Lib.join_cons, Lib.join_cons]
    simp [Lib.joinTail, List.append_assoc]
theorem gapsTo_join (g : ByteArray) (T : Nat → ByteArray) : ∀ k, (gapsTo g T k).data.toList = Lib.join (((List.range k).map T).map (·.data.toList)) g.data.toList
  | 0 => rfl
  | k + 1 => by
    have ih := gapsTo_join g T k
    rw [List.range_succ, List.map_append, List.map_append]
    by_cases h0 : k = 0
    · subst h0
      rw [gapsTo_one]
      exact (Lib.join_one _ _).symm
    · rw [gapsTo_next g T h0]
      have hne : ((List.range k).map T).map (·.data.toList) ≠ [] := by
        intro e
        have := congrArg List.length e
        simp at this
        exact h0 this
      show _ = Lib.join (_ ++ [(T k).data.toList]) _
      rw [join_snoc _ _ _ hne, ← ih, bapp_data, bapp_data]
/-- The gap between two items. -/
def gap : ByteArray := ⟨#[32]⟩
/-- The text of items: a dash if there is none. -/
def itemsOf (T : Nat → ByteArray) (n : Nat) : ByteArray := if n = 0 then ⟨#[45]⟩ else gapsTo gap T n
def dashed (s : ByteArray) : ByteArray := if s.size = 0 then ⟨#[45]⟩ else s
theorem dashed_gaps {T : Nat → ByteArray} {n : Nat} (h : n ≠ 0 → 0 < (T (n - 1)).size) : dashed (gapsTo gap T n) = itemsOf T n := by
  unfold dashed itemsOf
  by_cases h0 : n = 0
  · subst h0
    rw [if_pos rfl, if_pos (by rfl)]
  · rw [if_neg h0, if_neg (by have := gapsTo_pos (g := gap) h0 (h h0); omega)]
/-- Two strings with the sign > between them. -/
def sgn : ByteArray := ⟨#[62]⟩
def pairT (F T : Nat → ByteArray) (k : Nat) : ByteArray := F k ++ sgn ++ T k
theorem pairT_app (o : ByteArray) (F T : Nat → ByteArray) (k : Nat) : o ++ F k ++ sgn ++ T k = o ++ pairT F T k := by
  unfold pairT
  rw [bapp_assoc, bapp_assoc, bapp_assoc]
theorem pairT_size {F T : Nat → ByteArray} {k : Nat} (h1 : (F k).size ≤ 8) (h2 : (T k).size ≤ 8) : (pairT F T k).size ≤ 17 ∧ 0 < (pairT F T k).size := by
  have : sgn.size = 1 := rfl
  unfold pairT
  rw [ByteArray.size_append, ByteArray.size_append]
  omega
end Go.Proofs.YtccfjeijnadjfaaDoor.M
