/-
  Slices of letters in a slice: what they hold, and what a store, an append, a new one does to them.
-/
import Derived.Test.YtekfjheaffkakaaMgR4
import Derived.Test.YtekfjheaffkakaaStr
import Derived.Laws.OwnMore
import Derived.Test.YtekfjheaffkakaaMgR2
import Derived.Maps.AppendAt
import Derived.Test.YtekfjheaffkakaaIntS
import Derived.Test.YtekfjheaffkakaaTrkM
import Derived.Test.YtekfjheaffkakaaMgR3
namespace Go.Proofs.Ytekfjheaffkakaa
open Go.RowKit

def upd {α : Type} (f : Nat → α) (d : Nat) (x : α) : Nat → α := fun i => if i = d then x else f i
theorem upd_same {α : Type} (f : Nat → α) (d : Nat) (x : α) : upd f d x d = x := if_pos rfl
theorem upd_other {α : Type} (f : Nat → α) {d i : Nat} (x : α) (h : i ≠ d) : upd f d x i = f i := if_neg h
def vcells (V : Nat → Value) (n : Nat) : List Value := (List.range n).map V
theorem vcells_length (V : Nat → Value) (n : Nat) : (vcells V n).length = n := by simp [vcells]
theorem vcells_at (V : Nat → Value) {n i : Nat} (h : i < n) : (vcells V n)[i]? = some (V i) := by simp [vcells, h]
theorem vcells_set (V : Nat → Value) {n d : Nat} (x : Value) : (vcells V n).set d x = vcells (upd V d x) n := by
  apply List.ext_getElem?
  intro i
  by_cases hi : i < n
  · rw [vcells_at _ hi, List.getElem?_set]
    by_cases e : d = i
    · subst e
      rw [if_pos rfl, if_pos (by rw [vcells_length]; exact hi), upd_same]
    · rw [if_neg e, vcells_at _ hi, upd_other _ _ (fun h => e h.symm)]
  · rw [List.getElem?_eq_none (by rw [List.length_set, vcells_length]; omega), List.getElem?_eq_none (by rw [vcells_length]; omega)]
theorem vcells_push (V : Nat → Value) (n : Nat) (x : Value) : vcells V n ++ [x] = vcells (upd V n x) (n + 1) := by
  unfold vcells
  rw [List.range_succ, List.map_append]
  congr 1
  · apply List.map_congr_left
    intro i hi
    rw [upd_other _ _ (by have := List.mem_range.1 hi; omega)]
  · simp [upd_same]
/-- n slices of letters, in a slice v of slices: the values V own the lists M, each in a block of its own. -/
def Mat (w : World) (base : Nat) (v : Value) (n : Nat) (V : Nat → Value) (M : Nat → List (Int × ByteArray)) : Prop :=
  w.ownsRow base 26 1 v n (vcells V n) ∧ (∀ i, i < n → Row w base (V i) (M i)) ∧ (∀ i j, i < n → j < n → i ≠ j → Apart (V i) (V j))
/-- The blocks of such slices. -/
def inM (v : Value) (n : Nat) (V : Nat → Value) (k : Nat) : Prop := v.ownBlock = some k ∨ ∃ i, i < n ∧ (V i).ownBlock = some k
section
variable {w w' : World} {base n : Nat} {v : Value} {V : Nat → Value} {M : Nat → List (Int × ByteArray)}
theorem Mat.lt (h : Mat w base v n V M) {k : Nat} (hk : inM v n V k) : base ≤ k ∧ k < w.heap.size := by
  rcases hk with hk | ⟨i, hi, hk⟩
  · exact World.ownsRow.lt h.1 k hk
  · exact (h.2.1 i hi).lt k hk
theorem Mat.form (h : Mat w base v n V M) : (v = .slice none 0 0 ∧ n = 0) ∨ ∃ g c, v = .slice (some ⟨g, 0, none⟩) n c ∧ base ≤ g ∧ g < w.heap.size ∧ n ≤ c := by
  rcases h.1.2 with ⟨rfl, hn⟩ | ⟨g, cap, cur, rfl, hb, hg, hc, _⟩
  · exact Or.inl ⟨rfl, hn⟩
  · exact Or.inr ⟨g, cap, rfl, hb, (Array.getElem?_eq_some_iff.1 hg).1, hc⟩
theorem Mat.outer (h : Mat w base v n V M) {i : Nat} (hi : i < n) {k : Nat} (hk : v.ownBlock = some k) : (V i).ownBlock ≠ some k := by
  intro he
  rcases h.1.2 with ⟨rfl, hn⟩ | ⟨g, cap, cur, rfl, hb, hg, _⟩
  · cases hk
  · have e1 : g = k := by simpa [Value.ownBlock] using hk
    subst e1
    rcases (h.2.1 i hi).2 with ⟨e2, _⟩ | ⟨g2, cap2, cur2, e2, _, hg2, _⟩
    · rw [e2] at he; cases he
    · rw [e2] at he
      have e3 : g2 = g := by simpa [Value.ownBlock] using he
      subst e3
      rw [hg] at hg2
      injection hg2 with hg2
      injection hg2 with _ ht
      exact absurd ht (by decide)
theorem Row.only {w w' : World} {base : Nat} {v : Value} {L : List (Int × ByteArray)} {S : Nat → Prop} (h : Row w base v L) (ho : Only w w' S) (hn : ∀ b, v.ownBlock = some b → ¬ S b) : Row w' base v L :=
  ownsRow_block h fun g hg => ho.block g (h.lt g hg).2 (hn g hg)
theorem Row.lower {w : World} {base base' : Nat} {v : Value} {L : List (Int × ByteArray)} (h : Row w base v L) (hb : base' ≤ base) : Row w base' v L := by
  refine ⟨h.1, ?_⟩
  rcases h.2 with ⟨rfl, hn⟩ | ⟨g, cap, cur, rfl, hbg, rest⟩
  · exact Or.inl ⟨rfl, hn⟩
  · exact Or.inr ⟨g, cap, cur, rfl, Nat.le_trans hb hbg, rest⟩
theorem one_row (w : World) : Row (w.alloc (.cells #[] 33)) w.heap.size (.slice (some ⟨w.heap.size, 0, none⟩) 0 0) [] :=
  World.ownsRow_lit (base := w.heap.size) (e := 33) (size := 2) w #[] 0 (Nat.le_refl _) (by unfold maxLen; omega) rfl
theorem Mat.only {S : Nat → Prop} (h : Mat w base v n V M) (ho : Only w w' S) (hn : ∀ k, inM v n V k → ¬ S k) : Mat w' base v n V M :=
  ⟨ownsRow_block h.1 fun g hg => ho.block g (h.lt (Or.inl hg)).2 (hn g (Or.inl hg)), fun i hi => (h.2.1 i hi).only ho fun b hb => hn b (Or.inr ⟨i, hi, hb⟩), h.2.2⟩
theorem Mat.on (h : Mat w base v n V M) (hb : Below w.heap.size w w') : Mat w' base v n V M := h.only (Only.new (S := fun _ => False) hb) fun _ _ h => h
theorem Mat.cell (h : Mat w base v n V M) {i : Nat} (hi : i < n) : ∃ g c, v = .slice (some ⟨g, 0, none⟩) n c ∧ w.cell? ⟨g, i, none⟩ = some (V i) ∧ w.frozen? ⟨g, i, none⟩ = false := by
  rcases h.form with ⟨_, hn⟩ | ⟨g, c, hv, _⟩
  · omega
  · subst hv
    exact ⟨g, c, rfl, by rw [World.ownsRow.cellAt h.1 i (by omega), vcells_at _ hi], World.ownsRow.frozenAt h.1 i⟩
theorem Mat.lower (h : Mat w base v n V M) {base' : Nat} (hb : base' ≤ base) : Mat w base' v n V M := by
  have k : ∀ {e : TypeId} {size m : Nat} {u : Value} {xs : List Value}, w.ownsRow base e size u m xs → w.ownsRow base' e size u m xs := by
    intro e size m u xs hx
    refine ⟨hx.1, ?_⟩
    rcases hx.2 with ⟨rfl, hn⟩ | ⟨g, cap, cur, rfl, hbg, rest⟩
    · exact Or.inl ⟨rfl, hn⟩
    · exact Or.inr ⟨g, cap, cur, rfl, Nat.le_trans hb hbg, rest⟩
  exact ⟨k h.1, fun i hi => k (h.2.1 i hi), h.2.2⟩
/-- A slice is laid into its place. -/
theorem Mat.put {w3 : World} {G c d : Nat} (h : Mat w base (.slice (some ⟨G, 0, none⟩) n c) n V M) (hd : d < n) {x : Value} {L : List (Int × ByteArray)} (hr : Row w3 base x L) (ho : Only w w3 (fun k => (V d).ownBlock = some k)) (hx : ∀ k, x.ownBlock = some k → (V d).ownBlock = some k ∨ w.heap.size ≤ k) :
    Mat (w3.setCell ⟨G, d, none⟩ x) base (.slice (some ⟨G, 0, none⟩) n c) n (upd V d x) (upd M d L) := by
  have hG := h.lt (k := G) (Or.inl rfl)
  have hGo : ∀ i, i < n → (V i).ownBlock ≠ some G := fun i hi => h.outer hi rfl
  have hs := Only.set w3 ⟨G, d, none⟩ x (S := fun k => k = G) rfl
  have h1 : w3.ownsRow base 26 1 (.slice (some ⟨G, 0, none⟩) n c) n (vcells V n) := ownsRow_block h.1 fun g hg => by
    have e1 : G = g := by simpa [Value.ownBlock] using hg
    subst e1
    exact ho.block G hG.2 (hGo d hd)
  have h2 := (World.ownsRow.stored h1 d x).1
  rw [vcells_set V x] at h2
  refine ⟨h2, fun i hi => ?_, fun i j hi hj hij => ?_⟩
  · by_cases e : i = d
    · subst e
      rw [upd_same, upd_same]
      refine hr.only hs fun b hb e => ?_
      subst e
      rcases hx _ hb with h3 | h3
      · exact hGo i hi h3
      · omega
    · rw [upd_other _ _ e, upd_other _ _ e]
      exact ((h.2.1 i hi).only ho fun b hb hk => h.2.2 i d hi hd e b hb hk).only hs fun b hb hk => by subst hk; exact hGo i hi hb
  · by_cases ei : i = d
    · subst ei
      rw [upd_same, upd_other _ _ (fun e => hij e.symm)]
      intro b hb hb2
      rcases hx b hb with h3 | h3
      · exact h.2.2 i j hi hj hij b h3 hb2
      · have := ((h.2.1 j hj).lt b hb2).2; omega
    · by_cases ej : j = d
      · subst ej
        rw [upd_same, upd_other _ _ ei]
        intro b hb hb2
        rcases hx b hb2 with h3 | h3
        · exact h.2.2 i j hi hj hij b hb h3
        · have := ((h.2.1 i hi).lt b hb).2; omega
      · rw [upd_other _ _ ei, upd_other _ _ ej]
        exact h.2.2 i j hi hj hij
theorem inM_put {G c d : Nat} {x : Value} {k H : Nat} (hd : d < n) (hx : ∀ k, x.ownBlock = some k → (V d).ownBlock = some k ∨ H ≤ k) (hk : inM (.slice (some ⟨G, 0, none⟩) n c) n (upd V d x) k) : inM (.slice (some ⟨G, 0, none⟩) n c) n V k ∨ H ≤ k := by
  rcases hk with hk | ⟨i, hi, hk⟩
  · exact Or.inl (Or.inl hk)
  · by_cases e : i = d
    · subst e
      rw [upd_same] at hk
      rcases hx k hk with h | h
      · exact Or.inl (Or.inr ⟨i, hi, h⟩)
      · exact Or.inr h
    · rw [upd_other _ _ e] at hk
      exact Or.inl (Or.inr ⟨i, hi, hk⟩)
/-- A slice is appended. -/
theorem Mat.push {w3 w4 : World} (h : Mat w base v n V M) {x : Value} {L : List (Int × ByteArray)} (hr : Row w3 base x L) (ho : Only w w3 (fun _ => False)) (hx : ∀ k, x.ownBlock = some k → w.heap.size ≤ k)
    {v' : Value} (h1 : w4.ownsRow base 26 1 v' (n + 1) (vcells V n ++ [x])) (hg : Only w3 w4 (fun k => v.ownBlock = some k)) : Mat w4 base v' (n + 1) (upd V n x) (upd M n L) := by
  rw [vcells_push] at h1
  have hvr : ∀ k, v.ownBlock = some k → k < w.heap.size := fun k hk => (World.ownsRow.lt h.1 k hk).2
  refine ⟨h1, fun i hi => ?_, fun i j hi hj hij => ?_⟩
  · by_cases e : i = n
    · subst e
      rw [upd_same, upd_same]
      exact hr.only hg fun b hb e => by have := hx b hb; have := hvr b e; omega
    · rw [upd_other _ _ e, upd_other _ _ e]
      exact ((h.2.1 i (by omega)).only ho fun _ _ h => h).only hg fun b hb e2 => h.outer (i := i) (by omega) e2 hb
  · by_cases ei : i = n
    · subst ei
      rw [upd_same, upd_other _ _ (fun e => hij e.symm)]
      intro b hb hb2
      have := hx b hb
      have := ((h.2.1 j (by omega)).lt b hb2).2
      omega
    · by_cases ej : j = n
      · subst ej
        rw [upd_same, upd_other _ _ ei]
        intro b hb hb2
        have := hx b hb2
        have := ((h.2.1 i (by omega)).lt b hb).2
        omega
      · rw [upd_other _ _ ei, upd_other _ _ ej]
        exact h.2.2 i j (by omega) (by omega) hij
theorem Mat.congr {M' : Nat → List (Int × ByteArray)} (h : Mat w base v n V M) (e : ∀ i, i < n → M i = M' i) : Mat w base v n V M' := ⟨h.1, fun i hi => by rw [← e i hi]; exact h.2.1 i hi, h.2.2⟩
theorem Mat.nil (w : World) (base : Nat) (V : Nat → Value) (M : Nat → List (Int × ByteArray)) : Mat w base (.slice none 0 0) 0 V M := ⟨World.ownsRow_nil _ _ _ _, fun i hi => absurd hi (by omega), fun i j hi => absurd hi (by omega)⟩
end
theorem info_row : (Try.prog.info? 26).map (fun i => (i.zero, i.size, i.bytes)) = some (some (.slice none 0 0), 1, 24) := by kernel_rfl
theorem vcells_nil (n : Nat) : vcells (fun _ => Value.slice none 0 0) n = List.replicate n (.slice none 0 0) := by
  apply List.ext_getElem?
  intro i
  by_cases hi : i < n
  · rw [vcells_at _ hi]; simp [hi]
  · rw [List.getElem?_eq_none (by rw [vcells_length]; omega), List.getElem?_eq_none (by simp; omega)]
theorem mat_made (w : World) (n : Nat) (hn : n ≤ 1048576) (T : TypeId) (ht : Try.prog.underlying T = some (.slice 26)) (kl kc : IntKind) :
    (Instr.makeSlice T (.int kl (n : Int)) (.int kc (n : Int))).run Try.prog w = .ok (.slice (some ⟨w.heap.size, 0, none⟩) n n) (w.alloc (.cells (madeCells #[.slice none 0 0] n) 26)) ∧
    Mat (w.alloc (.cells (madeCells #[.slice none 0 0] n) 26)) w.heap.size (.slice (some ⟨w.heap.size, 0, none⟩) n n) n (fun _ => .slice none 0 0) (fun _ => []) := by
  obtain ⟨i0, hi, hz0, hz1, hz2⟩ := info_parts info_row
  have hr := run_make (P := Try.prog) w T 26 i0 _ ht hi hz0 kl kc n n (by omega) (Int.le_refl _) (by rw [hz2]; omega) (by omega)
  simp only [Int.toNat_natCast, hz1, Nat.mul_one] at hr
  refine ⟨hr, ?_, fun i hi => Row.nil _ _, fun i j _ _ _ => Apart.nil _⟩
  rw [vcells_nil]
  have := World.ownsRow_lit (base := w.heap.size) (e := 26) (size := 1) w (madeCells #[.slice none 0 0] n) n (Nat.le_refl _) (by unfold maxLen; omega) (by rw [size_madeCells]; omega)
  rw [toList_madeCells_one] at this
  exact this
end Go.Proofs.Ytekfjheaffkakaa

/-
  One slice of letters appended to another.
-/
namespace Go.Proofs.Ytekfjheaffkakaa
open Go.RowKit

theorem lcells_one : ∀ (L : List (Int × ByteArray)) (u : Value), u ∈ lcells L → u.oneCell' = true
  | [], _, h => by cases h
  | x :: L, u, h => by
    have h' : u ∈ (.int .i64 x.1 : Value) :: .string x.2 :: lcells L := h
    rcases List.mem_cons.1 h' with rfl | h'
    · rfl
    · rcases List.mem_cons.1 h' with rfl | h'
      · rfl
      · exact lcells_one L u h'
theorem lst_len (I : Nat → Int) (C : Nat → ByteArray) (n : Nat) : (M.lst I C n).length = n := by simp [M.lst]
theorem lst_get (I : Nat → Int) (C : Nat → ByteArray) (n i : Nat) (h : i < (M.lst I C n).length) : (M.lst I C n)[i] = (I i, C i) := by simp [M.lst]
theorem lcells_lst' (I : Nat → Int) (C : Nat → ByteArray) (n q : Nat) (h : q < n) : (lcells (M.lst I C n))[q * 2]? = some (.int .i64 (I q)) ∧ (lcells (M.lst I C n))[q * 2 + 1]? = some (.string (C q)) := by
  have hat := lcells_at (M.lst I C n) q (by rw [lst_len]; exact h)
  have e := lst_get I C n q (by rw [lst_len]; exact h)
  rw [e] at hat
  exact hat
theorem append_nil_src {P : Program} (w : World) (base : Nat) (t ty e : TypeId) (i : TypeInfo) (size : Nat) (ht : P.underlying t = some (.slice e)) (hi : P.info? e = some i)
    (v : Value) (n : Nat) (xs : List Value) (hown : w.ownsRow base e size v n xs) (c : Nat) : (Builtin.append_ #[t, t] ty #[v, .slice none 0 c]).run P w = .ok v w := by
  rcases hown.2 with ⟨rfl, rfl⟩ | ⟨g, cap, cur, rfl, _, _, hnc, _⟩
  · simp [Builtin.append_, run_underlying ht, sizeOf, typeInfo, hi, Builtin.lenOf, Builtin.firstCells]
  · simp [Builtin.append_, run_underlying ht, sizeOf, typeInfo, hi, Builtin.lenOf, Builtin.firstCells, hnc, storeCells]
theorem wpList_append_lts {ops : Array Oper} {rest : List Oper} {o : Oper} {a : Act} {Q : Exit → Act → World → Prop} (w : World) (hgd : o.guard = none) (s x : Operand)
    (ho : o.op = .call { callee := .builtin .append, args := #[s, x], argTypes := #[26, 26] })
    (base : Nat) (v : Value) (L : List (Int × ByteArray)) (hs : a.eval s = v) (hrow : Row w base v L) (a2 : Option Addr) (m c2 : Nat) (I : Nat → Int) (C : Nat → ByteArray) (hx : a.eval x = .slice a2 m c2) (hu : Lts w a2 m I C) (hl : L.length + m ≤ 4194304) (hbase : base ≤ w.heap.size)
    (K : ∀ v' w', Row w' base v' (L ++ M.lst I C m) → w.grownBy w' v.ownBlock → (v'.ownBlock = v.ownBlock ∨ v'.ownBlock = some w.heap.size) → wpList Try.prog ops Q rest (a.put o.dst v') w') :
    wpList Try.prog ops Q (o :: rest) a w := by
  obtain ⟨i0, hi, hz0, hz1, hz2⟩ := info_parts info_letter
  by_cases h0 : m = 0
  · subst h0
    have hnil : M.lst I C 0 = [] := rfl
    rw [hnil, List.append_nil] at K
    cases a2 with
    | none =>
      refine wpList_plain hgd fun K' hK => ?_
      have hrun := append_nil_src (P := Try.prog) w base 26 o.type 33 i0 2 Try.underlying26 hi v L.length (lcells L) hrow c2
      unfold Oper.wp
      simp [execOp, ho, resolve, invoke, builtin, hs, hx, hrun, Result.andThen]
      exact hK _ _ (K v w hrow (World.grownBy.refl w _) (Or.inl rfl))
    | some ad =>
      refine wpList_append_own_at w hgd s x 26 ho base 33 i0 _ 2 24 Try.underlying26 hi hz0 hz1 hz2 rfl (by decide) v L.length (lcells L) hs hrow ad 0 c2 [] hx rfl (fun j u hu => by simp at hu) (fun u hu => by cases hu) (by unfold maxLen; omega) (by omega) hbase ?_
      intro v' w' h1 h2 _ h3
      exact K v' w' (by unfold Row; simpa using h1) h2 h3
  · obtain ⟨b, o', e, _⟩ := hu 0 (by omega)
    subst e
    refine wpList_append_own_at w hgd s x 26 ho base 33 i0 _ 2 24 Try.underlying26 hi hz0 hz1 hz2 rfl (by decide) v L.length (lcells L) hs hrow ⟨b, o', none⟩ m c2 (lcells (M.lst I C m)) hx (by rw [lcells_length, lst_len]) ?_ (lcells_one _) (by unfold maxLen; omega) (by omega) hbase ?_
    · intro j u hj
      have hjl : j < m * 2 := by
        have := (List.getElem?_eq_some_iff.1 hj).1
        rw [lcells_length, lst_len] at this
        exact this
      have hadd : (⟨b, o', none⟩ : Addr).add j = ⟨b, o' + j, none⟩ := by unfold Addr.add; split <;> simp_all
      rw [hadd]
      obtain ⟨q, hq⟩ : ∃ q, j = q * 2 ∨ j = q * 2 + 1 := ⟨j / 2, by omega⟩
      rcases hq with rfl | rfl
      · obtain ⟨b', o2, e2, c0, c1⟩ := hu q (by omega)
        cases e2
        have hat := lcells_lst' I C m q (by omega)
        rw [← Option.some.inj (hat.1.symm.trans hj)]
        exact c0
      · obtain ⟨b', o2, e2, c0, c1⟩ := hu q (by omega)
        cases e2
        have hat := lcells_lst' I C m q (by omega)
        rw [← Option.some.inj (hat.2.symm.trans hj)]
        exact c1
    · intro v' w' h1 h2 _ h3
      refine K v' w' ?_ h2 h3
      unfold Row
      rw [List.length_append, lst_len, lcells_append]
      exact h1
theorem lst_nI (R : List (Int × ByteArray)) : M.lst (nI R) (nC R) R.length = R := by
  apply List.ext_getElem?
  intro i
  by_cases h : i < R.length
  · rw [List.getElem?_eq_getElem (by rw [lst_len]; exact h), lst_get, nI_at h, nC_at h, List.getElem?_eq_getElem h]
  · rw [List.getElem?_eq_none (by rw [lst_len]; omega), List.getElem?_eq_none (by omega)]
end Go.Proofs.Ytekfjheaffkakaa

/-
  Slices of numbers that came in: where they lie; their copy; whether all of them lie between bounds.
-/
namespace Go.Proofs.Ytekfjheaffkakaa
open Go.RowKit

/-- A slice of numbers. -/
def Nums (w : World) (a : Option Addr) (L : List Int) : Prop :=
  ∀ i, i < L.length → ∃ b o, a = some ⟨b, o, none⟩ ∧ w.cell? ⟨b, o + i, none⟩ = some (.int .i64 (MW.gz L i))
theorem Nums.lt {w : World} {a : Option Addr} {L : List Int} (h : Nums w a L) {b o : Nat} (ha : a = some ⟨b, o, none⟩) (h0 : 0 < L.length) : b < w.heap.size := by
  obtain ⟨b', o', e, hc⟩ := h 0 h0
  rw [ha] at e
  cases e
  exact World.block_lt_of_cell? _ _ hc
theorem Nums.on {w w' : World} {a : Option Addr} {L : List Int} (h : Nums w a L) (hb : Below w.heap.size w w') : Nums w' a L := by
  intro i hi
  obtain ⟨b, o, e, h1⟩ := h i hi
  have hl := World.block_lt_of_cell? _ _ h1
  exact ⟨b, o, e, (hb.cell (p := ⟨b, o + i, none⟩) hl).trans h1⟩
theorem IRow.nums {w : World} {base : Nat} {a : Option Addr} {n c : Nat} {L : List Int} (h : IRow w base (.slice a n c) L) : Nums w a L := by
  obtain ⟨a', c', e, _, hl⟩ := h.form
  injection e with e1 _ _
  subst e1
  intro i hi
  obtain ⟨b, e, c1⟩ := hl i hi
  exact ⟨b, 0, e, by rw [Nat.zero_add, MW.gz_at hi]; exact c1⟩
theorem IRow.at {w : World} {base g n c : Nat} {L : List Int} (h : IRow w base (.slice (some ⟨g, 0, none⟩) n c) L) (j : Nat) (hj : j < L.length) : w.cell? ⟨g, j, none⟩ = some (.int .i64 (MW.gz L j)) ∧ w.frozen? ⟨g, j, none⟩ = false := by
  have hn : n = L.length := by
    obtain ⟨a', c', e, _, _⟩ := h.form
    injection e
  subst hn
  exact ⟨by rw [World.ownsRow.cellAt h j (by omega), icells_at L j hj, MW.gz_at hj], World.ownsRow.frozenAt h j⟩
theorem make_ints (n : Nat) (hn : n ≤ 1048576) (w : World) :
    (Instr.makeSlice 56 (.int .i64 (n : Int)) (.int .i64 (n : Int))).run Try.prog w = .ok (.slice (some ⟨w.heap.size, 0, none⟩) n n) (w.alloc (.cells (madeCells #[.int .i64 0] n) 3)) := by
  obtain ⟨i, hi, hzz⟩ := Option.map_eq_some_iff.1 info_int
  simp only [Prod.mk.injEq] at hzz
  obtain ⟨hz, hs, hb⟩ := hzz
  have hr := run_make (P := Try.prog) w 56 3 i _ Try.underlying56 hi hz .i64 .i64 n n (by omega) (Int.le_refl _) (by rw [hb]; omega) (by omega)
  simp only [Int.toNat_natCast, hs, Nat.mul_one] at hr
  exact hr
theorem iown_made (w : World) (n : Nat) : (w.alloc (.cells (madeCells #[.int .i64 0] n) 3)).rowIs w.heap.size 3 n (fun _ => .int .i64 0) := World.rowIs_made w _ n _
theorem IRow.of_rowIs {w : World} {b n base : Nat} {L : List Int} {f : Nat → Value} (h : w.rowIs b 3 n f) (hL : L.length = n) (hf : ∀ i, i < n → f i = .int .i64 (MW.gz L i)) (hb : base ≤ b) (hn : n ≤ 1048576) : IRow w base (.slice (some ⟨b, 0, none⟩) n n) L := by
  obtain ⟨cur, hh, hs, hc⟩ := h
  unfold IRow
  rw [hL]
  refine ⟨by rw [icells_length, hL, Nat.mul_one], Or.inr ⟨b, n, cur, rfl, hb, hh, Nat.le_refl _, by unfold maxLen; omega, by omega, ?_⟩⟩
  rw [List.take_of_length_le (by rw [Array.length_toList]; omega)]
  apply List.ext_getElem?
  intro j
  by_cases hj : j < n
  · rw [Array.getElem?_toList, hc j hj, hf j hj, icells_at _ j (by omega), MW.gz_at (by omega)]
  · rw [List.getElem?_eq_none (by rw [Array.length_toList]; omega), List.getElem?_eq_none (by rw [icells_length]; omega)]
theorem irow_made (w : World) (n base : Nat) (hn : n ≤ 1048576) (hb : base ≤ w.heap.size) : IRow (w.alloc (.cells (madeCells #[.int .i64 0] n) 3)) base (.slice (some ⟨w.heap.size, 0, none⟩) n n) (List.replicate n 0) :=
  IRow.of_rowIs (iown_made w n) (by simp) (fun i hi => by rw [MW.gz_replicate]) hb hn

end Go.Proofs.Ytekfjheaffkakaa
