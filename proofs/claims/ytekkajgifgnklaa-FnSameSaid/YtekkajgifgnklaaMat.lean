/-
  Slices of letters in a slice: what they hold, and what a store, an append, a new one does to them.
-/
import Derived.Test.YtekkajgifgnklaaMgA3
import Derived.Test.YtekkajgifgnklaaStr
import Derived.Laws.OwnMore
namespace Go.Proofs.Ytekkajgifgnklaa
open Go.RowKit

def upd {α : Type} (f : Nat → α) (d : Nat) (x : α) : Nat → α := fun i => if i = d then x else f i
theorem upd_same {α : Type} (f : Nat → α) (d : Nat) (x : α) : upd f d x d = x := if_pos rfl
theorem upd_other {α : Type} (f : Nat → α) {d i : Nat} (x : α) (h : i ≠ d) : upd f d x i = f i := if_neg h
def vcells (V : Nat → Value) (n : Nat) : List Value := (List.range n).map V
theorem vcells_length (V : Nat → Value) (n : Nat) : (vcells V n).length = n := by simp [vcells]
theorem vcells_at (V : Nat → Value) {n i : Nat} (h : i < n) : (vcells V n)[i]? = some (V i) := by simp [vcells, h]
theorem vcells_set (V : Nat → Value) {n d : Nat} (x : Value) : (vcells V n).set d x = vcells (upd V d x) n := by
  apply List.ext_getElem?
  intro i
  by_cases hi : i < n
  · rw [vcells_at _ hi, List.getElem?_set]
    by_cases e : d = i
    · subst e
      rw [if_pos rfl, if_pos (by rw [vcells_length]; exact hi), upd_same]
    · rw [if_neg e, vcells_at _ hi, upd_other _ _ (fun h => e h.symm)]
  · rw [List.getElem?_eq_none (by rw [List.length_set, vcells_length]; omega), List.getElem?_eq_none (by rw [vcells_length]; omega)]
theorem vcells_push (V : Nat → Value) (n : Nat) (x : Value) : vcells V n ++ [x] = vcells (upd V n x) (n + 1) := by
  unfold vcells
  rw [List.range_succ, List.map_append]
  congr 1
  · apply List.map_congr_left
    intro i hi
    rw [upd_other _ _ (by have := List.mem_range.1 hi; omega)]
  · simp [upd_same]
/-- n slices of letters, in a slice v of slices: the values V own the lists M, each in a block of its own. -/
def Mat (w : World) (base : Nat) (v : Value) (n : Nat) (V : Nat → Value) (M : Nat → List (Int × ByteArray)) : Prop :=
  w.ownsRow base 24 1 v n (vcells V n) ∧ (∀ i, i < n → Row w base (V i) (M i)) ∧ (∀ i j, i < n → j < n → i ≠ j → Apart (V i) (V j))
/-- The blocks of such slices. -/
def inM (v : Value) (n : Nat) (V : Nat → Value) (k : Nat) : Prop := v.ownBlock = some k ∨ ∃ i, i < n ∧ (V i).ownBlock = some k
section
variable {w w' : World} {base n : Nat} {v : Value} {V : Nat → Value} {M : Nat → List (Int × ByteArray)}
theorem Mat.lt (h : Mat w base v n V M) {k : Nat} (hk : inM v n V k) : base ≤ k ∧ k < w.heap.size := by
  rcases hk with hk | ⟨i, hi, hk⟩
  · exact World.ownsRow.lt h.1 k hk
  · exact (h.2.1 i hi).lt k hk
theorem Mat.form (h : Mat w base v n V M) : (v = .slice none 0 0 ∧ n = 0) ∨ ∃ g c, v = .slice (some ⟨g, 0, none⟩) n c ∧ base ≤ g ∧ g < w.heap.size ∧ n ≤ c := by
  rcases h.1.2 with ⟨rfl, hn⟩ | ⟨g, cap, cur, rfl, hb, hg, hc, _⟩
  · exact Or.inl ⟨rfl, hn⟩
  · exact Or.inr ⟨g, cap, rfl, hb, (Array.getElem?_eq_some_iff.1 hg).1, hc⟩
theorem Mat.outer (h : Mat w base v n V M) {i : Nat} (hi : i < n) {k : Nat} (hk : v.ownBlock = some k) : (V i).ownBlock ≠ some k := by
  intro he
  rcases h.1.2 with ⟨rfl, hn⟩ | ⟨g, cap, cur, rfl, hb, hg, _⟩
  · cases hk
  · have e1 : g = k := by simpa [Value.ownBlock] using hk
    subst e1
    rcases (h.2.1 i hi).2 with ⟨e2, _⟩ | ⟨g2, cap2, cur2, e2, _, hg2, _⟩
    · rw [e2] at he; cases he
    · rw [e2] at he
      have e3 : g2 = g := by simpa [Value.ownBlock] using he
      subst e3
      rw [hg] at hg2
      injection hg2 with hg2
      injection hg2 with _ ht
      exact absurd ht (by decide)
theorem Row.only {w w' : World} {base : Nat} {v : Value} {L : List (Int × ByteArray)} {S : Nat → Prop} (h : Row w base v L) (ho : Only w w' S) (hn : ∀ b, v.ownBlock = some b → ¬ S b) : Row w' base v L :=
  ownsRow_block h fun g hg => ho.block g (h.lt g hg).2 (hn g hg)
theorem Row.lower {w : World} {base base' : Nat} {v : Value} {L : List (Int × ByteArray)} (h : Row w base v L) (hb : base' ≤ base) : Row w base' v L := by
  refine ⟨h.1, ?_⟩
  rcases h.2 with ⟨rfl, hn⟩ | ⟨g, cap, cur, rfl, hbg, rest⟩
  · exact Or.inl ⟨rfl, hn⟩
  · exact Or.inr ⟨g, cap, cur, rfl, Nat.le_trans hb hbg, rest⟩
theorem one_row (w : World) : Row (w.alloc (.cells #[] 34)) w.heap.size (.slice (some ⟨w.heap.size, 0, none⟩) 0 0) [] :=
  World.ownsRow_lit (base := w.heap.size) (e := 34) (size := 2) w #[] 0 (Nat.le_refl _) (by unfold maxLen; omega) rfl
theorem Mat.only {S : Nat → Prop} (h : Mat w base v n V M) (ho : Only w w' S) (hn : ∀ k, inM v n V k → ¬ S k) : Mat w' base v n V M :=
  ⟨ownsRow_block h.1 fun g hg => ho.block g (h.lt (Or.inl hg)).2 (hn g (Or.inl hg)), fun i hi => (h.2.1 i hi).only ho fun b hb => hn b (Or.inr ⟨i, hi, hb⟩), h.2.2⟩
theorem Mat.on (h : Mat w base v n V M) (hb : Below w.heap.size w w') : Mat w' base v n V M := h.only (Only.new (S := fun _ => False) hb) fun _ _ h => h
theorem Mat.cell (h : Mat w base v n V M) {i : Nat} (hi : i < n) : ∃ g c, v = .slice (some ⟨g, 0, none⟩) n c ∧ w.cell? ⟨g, i, none⟩ = some (V i) ∧ w.frozen? ⟨g, i, none⟩ = false := by
  rcases h.form with ⟨_, hn⟩ | ⟨g, c, hv, _⟩
  · omega
  · subst hv
    exact ⟨g, c, rfl, by rw [World.ownsRow.cellAt h.1 i (by omega), vcells_at _ hi], World.ownsRow.frozenAt h.1 i⟩
theorem Mat.lower (h : Mat w base v n V M) {base' : Nat} (hb : base' ≤ base) : Mat w base' v n V M := by
  have k : ∀ {e : TypeId} {size m : Nat} {u : Value} {xs : List Value}, w.ownsRow base e size u m xs → w.ownsRow base' e size u m xs := by
    intro e size m u xs hx
    refine ⟨hx.1, ?_⟩
    rcases hx.2 with ⟨rfl, hn⟩ | ⟨g, cap, cur, rfl, hbg, rest⟩
    · exact Or.inl ⟨rfl, hn⟩
    · exact Or.inr ⟨g, cap, cur, rfl, Nat.le_trans hb hbg, rest⟩
  exact ⟨k h.1, fun i hi => k (h.2.1 i hi), h.2.2⟩
/-- A slice is laid into its place. -/
theorem Mat.put {w3 : World} {G c d : Nat} (h : Mat w base (.slice (some ⟨G, 0, none⟩) n c) n V M) (hd : d < n) {x : Value} {L : List (Int × ByteArray)} (hr : Row w3 base x L) (ho : Only w w3 (fun k => (V d).ownBlock = some k)) (hx : ∀ k, x.ownBlock = some k → (V d).ownBlock = some k ∨ w.heap.size ≤ k) :
    Mat (w3.setCell ⟨G, d, none⟩ x) base (.slice (some ⟨G, 0, none⟩) n c) n (upd V d x) (upd M d L) := by
  have hG := h.lt (k := G) (Or.inl rfl)
  have hGo : ∀ i, i < n → (V i).ownBlock ≠ some G := fun i hi => h.outer hi rfl
  have hs := Only.set w3 ⟨G, d, none⟩ x (S := fun k => k = G) rfl
  have h1 : w3.ownsRow base 24 1 (.slice (some ⟨G, 0, none⟩) n c) n (vcells V n) := ownsRow_block h.1 fun g hg => by
    have e1 : G = g := by simpa [Value.ownBlock] using hg
    subst e1
    exact ho.block G hG.2 (hGo d hd)
  have h2 := (World.ownsRow.stored h1 d x).1
  rw [vcells_set V x] at h2
  refine ⟨h2, fun i hi => ?_, fun i j hi hj hij => ?_⟩
  · by_cases e : i = d
    · subst e
      rw [upd_same, upd_same]
      refine hr.only hs fun b hb e => ?_
      subst e
      rcases hx _ hb with h3 | h3
      · exact hGo i hi h3
      · omega
    · rw [upd_other _ _ e, upd_other _ _ e]
      exact ((h.2.1 i hi).only ho fun b hb hk => h.2.2 i d hi hd e b hb hk).only hs fun b hb hk => by subst hk; exact hGo i hi hb
  · by_cases ei : i = d
    · subst ei
      rw [upd_same, upd_other _ _ (fun e => hij e.symm)]
      intro b hb hb2
      rcases hx b hb with h3 | h3
      · exact h.2.2 i j hi hj hij b h3 hb2
      · have := ((h.2.1 j hj).lt b hb2).2; omega
    · by_cases ej : j = d
      · subst ej
        rw [upd_same, upd_other _ _ ei]
        intro b hb hb2
        rcases hx b hb2 with h3 | h3
        · exact h.2.2 i j hi hj hij b hb h3
        · have := ((h.2.1 i hi).lt b hb).2; omega
      · rw [upd_other _ _ ei, upd_other _ _ ej]
        exact h.2.2 i j hi hj hij
theorem inM_put {G c d : Nat} {x : Value} {k H : Nat} (hd : d < n) (hx : ∀ k, x.ownBlock = some k → (V d).ownBlock = some k ∨ H ≤ k) (hk : inM (.slice (some ⟨G, 0, none⟩) n c) n (upd V d x) k) : inM (.slice (some ⟨G, 0, none⟩) n c) n V k ∨ H ≤ k := by
  rcases hk with hk | ⟨i, hi, hk⟩
  · exact Or.inl (Or.inl hk)
  · by_cases e : i = d
    · subst e
      rw [upd_same] at hk
      rcases hx k hk with h | h
      · exact Or.inl (Or.inr ⟨i, hi, h⟩)
      · exact Or.inr h
    · rw [upd_other _ _ e] at hk
      exact Or.inl (Or.inr ⟨i, hi, hk⟩)
/-- A slice is appended. -/
theorem Mat.push {w3 w4 : World} (h : Mat w base v n V M) {x : Value} {L : List (Int × ByteArray)} (hr : Row w3 base x L) (ho : Only w w3 (fun _ => False)) (hx : ∀ k, x.ownBlock = some k → w.heap.size ≤ k)
    {v' : Value} (h1 : w4.ownsRow base 24 1 v' (n + 1) (vcells V n ++ [x])) (hg : Only w3 w4 (fun k => v.ownBlock = some k)) : Mat w4 base v' (n + 1) (upd V n x) (upd M n L) := by
  rw [vcells_push] at h1
  have hvr : ∀ k, v.ownBlock = some k → k < w.heap.size := fun k hk => (World.ownsRow.lt h.1 k hk).2
  refine ⟨h1, fun i hi => ?_, fun i j hi hj hij => ?_⟩
  · by_cases e : i = n
    · subst e
      rw [upd_same, upd_same]
      exact hr.only hg fun b hb e => by have := hx b hb; have := hvr b e; omega
    · rw [upd_other _ _ e, upd_other _ _ e]
      exact ((h.2.1 i (by omega)).only ho fun _ _ h => h).only hg fun b hb e2 => h.outer (i := i) (by omega) e2 hb
  · by_cases ei : i = n
    · subst ei
      rw [upd_same, upd_other _ _ (fun e => hij e.symm)]
      intro b hb hb2
      have := hx b hb
      have := ((h.2.1 j (by omega)).lt b hb2).2
      omega
    · by_cases ej : j = n
      · subst ej
        rw [upd_same, upd_other _ _ ei]
        intro b hb hb2
        have := hx b hb2
        have := ((h.2.1 i (by omega)).lt b hb).2
        omega
      · rw [upd_other _ _ ei, upd_other _ _ ej]
        exact h.2.2 i j (by omega) (by omega) hij
theorem Mat.congr {M' : Nat → List (Int × ByteArray)} (h : Mat w base v n V M) (e : ∀ i, i < n → M i = M' i) : Mat w base v n V M' := ⟨h.1, fun i hi => by rw [← e i hi]; exact h.2.1 i hi, h.2.2⟩
theorem Mat.nil (w : World) (base : Nat) (V : Nat → Value) (M : Nat → List (Int × ByteArray)) : Mat w base (.slice none 0 0) 0 V M := ⟨World.ownsRow_nil _ _ _ _, fun i hi => absurd hi (by omega), fun i j hi => absurd hi (by omega)⟩
end
theorem info_row : (Try.prog.info? 24).map (fun i => (i.zero, i.size, i.bytes)) = some (some (.slice none 0 0), 1, 24) := by kernel_rfl
theorem vcells_nil (n : Nat) : vcells (fun _ => Value.slice none 0 0) n = List.replicate n (.slice none 0 0) := by
  apply List.ext_getElem?
  intro i
  by_cases hi : i < n
  · rw [vcells_at _ hi]; simp [hi]
  · rw [List.getElem?_eq_none (by rw [vcells_length]; omega), List.getElem?_eq_none (by simp; omega)]
theorem mat_made (w : World) (n : Nat) (hn : n ≤ 1048576) (T : TypeId) (ht : Try.prog.underlying T = some (.slice 24)) (kl kc : IntKind) :
    (Instr.makeSlice T (.int kl (n : Int)) (.int kc (n : Int))).run Try.prog w = .ok (.slice (some ⟨w.heap.size, 0, none⟩) n n) (w.alloc (.cells (madeCells #[.slice none 0 0] n) 24)) ∧
    Mat (w.alloc (.cells (madeCells #[.slice none 0 0] n) 24)) w.heap.size (.slice (some ⟨w.heap.size, 0, none⟩) n n) n (fun _ => .slice none 0 0) (fun _ => []) := by
  obtain ⟨i0, hi, hz0, hz1, hz2⟩ := info_parts info_row
  have hr := run_make (P := Try.prog) w T 24 i0 _ ht hi hz0 kl kc n n (by omega) (Int.le_refl _) (by rw [hz2]; omega) (by omega)
  simp only [Int.toNat_natCast, hz1, Nat.mul_one] at hr
  refine ⟨hr, ?_, fun i hi => Row.nil _ _, fun i j _ _ _ => Apart.nil _⟩
  rw [vcells_nil]
  have := World.ownsRow_lit (base := w.heap.size) (e := 24) (size := 1) w (madeCells #[.slice none 0 0] n) n (Nat.le_refl _) (by unfold maxLen; omega) (by rw [size_madeCells]; omega)
  rw [toList_madeCells_one] at this
  exact this
end Go.Proofs.Ytekkajgifgnklaa
