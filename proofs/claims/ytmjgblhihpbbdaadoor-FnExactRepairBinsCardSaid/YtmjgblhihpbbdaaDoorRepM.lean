/-
  Two rows that grow beside bins that are written: what the model's repair holds in memory.
-/
import Derived.Test.YtmjgblhihpbbdaaDoorTake
import Derived.Test.YtmjgblhihpbbdaaDoorPPass3
namespace Go.Proofs.YtmjgblhihpbbdaaDoor
open Go.RowKit
open Go.PlainAid (bt get_bt bt_nonneg bt_le)
set_option linter.unusedVariables false

/-- Bins up to k are full, the k-th has T, the others nothing. -/
def growTo (R : Nat → List (Int × ByteArray)) (k : Nat) (T : List (Int × ByteArray)) : Nat → List (Int × ByteArray) := fun i => if i < k then R i else if i = k then T else []
theorem growTo_zero (R : Nat → List (Int × ByteArray)) : growTo R 0 [] = fun _ => [] := by
  funext i
  unfold growTo
  rw [if_neg (Nat.not_lt_zero i)]
  split <;> rfl
theorem growTo_upd (R : Nat → List (Int × ByteArray)) (k : Nat) (T T' : List (Int × ByteArray)) : upd (growTo R k T) k T' = growTo R k T' := by
  funext i
  show (if i = k then T' else growTo R k T i) = growTo R k T' i
  by_cases e : i = k
  · subst e
    rw [if_pos rfl]
    unfold growTo
    rw [if_neg (Nat.lt_irrefl i), if_pos rfl]
  · rw [if_neg e]
    unfold growTo
    rw [if_neg e, if_neg e]
theorem growTo_at (R : Nat → List (Int × ByteArray)) (k : Nat) (T : List (Int × ByteArray)) : growTo R k T k = T := by
  unfold growTo
  rw [if_neg (Nat.lt_irrefl k), if_pos rfl]
theorem growTo_next (R : Nat → List (Int × ByteArray)) (k : Nat) : growTo R k (R k) = growTo R (k + 1) [] := by
  funext i
  unfold growTo
  by_cases h : i < k
  · rw [if_pos h, if_pos (by omega)]
  · rw [if_neg h]
    by_cases e : i = k
    · subst e
      rw [if_pos rfl, if_pos (by omega)]
    · rw [if_neg e, if_neg (by omega)]
      split <;> rfl
theorem growTo_all (R : Nat → List (Int × ByteArray)) (N : Nat) : ∀ i, i < N → growTo R N [] i = R i := fun i hi => by
  unfold growTo
  rw [if_pos hi]

/-- Bins out that the call has made, and two rows of its own apart from them and from each other. -/
structure RepS (w : World) (N : Nat) (x y z : Value) (wr : World) (V : Nat → Value) (q r : Value) (MM : Nat → List (Int × ByteArray)) (LQ LR : List (Int × ByteArray)) : Prop where
  mat : Mat wr (w.heap.size + 1) (.slice (some ⟨w.heap.size + 1, 0, none⟩) N N) N V MM
  row : Row wr (w.heap.size + 1) q LQ
  rest : Row wr (w.heap.size + 1) r LR
  aq : ∀ g, q.ownBlock = some g → ¬ inM (.slice (some ⟨w.heap.size + 1, 0, none⟩) N N) N V g
  ar : ∀ g, r.ownBlock = some g → ¬ inM (.slice (some ⟨w.heap.size + 1, 0, none⟩) N N) N V g
  qr : ∀ g, q.ownBlock = some g → r.ownBlock ≠ some g
  tri : Tri wr w.heap.size x y z
  bel : Below w.heap.size w wr

variable {w : World} {N : Nat} {x y z : Value} {wr : World} {V : Nat → Value} {q r : Value} {MM : Nat → List (Int × ByteArray)} {LQ LR : List (Int × ByteArray)}
theorem RepS.lt (h : RepS w N x y z wr V q r MM LQ LR) : w.heap.size + 1 < wr.heap.size := (h.mat.lt (k := w.heap.size + 1) (Or.inl rfl)).2
theorem RepS.swap (h : RepS w N x y z wr V q r MM LQ LR) : RepS w N x y z wr V r q MM LR LQ := ⟨h.mat, h.rest, h.row, h.ar, h.aq, fun g e e2 => h.qr g e2 e, h.tri, h.bel⟩
theorem RepS.on (h : RepS w N x y z wr V q r MM LQ LR) {w' : World} (hb : Below wr.heap.size wr w') : RepS w N x y z w' V q r MM LQ LR :=
  ⟨h.mat.on hb, h.row.on hb, h.rest.on hb, h.aq, h.ar, h.qr, h.tri.on hb, step h.bel hb⟩
theorem RepS.congr (h : RepS w N x y z wr V q r MM LQ LR) {M2 : Nat → List (Int × ByteArray)} (e : ∀ i, i < N → MM i = M2 i) : RepS w N x y z wr V q r M2 LQ LR :=
  ⟨h.mat.congr e, h.row, h.rest, h.aq, h.ar, h.qr, h.tri, h.bel⟩
/-- The row has grown. -/
theorem RepS.grow (h : RepS w N x y z wr V q r MM LQ LR) {w' : World} {q' : Value} {L' : List (Int × ByteArray)} (hr : Row w' (w.heap.size + 1) q' L') (ho : Only wr w' (fun g => some g = q.ownBlock)) (hq : q'.ownBlock = q.ownBlock ∨ ∃ g, q'.ownBlock = some g ∧ wr.heap.size ≤ g) : RepS w N x y z w' V q' r MM L' LR := by
  have lr := h.row.lt
  refine ⟨h.mat.only ho (fun g hg e => h.aq g e.symm hg), hr, h.rest.only ho (fun g hg e => h.qr g e.symm hg), ?_, h.ar, ?_, triOnly h.tri ho (fun e => by have := (lr _ e.symm).1; omega), h.bel.trans (ho.below (B := w.heap.size) (fun g hg _ e => by have := (lr _ e.symm).1; omega) h.bel.size)⟩
  · intro g eg hg
    rcases hq with e | ⟨g2, e, h2⟩
    · exact h.aq g (e ▸ eg) hg
    · rw [e] at eg
      have e3 := Option.some.inj eg
      have := (h.mat.lt hg).2
      omega
  · intro g eg e2
    rcases hq with e | ⟨g2, e, h2⟩
    · exact h.qr g (e ▸ eg) e2
    · rw [e] at eg
      have e3 := Option.some.inj eg
      have := (h.rest.lt g e2).2
      omega
/-- A letter has come into a bin. -/
theorem RepS.put (h : RepS w N x y z wr V q r MM LQ LR) {d : Nat} (hd : d < N) {w4 : World} {u : Value} {L' : List (Int × ByteArray)} (hr : Row w4 (w.heap.size + 1) u L') (ho : Only wr w4 (fun k => (V d).ownBlock = some k)) (hx : ∀ k, u.ownBlock = some k → (V d).ownBlock = some k ∨ wr.heap.size ≤ k) :
    RepS w N x y z (w4.setCell ⟨w.heap.size + 1, d, none⟩ u) (upd V d u) q r (upd MM d L') LQ LR := by
  have hm := h.mat
  have hO : Only wr (w4.setCell ⟨w.heap.size + 1, d, none⟩ u) (inM (.slice (some ⟨w.heap.size + 1, 0, none⟩) N N) N V) :=
    (ho.mono (T := inM (.slice (some ⟨w.heap.size + 1, 0, none⟩) N N) N V) (fun x _ e => Or.inr ⟨d, hd, e⟩)).trans (Only.set w4 ⟨w.heap.size + 1, d, none⟩ _ (S := inM (.slice (some ⟨w.heap.size + 1, 0, none⟩) N N) N V) (Or.inl rfl)) (fun _ _ h => h)
  refine ⟨hm.put hd hr ho hx, h.row.only hO (fun g e h2 => h.aq g e h2), h.rest.only hO (fun g e h2 => h.ar g e h2), ?_, ?_, h.qr, triOnly h.tri hO (fun e => by have := (hm.lt e).1; omega), below_only h.bel hm (by omega) hO⟩
  · intro g eg hg
    rcases inM_put hd hx hg with h1 | h1
    · exact h.aq g eg h1
    · have := (h.row.lt g eg).2
      omega
  · intro g eg hg
    rcases inM_put hd hx hg with h1 | h1
    · exact h.ar g eg h1
    · have := (h.rest.lt g eg).2
      omega
theorem RepS.lts {a : Option Addr} {m c : Nat} (h : RepS w N x y z wr V (.slice a m c) r MM LQ LR) (hm : LQ.length = m) : Lts wr a m (nI LQ) (nC LQ) := by
  obtain ⟨a', c', e, _, hl⟩ := h.row.form
  injection e with e1 e2 e3
  subst e1 e2
  exact hl
/-- What append leaves is stored into its place. -/
theorem RepS.app (h : RepS w N x y z wr V q r MM LQ LR) {d : Nat} (hd : d < N) {w4 : World} {a5 : Option Addr} {l cc g' cap : Nat} {i : Int} {s : ByteArray} {LL : List (Int × ByteArray)} (hv : V d = .slice a5 l cc) (hL : LL = MM d) (hl : LL.length = l)
    (hown : w4.ownsRow (w.heap.size + 1) 66 2 (.slice (some ⟨g', 0, none⟩) (l + 1) cap) (l + 1) (lcells LL ++ [.int .i64 i, .string s])) (o3 : Only wr w4 (fun k => (Value.slice a5 l cc).ownBlock = some k)) (hat : (Value.slice a5 l cc).ownBlock = some g' ∨ wr.heap.size ≤ g') :
    RepS w N x y z (w4.setCell ⟨w.heap.size + 1, d, none⟩ (.slice (some ⟨g', 0, none⟩) (l + 1) cap)) (upd V d (.slice (some ⟨g', 0, none⟩) (l + 1) cap)) q r (upd MM d (LL ++ [(i, s)])) LQ LR := by
  subst hL
  refine h.put hd (by unfold Row; rw [lcells_append, List.length_append, hl]; exact hown) (by rw [hv]; exact o3) (fun k hk => ?_)
  have e : g' = k := by simpa [Value.ownBlock] using hk
  subst e
  rw [hv]
  exact hat
/-- A bin as it is read. -/
theorem RepS.bin (h : RepS w N x y z wr V q r MM LQ LR) {d : Nat} (hd : d < N) : ∃ (a5 : Option Addr) (cc : Nat), V d = .slice a5 (MM d).length cc ∧ wr.cell? ⟨w.heap.size + 1, d, none⟩ = some (.slice a5 (MM d).length cc) ∧ wr.frozen? ⟨w.heap.size + 1, d, none⟩ = false ∧ wr.ownsRow (w.heap.size + 1) 66 2 (.slice a5 (MM d).length cc) (MM d).length (lcells (MM d)) ∧ (∀ k, (Value.slice a5 (MM d).length cc).ownBlock = some k → k ≠ w.heap.size + 1 ∧ w.heap.size + 1 ≤ k ∧ k < wr.heap.size) := by
  have hm := h.mat
  obtain ⟨a5, cc, hv, _, _⟩ := (hm.2.1 d hd).form
  obtain ⟨G', c', e1, g0, g1⟩ := hm.cell hd
  cases e1
  have hr := hm.2.1 d hd
  have hq : ∀ k, (V d).ownBlock = some k → k ≠ w.heap.size + 1 ∧ w.heap.size + 1 ≤ k ∧ k < wr.heap.size := fun k hk => ⟨fun e => by subst e; exact hm.outer hd rfl hk, (hm.lt (Or.inr ⟨d, hd, hk⟩)).1, (hm.lt (Or.inr ⟨d, hd, hk⟩)).2⟩
  rw [hv] at g0 hr hq
  exact ⟨a5, cc, hv, g0, g1, hr, hq⟩
end Go.Proofs.YtmjgblhihpbbdaaDoor
