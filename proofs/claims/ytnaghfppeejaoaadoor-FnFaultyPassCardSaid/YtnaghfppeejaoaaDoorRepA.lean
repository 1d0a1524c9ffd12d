/-
  Two rows that grow beside bins that are written: what the model's repair holds in memory.
-/
import Derived.Test.YtnaghfppeejaoaaDoorPutA
import Derived.Test.YtnaghfppeejaoaaDoorPassA
namespace Go.Proofs.YtnaghfppeejaoaaDoor
open Go.RowKit
open Go.PlainAid (bt get_bt bt_nonneg bt_le)
set_option linter.unusedVariables false

/-- Bins up to k are full, the k-th has T, the others nothing. -/
def growTo (R : Nat → List (Int × ByteArray)) (k : Nat) (T : List (Int × ByteArray)) : Nat → List (Int × ByteArray) := fun i => if i < k then R i else if i = k then T else []
theorem growTo_zero (R : Nat → List (Int × ByteArray)) : growTo R 0 [] = fun _ => [] := by
  funext i
  unfold growTo
  rw [if_neg (Nat.not_lt_zero i)]
  split <;> rfl
theorem growTo_upd (R : Nat → List (Int × ByteArray)) (k : Nat) (T T' : List (Int × ByteArray)) : upd (growTo R k T) k T' = growTo R k T' := by
  funext i
  show (if i = k then T' else growTo R k T i) = growTo R k T' i
  by_cases e : i = k
  · subst e
    rw [if_pos rfl]
    unfold growTo
    rw [if_neg (Nat.lt_irrefl i), if_pos rfl]
  · rw [if_neg e]
    unfold growTo
    rw [if_neg e, if_neg e]
theorem growTo_at (R : Nat → List (Int × ByteArray)) (k : Nat) (T : List (Int × ByteArray)) : growTo R k T k = T := by
  unfold growTo
  rw [if_neg (Nat.lt_irrefl k), if_pos rfl]
theorem growTo_next (R : Nat → List (Int × ByteArray)) (k : Nat) : growTo R k (R k) = growTo R (k + 1) [] := by
  funext i
  unfold growTo
  by_cases h : i < k
  · rw [if_pos h, if_pos (by omega)]
  · rw [if_neg h]
    by_cases e : i = k
    · subst e
      rw [if_pos rfl, if_pos (by omega)]
    · rw [if_neg e, if_neg (by omega)]
      split <;> rfl
theorem growTo_all (R : Nat → List (Int × ByteArray)) (N : Nat) : ∀ i, i < N → growTo R N [] i = R i := fun i hi => by
  unfold growTo
  rw [if_pos hi]

/-- Bins out that the call has made, and two rows of its own apart from them and from each other. -/
structure RepS (w : World) (N : Nat) (x y z : Value) (wr : World) (V : Nat → Value) (q r : Value) (MM : Nat → List (Int × ByteArray)) (LQ LR : List (Int × ByteArray)) : Prop where
  mat : Mat wr (w.heap.size + 1) (.slice (some ⟨w.heap.size + 1, 0, none⟩) N N) N V MM
  row : Row wr (w.heap.size + 1) q LQ
  rest : Row wr (w.heap.size + 1) r LR
  aq : ∀ g, q.ownBlock = some g → ¬ inM (.slice (some ⟨w.heap.size + 1, 0, none⟩) N N) N V g
  ar : ∀ g, r.ownBlock = some g → ¬ inM (.slice (some ⟨w.heap.size + 1, 0, none⟩) N N) N V g
  qr : ∀ g, q.ownBlock = some g → r.ownBlock ≠ some g
  tri : Tri wr w.heap.size x y z
  bel : Below w.heap.size w wr

variable {w : World} {N : Nat} {x y z : Value} {wr : World} {V : Nat → Value} {q r : Value} {MM : Nat → List (Int × ByteArray)} {LQ LR : List (Int × ByteArray)}
theorem RepS.lt (h : RepS w N x y z wr V q r MM LQ LR) : w.heap.size + 1 < wr.heap.size := (h.mat.lt (k := w.heap.size + 1) (Or.inl rfl)).2
theorem RepS.swap (h : RepS w N x y z wr V q r MM LQ LR) : RepS w N x y z wr V r q MM LR LQ := ⟨h.mat, h.rest, h.row, h.ar, h.aq, fun g e e2 => h.qr g e2 e, h.tri, h.bel⟩
theorem RepS.on (h : RepS w N x y z wr V q r MM LQ LR) {w' : World} (hb : Below wr.heap.size wr w') : RepS w N x y z w' V q r MM LQ LR :=
  ⟨h.mat.on hb, h.row.on hb, h.rest.on hb, h.aq, h.ar, h.qr, h.tri.on hb, step h.bel hb⟩
theorem RepS.congr (h : RepS w N x y z wr V q r MM LQ LR) {M2 : Nat → List (Int × ByteArray)} (e : ∀ i, i < N → MM i = M2 i) : RepS w N x y z wr V q r M2 LQ LR :=
  ⟨h.mat.congr e, h.row, h.rest, h.aq, h.ar, h.qr, h.tri, h.bel⟩
/-- The row has grown. -/
theorem RepS.grow (h : RepS w N x y z wr V q r MM LQ LR) {w' : World} {q' : Value} {L' : List (Int × ByteArray)} (hr : Row w' (w.heap.size + 1) q' L') (ho : Only wr w' (fun g => some g = q.ownBlock)) (hq : q'.ownBlock = q.ownBlock ∨ ∃ g, q'.ownBlock = some g ∧ wr.heap.size ≤ g) : RepS w N x y z w' V q' r MM L' LR := by
  have lr := h.row.lt
  refine ⟨h.mat.only ho (fun g hg e => h.aq g e.symm hg), hr, h.rest.only ho (fun g hg e => h.qr g e.symm hg), ?_, h.ar, ?_, triOnly h.tri ho (fun e => by have := (lr _ e.symm).1; omega), h.bel.trans (ho.below (B := w.heap.size) (fun g hg _ e => by have := (lr _ e.symm).1; omega) h.bel.size)⟩
  · intro g eg hg
    rcases hq with e | ⟨g2, e, h2⟩
    · exact h.aq g (e ▸ eg) hg
    · rw [e] at eg
      have e3 := Option.some.inj eg
      have := (h.mat.lt hg).2
      omega
  · intro g eg e2
    rcases hq with e | ⟨g2, e, h2⟩
    · exact h.qr g (e ▸ eg) e2
    · rw [e] at eg
      have e3 := Option.some.inj eg
      have := (h.rest.lt g e2).2
      omega
/-- A letter has come into a bin. -/
theorem RepS.put (h : RepS w N x y z wr V q r MM LQ LR) {d : Nat} (hd : d < N) {w4 : World} {u : Value} {L' : List (Int × ByteArray)} (hr : Row w4 (w.heap.size + 1) u L') (ho : Only wr w4 (fun k => (V d).ownBlock = some k)) (hx : ∀ k, u.ownBlock = some k → (V d).ownBlock = some k ∨ wr.heap.size ≤ k) :
    RepS w N x y z (w4.setCell ⟨w.heap.size + 1, d, none⟩ u) (upd V d u) q r (upd MM d L') LQ LR := by
  have hm := h.mat
  have hO : Only wr (w4.setCell ⟨w.heap.size + 1, d, none⟩ u) (inM (.slice (some ⟨w.heap.size + 1, 0, none⟩) N N) N V) :=
    (ho.mono (T := inM (.slice (some ⟨w.heap.size + 1, 0, none⟩) N N) N V) (fun x _ e => Or.inr ⟨d, hd, e⟩)).trans (Only.set w4 ⟨w.heap.size + 1, d, none⟩ _ (S := inM (.slice (some ⟨w.heap.size + 1, 0, none⟩) N N) N V) (Or.inl rfl)) (fun _ _ h => h)
  refine ⟨hm.put hd hr ho hx, h.row.only hO (fun g e h2 => h.aq g e h2), h.rest.only hO (fun g e h2 => h.ar g e h2), ?_, ?_, h.qr, triOnly h.tri hO (fun e => by have := (hm.lt e).1; omega), below_only h.bel hm (by omega) hO⟩
  · intro g eg hg
    rcases inM_put hd hx hg with h1 | h1
    · exact h.aq g eg h1
    · have := (h.row.lt g eg).2
      omega
  · intro g eg hg
    rcases inM_put hd hx hg with h1 | h1
    · exact h.ar g eg h1
    · have := (h.rest.lt g eg).2
      omega
theorem RepS.lts {a : Option Addr} {m c : Nat} (h : RepS w N x y z wr V (.slice a m c) r MM LQ LR) (hm : LQ.length = m) : Lts wr a m (nI LQ) (nC LQ) := by
  obtain ⟨a', c', e, _, hl⟩ := h.row.form
  injection e with e1 e2 e3
  subst e1 e2
  exact hl
/-- What append leaves is stored into its place. -/
theorem RepS.app (h : RepS w N x y z wr V q r MM LQ LR) {d : Nat} (hd : d < N) {w4 : World} {a5 : Option Addr} {l cc g' cap : Nat} {i : Int} {s : ByteArray} {LL : List (Int × ByteArray)} (hv : V d = .slice a5 l cc) (hL : LL = MM d) (hl : LL.length = l)
    (hown : w4.ownsRow (w.heap.size + 1) 37 2 (.slice (some ⟨g', 0, none⟩) (l + 1) cap) (l + 1) (lcells LL ++ [.int .i64 i, .string s])) (o3 : Only wr w4 (fun k => (Value.slice a5 l cc).ownBlock = some k)) (hat : (Value.slice a5 l cc).ownBlock = some g' ∨ wr.heap.size ≤ g') :
    RepS w N x y z (w4.setCell ⟨w.heap.size + 1, d, none⟩ (.slice (some ⟨g', 0, none⟩) (l + 1) cap)) (upd V d (.slice (some ⟨g', 0, none⟩) (l + 1) cap)) q r (upd MM d (LL ++ [(i, s)])) LQ LR := by
  subst hL
  refine h.put hd (by unfold Row; rw [lcells_append, List.length_append, hl]; exact hown) (by rw [hv]; exact o3) (fun k hk => ?_)
  have e : g' = k := by simpa [Value.ownBlock] using hk
  subst e
  rw [hv]
  exact hat
/-- A bin as it is read. -/
theorem RepS.bin (h : RepS w N x y z wr V q r MM LQ LR) {d : Nat} (hd : d < N) : ∃ (a5 : Option Addr) (cc : Nat), V d = .slice a5 (MM d).length cc ∧ wr.cell? ⟨w.heap.size + 1, d, none⟩ = some (.slice a5 (MM d).length cc) ∧ wr.frozen? ⟨w.heap.size + 1, d, none⟩ = false ∧ wr.ownsRow (w.heap.size + 1) 37 2 (.slice a5 (MM d).length cc) (MM d).length (lcells (MM d)) ∧ (∀ k, (Value.slice a5 (MM d).length cc).ownBlock = some k → k ≠ w.heap.size + 1 ∧ w.heap.size + 1 ≤ k ∧ k < wr.heap.size) := by
  have hm := h.mat
  obtain ⟨a5, cc, hv, _, _⟩ := (hm.2.1 d hd).form
  obtain ⟨G', c', e1, g0, g1⟩ := hm.cell hd
  cases e1
  have hr := hm.2.1 d hd
  have hq : ∀ k, (V d).ownBlock = some k → k ≠ w.heap.size + 1 ∧ w.heap.size + 1 ≤ k ∧ k < wr.heap.size := fun k hk => ⟨fun e => by subst e; exact hm.outer hd rfl hk, (hm.lt (Or.inr ⟨d, hd, hk⟩)).1, (hm.lt (Or.inr ⟨d, hd, hk⟩)).2⟩
  rw [hv] at g0 hr hq
  exact ⟨a5, cc, hv, g0, g1, hr, hq⟩
end Go.Proofs.YtnaghfppeejaoaaDoor

/-
  Repair of the model: wrong letters are put behind those of their bins.
-/
namespace Go.Proofs.YtnaghfppeejaoaaDoor
open Go.RowKit
open Go.PlainAid (bt get_bt bt_nonneg bt_le)
set_option linter.unusedVariables false

set_option maxHeartbeats 4000000 in
set_option maxRecDepth 100000 in
theorem spec_l7Repair (w : World) (b p : Int) (a : Option Addr) (n c : Nat) (S : Nat → ByteArray) (h : Strs w a n S) (hn : n ≤ 1048576) (x : Nat) (s1 : 2 ≤ b) (s2 : b ≤ 16) (hx : x ≤ 3) (base : Nat) (v : Value) (N : Nat) (V0 : Nat → Value) (MM : Nat → List (Int × ByteArray)) (hm : Mat w base v N V0 MM) (hN : 2 ≤ N ∧ N ≤ 16 ∧ (N : Int) = b) (h60 : (M.flat MM N).length ≤ 60) :
    Calls Tryd.prog 78 #[.agg #[.int .i64 b, .int .i64 p, .slice a n c], v, .int .i64 x] w
      (TwoOut w N (repM b n S x MM N) (repL b n S x MM N)) := by
  obtain ⟨u, c2, hv⟩ : ∃ u c, v = .slice u N c := by
    rcases hm.form with ⟨rfl, rfl⟩ | ⟨g, c, rfl, _⟩
    · exact ⟨_, _, rfl⟩
    · exact ⟨_, _, rfl⟩
  subst hv
  have hlen : Hid (∀ i, i < N → (MM i).length ≤ 60) := fun i hi => Nat.le_trans (flat_le MM hi) h60
  have hwl : Hid (∀ i, i ≤ N → (M.flat (wrongL b n S x MM) i).length ≤ 60) := fun i hi => Nat.le_trans (flat_sub (fun k => List.length_filter_le _ _) i) (Nat.le_trans (flat_mono MM hi) h60)
  have HRB := Lib.hid (fun W (hW : Below w.heap.size w W) s => spec_l3Bin W b p a n c S (h.on hW) hn s x s1 s2 hx)
  have HM := Lib.hid hm
  have bx := Lib.hid (tri_made w (.int .i64 b) (.int .i64 p) (.slice a n c) 25)
  obtain ⟨CC, hCC⟩ : ∃ CC, madeCells #[Value.slice none 0 0] N = CC := ⟨_, rfl⟩
  have hmm := fun W => mat_made W N (by omega) 30 Tryd.underlying30 .i64 .i64
  rw [hCC] at hmm
  have hmk : ∀ W : World, (Instr.makeSlice 30 (.int .i64 (N : Int)) (.int .i64 (N : Int))).run Tryd.prog W = .ok (.slice (some ⟨W.heap.size, 0, none⟩) N N) (W.alloc (.cells CC 26)) := fun W => (hmm W).1
  obtain ⟨w4, hw4⟩ : ∃ w4, (((w.alloc (.cells #[.int .i64 b, .int .i64 p, .slice a n c] 25)).alloc (.cells CC 26)).alloc (.cells #[] 37)).alloc (.cells #[] 37) = w4 := ⟨_, rfl⟩
  have E0 : Hid (RepS w N (.int .i64 b) (.int .i64 p) (.slice a n c) w4 (fun _ => .slice none 0 0) (.slice (some ⟨w.heap.size + 2, 0, none⟩) 0 0) (.slice (some ⟨w.heap.size + 3, 0, none⟩) 0 0) (fun _ => []) [] []) := by
    obtain ⟨w1, hw1⟩ : ∃ w1, w.alloc (.cells #[.int .i64 b, .int .i64 p, .slice a n c] 25) = w1 := ⟨_, rfl⟩
    have hz1 : w1.heap.size = w.heap.size + 1 := by rw [← hw1]; simp
    rw [hw1] at hw4
    have hm1 := (hmm w1).2
    have r2 := one_row (w1.alloc (.cells CC 26))
    have r3 := one_row ((w1.alloc (.cells CC 26)).alloc (.cells #[] 37))
    simp only [World.size_alloc, hz1] at hm1 r2 r3
    have k2 := below_alloc0 (w1.alloc (.cells CC 26)) (.cells #[] 37)
    have k3 := below_alloc0 ((w1.alloc (.cells CC 26)).alloc (.cells #[] 37)) (.cells #[] 37)
    have k23 := Below.trans k2 (k3.mono (by simp))
    rw [hw4] at r3 k3 k23
    have k0 := below_alloc0 w (.cells #[.int .i64 b, .int .i64 p, .slice a n c] 25)
    have k1 := below_alloc0 w1 (.cells CC 26)
    have bx1 := bx.out
    rw [hw1] at k0 bx1
    refine ⟨hm1.on (by simpa [hz1] using k23), (r2.on (by simpa [hz1] using k3)).lower (by omega), r3.lower (by omega), ?_, ?_, ?_, (bx1.on k1).on (by simpa [hz1] using k23), (k0.trans (k1.mono (by omega))).trans (k23.mono (by rw [World.size_alloc, hz1]; omega))⟩
    · intro g e hg
      have e2 : w.heap.size + 2 = g := by simpa [Value.ownBlock] using e
      rcases hg with e3 | ⟨i, hi, e3⟩
      · have : w.heap.size + 1 = g := by simpa [Value.ownBlock] using e3
        omega
      · simp [Value.ownBlock] at e3
    · intro g e hg
      have e2 : w.heap.size + 3 = g := by simpa [Value.ownBlock] using e
      rcases hg with e3 | ⟨i, hi, e3⟩
      · have : w.heap.size + 1 = g := by simpa [Value.ownBlock] using e3
        omega
      · simp [Value.ownBlock] at e3
    · intro g e e4
      have e2 : w.heap.size + 2 = g := by simpa [Value.ownBlock] using e
      have e3 : w.heap.size + 3 = g := by simpa [Value.ownBlock] using e4
      omega
  have HW4 := Lib.hid hw4
  obtain ⟨i0, hi, hz0, hz1', hz4⟩ := info_parts info_letter
  obtain ⟨⟨t0, t1, t2⟩, _⟩ := bx.out
  obtain ⟨hN2, hN16, hNb⟩ := hN
  have hRL : Hid (∀ k : Nat, M.withF (rightB b n S x (k : Int)) (M.lst (nI (MM k)) (nC (MM k)) (MM k).length) = rightL b n S x MM k ∧ M.sansF (rightB b n S x (k : Int)) (M.lst (nI (MM k)) (nC (MM k)) (MM k).length) = wrongL b n S x MM k) := fun k => by rw [lst_nI]; exact ⟨rfl, rfl⟩
  have hRlen : Hid (∀ k, k < N → (rightL b n S x MM k).length ≤ 60) := fun k hk => Nat.le_trans (List.length_filter_le _ _) (hlen.out k hk)
  unfold repM repL
  obtain ⟨RL, hRLe⟩ : ∃ RL, rightL b n S x MM = RL := ⟨_, rfl⟩
  obtain ⟨WL, hWLe⟩ : ∃ WL, wrongL b n S x MM = WL := ⟨_, rfl⟩
  rw [hRLe, hWLe] at hRL
  rw [hWLe] at hwl ⊢
  rw [hRLe] at hRlen ⊢
  have HFS : Hid (∀ k, M.flat WL (k + 1) = M.flat WL k ++ WL k) := fun k => rfl
  have HF0 : Hid (M.flat WL 0 = []) := rfl
  have HDUE : Hid (∀ s q, rightB b n S x q s = (dueBin b n S x s == q)) := fun _ _ => rfl
  have HKEY := Lib.hid (fun (C : Nat → ByteArray) k => dueBin_key b n S C x k s1)
  have HKB : Hid (∀ (C : Nat → ByteArray) k d, M.planKey b n S C x k = some d → d < N) := fun C k d hd => by have := planKey_bd s1 hd; omega
  have HRB2 : Hid (∀ W, Below w.heap.size w W → ∀ s, Calls Tryd.prog 60 #[.agg #[.int .i64 b, .int .i64 p, .slice a n c], .string s, .int .i64 x] W fun e w' => e = .returned (.int .i64 (dueBin b n S x s)) ∧ Below W.heap.size W w') := fun W hW s => HRB.out W hW s
  have HNB := Lib.hid hNb
  clear h hm hmm hCC hw4 bx h60 hRLe hWLe HRB hNb
  go_enter Tryd.func78, Tryd.ntmps78
  go_wp2
  rw [HW4.out]
  go_loopw [9, 11] (fun q i wr => ∃ (k : Nat) (V : Nat → Value), k ≤ N ∧ i = .int .i64 k ∧ Hid (RepS w N (.int .i64 b) (.int .i64 p) (.slice a n c) wr V q (.slice (some ⟨w.heap.size + 3, 0, none⟩) 0 0) (growTo RL k []) (M.flat WL k) [])) (fun _ i _ => N - (intOf i).toNat)
  case atStart => exact ⟨0, _, Nat.zero_le _, rfl, by rw [HF0.out, growTo_zero]; exact E0.out⟩
  case round =>
    obtain ⟨k, V, hk, rfl, hR⟩ := hrel
    have hzl := hR.out.lt
    by_cases hlt : k < N
    · obtain ⟨a2, l, hVk, hlc, hlts⟩ := (HM.out.2.1 k hlt).form
      obtain ⟨G, c', e1, g0, g1⟩ := HM.out.cell hlt
      have hGw := World.block_lt_of_cell? _ _ g0
      cases e1
      obtain ⟨L, hL⟩ : ∃ L, MM k = L := ⟨_, rfl⟩
      obtain ⟨hr1, hr2⟩ := hRL.out k
      have hl60 := hlen.out k hlt
      have hw60 := hwl.out k (by omega)
      have hw61 := hwl.out (k + 1) (by omega)
      rw [HFS.out, List.length_append] at hw61
      rw [hL] at hlts hlc hl60 hr1 hr2
      obtain ⟨nl, hnl⟩ : ∃ nl, L.length = nl := ⟨_, rfl⟩
      have HNL := Lib.hid hnl
      rw [hL, hnl] at hVk
      rw [hnl] at hlts hl60 hlc hr1 hr2
      have HR1 := Lib.hid hr1
      have HR2 := Lib.hid hr2
      rw [hVk] at g0
      have G0 : wr.cell? ⟨G, k, none⟩ = some (.slice a2 nl l) := (hR.out.bel.cell (p := ⟨G, k, none⟩) hGw).trans g0
      have HLT := Lib.hid hlts
      have hki : (k : Int) < (N : Int) := by omega
      have hk0 : (0 : Int) ≤ (k : Int) := by omega
      have hbl : Hid (∀ g o, a2 = some ⟨g, o, none⟩ → 0 < nl → g < w.heap.size) := fun g o e h0 => hlts.lt e h0
      have HG0 := Lib.hid g0
      clear t0 t1 t2 g0 g1 hlts hnl hL hVk hr1 hr2
      go_wp2
      go_loopw [9, 12] (fun q i wr => ∃ (j : Nat) (V : Nat → Value), j ≤ nl ∧ i = .int .i64 j ∧ Hid (RepS w N (.int .i64 b) (.int .i64 p) (.slice a n c) wr V q (.slice (some ⟨w.heap.size + 3, 0, none⟩) 0 0) (growTo RL k (M.withF (rightB b n S x k) (M.lst (nI L) (nC L) j))) (M.flat WL k ++ M.sansF (rightB b n S x k) (M.lst (nI L) (nC L) j)) [])) (fun _ i _ => nl - (intOf i).toNat)
      case atStart => exact ⟨0, V, Nat.zero_le _, rfl, by have := hR.out; unfold Hid; simpa [M.lst, M.sansF, M.withF] using this⟩
      case round =>
        obtain ⟨j, V, hj, rfl, hR2⟩ := hrel
        have G2 : wr.cell? ⟨G, k, none⟩ = some (.slice a2 nl l) := (hR2.out.bel.cell (p := ⟨G, k, none⟩) hGw).trans HG0.out
        have hzl2 := hR2.out.lt
        have BW2 := Lib.hid hR2.out.bel
        by_cases hjl : j < nl
        · obtain ⟨b2, o2, e2, q0, q1⟩ := (HLT.out.on BW2.out) j hjl
          have hb2w := hbl.out _ _ e2 (by omega)
          subst e2
          have hji : (j : Int) < (nl : Int) := by omega
          have hj0 : (0 : Int) ≤ (j : Int) := by omega
          obtain ⟨⟨t0, t1, t2⟩, _⟩ := hR2.out.tri
          have hltX := hR2.out.tri.lt
          have hsl := M.sansF_le (rightB b n S x k) (nI L) (nC L) j
          have hwle := M.withF_le (rightB b n S x k) (nI L) (nC L) j
          obtain ⟨dd, hdd⟩ : ∃ dd, dueBin b n S x (nC L j) = dd := ⟨_, rfl⟩
          have hrb : rightB b n S x k (nC L j) = (dd == (k : Int)) := by rw [HDUE.out, hdd]
          have HC := Lib.hid (HRB2.out wr BW2.out (nC L j))
          have HDD := Lib.hid hdd
          have hGl : G < wr.heap.size := World.block_lt_of_cell? _ _ G2
          cases hr : rightB b n S x k (nC L j)
          · have hbq : (dd == (k : Int)) = false := by rw [← hrb, hr]
            have HW2 := Lib.hid (M.filt_no (I := nI L) hr).1
            have HS2 := Lib.hid (M.filt_no (I := nI L) hr).2
            clear hr hrb hdd HC
            go_wp2
            go_region_with (first
              | (go_at_call 60; refine (HRB2.out _ (by first | exact BW2.out | exact BW2.out.trans ⟨rfl, rfl, rfl, Nat.le_refl _, fun _ _ => rfl⟩) _).mono ?_; rw [HDD.out]; rintro e wb ⟨rfl, hbb⟩; have kk : Below wr.heap.size wr wb := (by first | exact hbb | exact Below.trans (⟨rfl, rfl, rfl, Nat.le_refl _, fun _ _ => rfl⟩ : Below wr.heap.size wr wr.drew) hbb); have K5 := Lib.hid kk; have hz5 := kk.size; clear hbb kk))
            all_goals
              clear q0 q1 t0 t1 t2
              have G3 : wb.cell? ⟨G, k, none⟩ = some (.slice (some ⟨b2, o2, none⟩) nl l) := (K5.out.cell (p := ⟨G, k, none⟩) hGl).trans G2
              have R5 := Lib.hid (hR2.out.on K5.out)
              obtain ⟨b3, o3, e3, q0, q1⟩ := (HLT.out.on R5.out.bel) j hjl
              cases e3
              clear G2
              go_wp2_with (at_builtin; refine wpList_append_letter _ rfl _ _ rfl (w.heap.size + 1) u9 _ rfl (R5.out.row.alloc _) _ (nI L j) (nC L j) rfl ?_ (by simp; omega) (by simp; omega) ?_)
              · simp [go_sem]
              · intro v1 w4 r1 gr1 ho1
                have o4 : Only wb w4 (fun g => some g = u9.ownBlock) := (Only.new (S := fun g => some g = u9.ownBlock) (below_alloc0 wb _)).trans (Only.of_grown gr1) (fun _ _ h => h)
                have R6 := Lib.hid (R5.out.grow r1 o4 (by rcases ho1 with e | e; exact Or.inl e; exact Or.inr ⟨_, e, by simp⟩))
                have R7 : Hid (RepS w N (.int .i64 b) (.int .i64 p) (.slice a n c) w4 V v1 (.slice (some ⟨w.heap.size + 3, 0, none⟩) 0 0) (growTo RL k (M.withF (rightB b n S x k) (M.lst (nI L) (nC L) (j + 1)))) (M.flat WL k ++ M.sansF (rightB b n S x k) (M.lst (nI L) (nC L) (j + 1))) []) := by
                  unfold Hid
                  rw [HS2.out, HW2.out]
                  exact R6.out
                clear r1 gr1 ho1 o4 G3 R6
                go_wp2
                go_roundw
                case rel => exact ⟨j + 1, V, by omega, by go_num, R7.out⟩
                case measure => simp [intOf]; omega
          · have hbq : (dd == (k : Int)) = true := by rw [← hrb, hr]
            have HW2 := Lib.hid (M.filt_yes (I := nI L) hr).1
            have HS2 := Lib.hid (M.filt_yes (I := nI L) hr).2
            clear hr hrb hdd HC
            go_wp2
            go_region_with (first
              | (go_at_call 60; refine (HRB2.out _ (by first | exact BW2.out | exact BW2.out.trans ⟨rfl, rfl, rfl, Nat.le_refl _, fun _ _ => rfl⟩) _).mono ?_; rw [HDD.out]; rintro e wb ⟨rfl, hbb⟩; have kk : Below wr.heap.size wr wb := (by first | exact hbb | exact Below.trans (⟨rfl, rfl, rfl, Nat.le_refl _, fun _ _ => rfl⟩ : Below wr.heap.size wr wr.drew) hbb); have K5 := Lib.hid kk; have hz5 := kk.size; clear hbb kk))
            all_goals
              clear q0 q1 t0 t1 t2
              have G3 : wb.cell? ⟨G, k, none⟩ = some (.slice (some ⟨b2, o2, none⟩) nl l) := (K5.out.cell (p := ⟨G, k, none⟩) hGl).trans G2
              have R5 := Lib.hid (hR2.out.on K5.out)
              obtain ⟨b3, o3, e3, q0, q1⟩ := (HLT.out.on R5.out.bel) j hjl
              cases e3
              obtain ⟨a5, cc, hv5, g0, g1, hr5, hq5⟩ := R5.out.bin hlt
              obtain ⟨LL, hLL⟩ : ∃ LL, growTo RL k (M.withF (rightB b n S x k) (M.lst (nI L) (nC L) j)) k = LL := ⟨_, rfl⟩
              have hLe : Hid (M.withF (rightB b n S x k) (M.lst (nI L) (nC L) j) = LL) := by unfold Hid; rw [← hLL, growTo_at]
              rw [hLL] at hv5 g0 hr5 hq5
              rw [hLe.out] at hwle
              have HLL := Lib.hid hLL
              obtain ⟨l5, hl5⟩ : ∃ l5, LL.length = l5 := ⟨_, rfl⟩
              rw [hl5] at hv5 g0 hr5 hq5 hwle
              have HV5 := Lib.hid hv5
              have HR5 := Lib.hid hr5
              have HQ5 := Lib.hid hq5
              have HL5 := Lib.hid hl5
              have hgb : w.heap.size + 1 < wb.heap.size := by omega
              have hbr : b2 < wb.heap.size := by omega
              have hbne : b2 ≠ w.heap.size + 1 := by omega
              have hbne2 : w.heap.size + 1 ≠ b2 := by omega
              have hne3 : w.heap.size + 1 ≠ wb.heap.size := by omega
              have hne4 : b2 ≠ wb.heap.size := by omega
              have hG1 : G < wb.heap.size := by omega
              have hG2 : G ≠ w.heap.size + 1 := by omega
              have hG3 : w.heap.size + 1 ≠ G := by omega
              have hG4 : G ≠ wb.heap.size := by omega
              clear hv5 hr5 hq5 hLL hl5 G2
              go_wp2
              go_region_law (refine step_append_lies _ (by rfl) _ _ 26 (by rfl) (w.heap.size + 1) 37 i0 _ 2 24 Tryd.underlying26 hi hz0 hz1' hz4 rfl (by decide) _ l5 (lcells LL) (by rfl) (World.ownsRow.alloc (show _ from HR5.out) _) ⟨wb.heap.size, 0, none⟩ 1 1 [.int .i64 (nI L j), .string (nC L j)] (by rfl) rfl (by intro j u hu; match j, hu with | 0, hu => (simp at hu; subst hu; simp [Addr.add]) | 1, hu => (simp at hu; subst hu; simp [Addr.add])) (by intro u hu; simp at hu; rcases hu with rfl | rfl <;> rfl) (by decide) (by unfold maxLen; omega) (by omega) (by simp; omega) (wb.heap.size + 1) (by simp) ?_; intro g' cap w4 hown hgrow hat hlt3; have o3 : Only wb w4 (fun q => (Value.slice a5 l5 cc).ownBlock = some q) := Only.trans (Only.new (S := fun q => (Value.slice a5 l5 cc).ownBlock = some q) (by go_grown)) ((Only.of_grown hgrow).mono (T := fun q => (Value.slice a5 l5 cc).ownBlock = some q) (fun x _ e => e.symm)) (fun _ _ h => h); have hbG : w4.heap[w.heap.size + 1]? = wb.heap[w.heap.size + 1]? := o3.block (w.heap.size + 1) (by omega) (fun e => (HQ5.out (w.heap.size + 1) e).1 rfl); have s0 : w4.cell? ⟨w.heap.size + 1, k, none⟩ = some (.slice a5 l5 cc) := (World.cell?_of_block (a := ⟨w.heap.size + 1, k, none⟩) hbG).trans g0; have s1 : w4.frozen? ⟨w.heap.size + 1, k, none⟩ = false := (World.frozen?_of_block (a := ⟨w.heap.size + 1, k, none⟩) hbG).trans g1; have HO := Lib.hid hown; have O3 := Lib.hid o3; have HA : Hid ((Value.slice a5 l5 cc).ownBlock = some g' ∨ wb.heap.size ≤ g') := (by rcases hat with h | h; exact Or.inl h; exact Or.inr (by omega)); clear hown hgrow o3 hat hbG)
              all_goals
                have R6 := Lib.hid (R5.out.app hlt HV5.out HLL.out.symm HL5.out HO.out O3.out HA.out)
                have R7 : Hid (RepS w N (.int .i64 b) (.int .i64 p) (.slice a n c) (w4.setCell ⟨w.heap.size + 1, k, none⟩ (.slice (some ⟨g', 0, none⟩) (l5 + 1) cap)) (upd V k (.slice (some ⟨g', 0, none⟩) (l5 + 1) cap)) u9 (.slice (some ⟨w.heap.size + 3, 0, none⟩) 0 0) (growTo RL k (M.withF (rightB b n S x k) (M.lst (nI L) (nC L) (j + 1)))) (M.flat WL k ++ M.sansF (rightB b n S x k) (M.lst (nI L) (nC L) (j + 1))) []) := by
                  have := R6.out
                  rw [growTo_upd] at this
                  unfold Hid
                  rw [HS2.out, HW2.out, hLe.out]
                  exact this
                clear R6 G3 g0 g1 q0 q1
                go_wp2
                go_roundw
                case rel => exact ⟨j + 1, _, by omega, by go_num, R7.out⟩
                case measure => simp [intOf]; omega
        · obtain rfl : j = nl := by omega
          go_wp2
          go_roundw
          case rel => exact ⟨k + 1, V, by omega, by go_num, by have := hR2.out; rw [HR1.out, HR2.out, growTo_next, ← HFS.out] at this; exact this⟩
          case measure => simp [intOf]; omega
    · obtain rfl : k = N := by omega
      obtain ⟨aq, cq, hq, _, _⟩ := hR.out.row.form
      subst hq
      obtain ⟨WF, hWF⟩ : ∃ WF, M.flat WL k = WF := ⟨_, rfl⟩
      have hm60 := hwl.out k (Nat.le_refl _)
      rw [hWF] at hm60 hR ⊢
      obtain ⟨m, hm⟩ : ∃ m, WF.length = m := ⟨_, rfl⟩
      have HMM := Lib.hid hm
      rw [hm] at hm60 hR ⊢
      obtain ⟨KEY, hKEY⟩ : ∃ KEY, M.planKey b n S (nC WF) x = KEY := ⟨_, rfl⟩
      have HKY := Lib.hid (HKEY.out (nC WF))
      have HKB2 := Lib.hid (HKB.out (nC WF))
      rw [hKEY] at HKY HKB2 ⊢
      have hZ0 : Hid (addTo RL (M.binTo KEY (nI WF) (nC WF) 0) = RL) := addTo_nil RL
      have hZ1 : Hid (M.restTo KEY (nI WF) (nC WF) 0 = []) := rfl
      have E1 : Hid (RepS w k (.int .i64 b) (.int .i64 p) (.slice a n c) wr V (.slice aq m cq) (.slice (some ⟨w.heap.size + 3, 0, none⟩) 0 0) (addTo RL (M.binTo KEY (nI WF) (nC WF) 0)) WF (M.restTo KEY (nI WF) (nC WF) 0)) := by
        unfold Hid
        rw [hZ0.out, hZ1.out]
        exact hR.out.congr (growTo_all RL k)
      have HF1 : Hid (addTo RL (M.binTo (M.planKey b n S (nC (M.flat WL k)) x) (nI (M.flat WL k)) (nC (M.flat WL k)) (M.flat WL k).length) = addTo RL (M.binTo KEY (nI WF) (nC WF) m)) := by unfold Hid; rw [hWF, hm, hKEY]
      have HF2 : Hid (M.restTo (M.planKey b n S (nC (M.flat WL k)) x) (nI (M.flat WL k)) (nC (M.flat WL k)) (M.flat WL k).length = M.restTo KEY (nI WF) (nC WF) m) := by unfold Hid; rw [hWF, hm, hKEY]
      clear hWF hm hKEY t0 t1 t2
      go_wp2
      go_loopw [10, 13] (fun r i wr => ∃ (j : Nat) (V : Nat → Value), j ≤ m ∧ i = .int .i64 j ∧ Hid (RepS w k (.int .i64 b) (.int .i64 p) (.slice a n c) wr V (.slice aq m cq) r (addTo RL (M.binTo KEY (nI WF) (nC WF) j)) WF (M.restTo KEY (nI WF) (nC WF) j))) (fun _ i _ => m - (intOf i).toNat)
      case atStart => exact ⟨0, V, Nat.zero_le _, rfl, E1.out⟩
      case round =>
        obtain ⟨j, V, hj, rfl, hR2⟩ := hrel
        have hzl2 := hR2.out.lt
        have BW2 := Lib.hid hR2.out.bel
        by_cases hjl : j < m
        · obtain ⟨b2, o2, e2, q0, q1⟩ := (hR2.out.lts HMM.out) j hjl
          subst e2
          have hbq : ¬ b2 = w.heap.size + 1 := fun e => hR2.out.aq b2 rfl (Or.inl (by rw [e]; rfl))
          have hb2r := World.block_lt_of_cell? _ _ q0
          have hji : (j : Int) < (m : Int) := by omega
          have hj0 : (0 : Int) ≤ (j : Int) := by omega
          obtain ⟨⟨t0, t1, t2⟩, _⟩ := hR2.out.tri
          have hltX := hR2.out.tri.lt
          have hrl := M.restTo_len KEY (nI WF) (nC WF) j
          obtain ⟨dd, hdd⟩ : ∃ dd, dueBin b n S x (nC WF j) = dd := ⟨_, rfl⟩
          have HDD := Lib.hid hdd
          have hdk : dd = binNo (KEY j) := by rw [← hdd]; exact HKY.out j
          cases hkey : KEY j with
          | none =>
            have hneg : dd < 0 := by rw [hdk, hkey]; show (-1 : Int) < 0; omega
            have HK := Lib.hid (M.binTo_none hkey (nI WF) (nC WF))
            have HR := Lib.hid (M.restTo_none hkey (nI WF) (nC WF))
            clear hkey hdk hdd
            go_wp2
            go_region_with (first
              | (go_at_call 60; refine (HRB2.out _ (by first | exact BW2.out | exact BW2.out.trans ⟨rfl, rfl, rfl, Nat.le_refl _, fun _ _ => rfl⟩) _).mono ?_; rw [HDD.out]; rintro e wb ⟨rfl, hbb⟩; have kk : Below wr.heap.size wr wb := (by first | exact hbb | exact Below.trans (⟨rfl, rfl, rfl, Nat.le_refl _, fun _ _ => rfl⟩ : Below wr.heap.size wr wr.drew) hbb); have K5 := Lib.hid kk; have hz5 := kk.size; clear hbb kk))
            all_goals
              clear q0 q1 t0 t1 t2
              have R5 := Lib.hid (hR2.out.on K5.out)
              obtain ⟨b3, o3, e3, q0, q1⟩ := (R5.out.lts HMM.out) j hjl
              cases e3
              go_wp2_with (at_builtin; refine wpList_append_letter _ rfl _ _ rfl (w.heap.size + 1) u10 _ rfl (R5.out.rest.alloc _) _ (nI WF j) (nC WF j) rfl ?_ (by omega) (by simp; omega) ?_)
              · simp [go_sem]
              · intro v1 w4 r1 gr1 ho1
                have o4 : Only wb w4 (fun g => some g = u10.ownBlock) := (Only.new (S := fun g => some g = u10.ownBlock) (below_alloc0 wb _)).trans (Only.of_grown gr1) (fun _ _ h => h)
                have R6 := Lib.hid (R5.out.swap.grow r1 o4 (by rcases ho1 with e | e; exact Or.inl e; exact Or.inr ⟨_, e, by simp⟩)).swap
                have R7 : Hid (RepS w k (.int .i64 b) (.int .i64 p) (.slice a n c) w4 V (.slice (some ⟨b2, o2, none⟩) m cq) v1 (addTo RL (M.binTo KEY (nI WF) (nC WF) (j + 1))) WF (M.restTo KEY (nI WF) (nC WF) (j + 1))) := by
                  unfold Hid
                  rw [HK.out, HR.out]
                  exact R6.out
                clear r1 gr1 ho1 o4 R6
                go_wp2
                go_roundw
                case rel => exact ⟨j + 1, V, by omega, by go_num, R7.out⟩
                case measure => simp [intOf]; omega
          | some d =>
            have hdN := HKB2.out j d hkey
            have hdd2 : dd = (d : Int) := by rw [hdk, hkey]; rfl
            have hpos : ¬ dd < 0 := by omega
            subst hdd2
            have HK := Lib.hid (M.binTo_some hkey (nI WF) (nC WF))
            have HR := Lib.hid (M.restTo_some hkey (nI WF) (nC WF))
            have HLN := M.binTo_len KEY (nI WF) (nC WF) j d
            have HRL60 := hRlen.out d hdN
            clear hkey hdk hdd
            go_wp2
            go_region_with (first
              | (go_at_call 60; refine (HRB2.out _ (by first | exact BW2.out | exact BW2.out.trans ⟨rfl, rfl, rfl, Nat.le_refl _, fun _ _ => rfl⟩) _).mono ?_; rw [HDD.out]; rintro e wb ⟨rfl, hbb⟩; have kk : Below wr.heap.size wr wb := (by first | exact hbb | exact Below.trans (⟨rfl, rfl, rfl, Nat.le_refl _, fun _ _ => rfl⟩ : Below wr.heap.size wr wr.drew) hbb); have K5 := Lib.hid kk; have hz5 := kk.size; clear hbb kk))
            all_goals
              clear q0 q1 t0 t1 t2
              have R5 := Lib.hid (hR2.out.on K5.out)
              obtain ⟨b3, o3, e3, q0, q1⟩ := (R5.out.lts HMM.out) j hjl
              cases e3
              obtain ⟨a5, cc, hv5, g0, g1, hr5, hq5⟩ := R5.out.bin hdN
              obtain ⟨LL, hLL⟩ : ∃ LL, addTo RL (M.binTo KEY (nI WF) (nC WF) j) d = LL := ⟨_, rfl⟩
              have hle5 : LL.length ≤ 200 := by
                rw [← hLL]
                show (RL d ++ M.binTo KEY (nI WF) (nC WF) j d).length ≤ 200
                rw [List.length_append]
                omega
              have HU := Lib.hid (addTo_upd RL (M.binTo KEY (nI WF) (nC WF) j) d (nI WF j, nC WF j))
              rw [hLL] at hv5 g0 hr5 hq5 HU
              have HLL := Lib.hid hLL
              obtain ⟨l5, hl5⟩ : ∃ l5, LL.length = l5 := ⟨_, rfl⟩
              rw [hl5] at hv5 g0 hr5 hq5 hle5
              have HV5 := Lib.hid hv5
              have HR5 := Lib.hid hr5
              have HQ5 := Lib.hid hq5
              have HL5 := Lib.hid hl5
              have hdi : (d : Int) < (k : Int) := by omega
              have hd0 : (0 : Int) ≤ (d : Int) := by omega
              have hgb : w.heap.size + 1 < wb.heap.size := by omega
              have hbr : b2 < wb.heap.size := by omega
              have hbne : b2 ≠ w.heap.size + 1 := hbq
              have hbne2 : w.heap.size + 1 ≠ b2 := fun e => hbq e.symm
              have hne3 : w.heap.size + 1 ≠ wb.heap.size := by omega
              have hne4 : b2 ≠ wb.heap.size := by omega
              have hqa : Hid (∀ g, (Value.slice a5 l5 cc).ownBlock = some g → ¬ b2 = g) := fun g hg e => by
                subst e
                exact R5.out.aq b2 rfl (Or.inr ⟨d, hdN, by rw [HV5.out]; exact hg⟩)
              clear hv5 hr5 hq5 hLL hl5
              go_wp2
              go_region_law (refine step_append_lies _ (by rfl) _ _ 26 (by rfl) (w.heap.size + 1) 37 i0 _ 2 24 Tryd.underlying26 hi hz0 hz1' hz4 rfl (by decide) _ l5 (lcells LL) (by rfl) (World.ownsRow.alloc (show _ from HR5.out) _) ⟨wb.heap.size, 0, none⟩ 1 1 [.int .i64 (nI WF j), .string (nC WF j)] (by rfl) rfl (by intro j u hu; match j, hu with | 0, hu => (simp at hu; subst hu; simp [Addr.add]) | 1, hu => (simp at hu; subst hu; simp [Addr.add])) (by intro u hu; simp at hu; rcases hu with rfl | rfl <;> rfl) (by decide) (by unfold maxLen; omega) (by omega) (by simp; omega) (wb.heap.size + 1) (by simp) ?_; intro g' cap w4 hown hgrow hat hlt3; have o3 : Only wb w4 (fun q => (Value.slice a5 l5 cc).ownBlock = some q) := Only.trans (Only.new (S := fun q => (Value.slice a5 l5 cc).ownBlock = some q) (by go_grown)) ((Only.of_grown hgrow).mono (T := fun q => (Value.slice a5 l5 cc).ownBlock = some q) (fun x _ e => e.symm)) (fun _ _ h => h); have hbG : w4.heap[w.heap.size + 1]? = wb.heap[w.heap.size + 1]? := o3.block (w.heap.size + 1) (by omega) (fun e => (HQ5.out (w.heap.size + 1) e).1 rfl); have s0 : w4.cell? ⟨w.heap.size + 1, d, none⟩ = some (.slice a5 l5 cc) := (World.cell?_of_block (a := ⟨w.heap.size + 1, d, none⟩) hbG).trans g0; have s1 : w4.frozen? ⟨w.heap.size + 1, d, none⟩ = false := (World.frozen?_of_block (a := ⟨w.heap.size + 1, d, none⟩) hbG).trans g1; have HO := Lib.hid hown; have O3 := Lib.hid o3; have HA : Hid ((Value.slice a5 l5 cc).ownBlock = some g' ∨ wb.heap.size ≤ g') := (by rcases hat with h | h; exact Or.inl h; exact Or.inr (by omega)); clear hown hgrow o3 hat hbG)
              all_goals
                have R6 := Lib.hid (R5.out.app hdN HV5.out HLL.out.symm HL5.out HO.out O3.out HA.out)
                have R7 : Hid (RepS w k (.int .i64 b) (.int .i64 p) (.slice a n c) (w4.setCell ⟨w.heap.size + 1, d, none⟩ (.slice (some ⟨g', 0, none⟩) (l5 + 1) cap)) (upd V d (.slice (some ⟨g', 0, none⟩) (l5 + 1) cap)) (.slice (some ⟨b2, o2, none⟩) m cq) u10 (addTo RL (M.binTo KEY (nI WF) (nC WF) (j + 1))) WF (M.restTo KEY (nI WF) (nC WF) (j + 1))) := by
                  have := R6.out
                  unfold Hid
                  rw [HR.out, HK.out]
                  rw [HU.out] at this
                  exact this
                clear R6 g0 g1 q0 q1
                go_wp2
                go_roundw
                case rel => exact ⟨j + 1, _, by omega, by go_num, R7.out⟩
                case measure => simp [intOf]; omega
        · obtain rfl : j = m := by omega
          go_wp2
          go_ret2
          have hws := hR2.out.bel.size
          exact ⟨_, V, _, rfl, by rw [HF1.out]; exact hR2.out.mat.lower (show w.heap.size ≤ w.heap.size + 1 from Nat.le_succ _), by rw [HF2.out]; exact hR2.out.rest.lower (show w.heap.size ≤ w.heap.size + 1 from Nat.le_succ _), hR2.out.ar, hR2.out.bel⟩
end Go.Proofs.YtnaghfppeejaoaaDoor
