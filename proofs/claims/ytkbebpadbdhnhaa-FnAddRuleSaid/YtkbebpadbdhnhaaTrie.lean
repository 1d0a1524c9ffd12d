/-
  A trie in memory: its nodes and its rules, and what a new node, a rule that is put, and a step along a string's iterator do to it.
-/
import Derived.Test.YtkbebpadbdhnhaaRulV
import Derived.Test.YtkbebpadbdhnhaaTrieM
import Derived.Lib.OthersKept
namespace Go.Proofs.Ytkbebpadbdhnhaa
open Go.RowKit
open Go.PlainAid (bt get_bt bt_nonneg bt_le)
set_option linter.unusedVariables false

/-- A pointer to a block, or nil. -/
def ptrO : Option Nat → Value
  | none => .pointer none
  | some b => .pointer (some ⟨b, 0, none⟩)
/-- A function with another value at a way. -/
def setW {α : Type} (f : List Nat → Option α) (q : List Nat) (v : α) : List Nat → Option α := fun x => if x = q then some v else f x
theorem setW_same {α : Type} (f : List Nat → Option α) (q : List Nat) (v : α) : setW f q v q = some v := if_pos rfl
theorem setW_other {α : Type} (f : List Nat → Option α) {q x : List Nat} (v : α) (h : x ≠ q) : setW f q v x = f x := if_neg h
/-- The trie whose node at the end of a way lies in the block that nd gives, and whose rule there in the block that rl gives, with its digits and where it sends letters; all from base on. -/
def Trie (w : World) (base : Nat) (nd : List Nat → Option Nat) (rl : List Nat → Option (Nat × ByteArray × ByteArray)) : Prop :=
  (∀ q b, nd q = some b → base ≤ b ∧ ∃ f, w.rowIs b 70 11 f ∧ (∀ d, d < 10 → f d = ptrO (nd (q ++ [d]))) ∧ f 10 = ptrO ((rl q).map (·.1))) ∧
  (∀ q q' b, nd q = some b → nd q' = some b → q = q') ∧
  (∀ q d, nd q = none → nd (q ++ [d]) = none) ∧
  (∀ q x, rl q = some x → nd q ≠ none ∧ base ≤ x.1 ∧ w.cell? ⟨x.1, 0, none⟩ = some (.string x.2.1) ∧ w.cell? ⟨x.1, 1, none⟩ = some (.string x.2.2)) ∧
  (∀ q x q' b, rl q = some x → nd q' = some b → x.1 ≠ b)
section
variable {w w' : World} {base : Nat} {nd : List Nat → Option Nat} {rl : List Nat → Option (Nat × ByteArray × ByteArray)}
theorem Trie.lt (h : Trie w base nd rl) {q : List Nat} {b : Nat} (hb : nd q = some b) : base ≤ b ∧ b < w.heap.size := by
  obtain ⟨h1, f, hr, _⟩ := h.1 q b hb
  exact ⟨h1, hr.lt⟩
/-- What turns no block of the trie leaves it. -/
theorem Trie.kept (h : Trie w base nd rl) {S : Nat → Prop} (ho : Only w w' S) (hS : ∀ q b, nd q = some b → ¬ S b) (hR : ∀ q x, rl q = some x → ¬ S x.1) : Trie w' base nd rl := by
  obtain ⟨h1, h2, h3, h4, h5⟩ := h
  refine ⟨fun q b hb => ?_, h2, h3, fun q x hx => ?_, h5⟩
  · obtain ⟨hb0, f, hr, hf⟩ := h1 q b hb
    exact ⟨hb0, f, hr.of_block (ho.block b hr.lt (hS q b hb)), hf⟩
  · obtain ⟨n0, b0, c0, c1⟩ := h4 q x hx
    have hl := World.block_lt_of_cell? _ _ c0
    have hbk := ho.block x.1 hl (hR q x hx)
    exact ⟨n0, b0, (World.cell?_of_block hbk).trans c0, (World.cell?_of_block hbk).trans c1⟩
theorem Trie.only (h : Trie w base nd rl) {S : Nat → Prop} (ho : Only w w' S) (hS : ∀ k, base ≤ k → k < w.heap.size → ¬ S k) : Trie w' base nd rl :=
  h.kept ho (fun q b hb => by
    obtain ⟨hb0, f, hr, _⟩ := h.1 q b hb
    exact hS b hb0 hr.lt) fun q x hx => by
    obtain ⟨n0, b0, c0, c1⟩ := h.2.2.2.1 q x hx
    exact hS x.1 b0 (World.block_lt_of_cell? _ _ c0)
theorem Trie.on (h : Trie w base nd rl) (hb : Below w.heap.size w w') : Trie w' base nd rl := h.only (Only.new (S := fun _ => False) hb) fun _ _ _ h => h
theorem Trie.lower (h : Trie w base nd rl) {base' : Nat} (hb : base' ≤ base) : Trie w base' nd rl := by
  obtain ⟨h1, h2, h3, h4, h5⟩ := h
  refine ⟨fun q b hb' => ?_, h2, h3, fun q x hx => ?_, h5⟩
  · obtain ⟨hb0, f, hr, hf⟩ := h1 q b hb'
    exact ⟨by omega, f, hr, hf⟩
  · obtain ⟨n0, b0, c0, c1⟩ := h4 q x hx
    exact ⟨n0, by omega, c0, c1⟩
/-- The pointers in a node. -/
theorem Trie.down (h : Trie w base nd rl) {q : List Nat} {b : Nat} (hb : nd q = some b) {d : Nat} (hd : d < 10) : w.cell? ⟨b, d, none⟩ = some (ptrO (nd (q ++ [d]))) := by
  obtain ⟨_, f, hr, hf, _⟩ := h.1 q b hb
  rw [← hf d hd]; exact hr.cell (by omega)
theorem Trie.ruleOf (h : Trie w base nd rl) {q : List Nat} {b : Nat} (hb : nd q = some b) : w.cell? ⟨b, 10, none⟩ = some (ptrO ((rl q).map (·.1))) := by
  obtain ⟨_, f, hr, _, hf⟩ := h.1 q b hb
  rw [← hf]; exact hr.cell (by omega)
theorem Trie.frozen (h : Trie w base nd rl) {q : List Nat} {b : Nat} (hb : nd q = some b) (i : Nat) : w.frozen? ⟨b, i, none⟩ = false := by
  obtain ⟨_, f, hr, _⟩ := h.1 q b hb
  exact hr.frozen i
theorem Trie.rule (h : Trie w base nd rl) {q : List Nat} {x : Nat × ByteArray × ByteArray} (hx : rl q = some x) : base ≤ x.1 ∧ w.cell? ⟨x.1, 0, none⟩ = some (.string x.2.1) ∧ w.cell? ⟨x.1, 1, none⟩ = some (.string x.2.2) := (h.2.2.2.1 q x hx).2
/-- Behind a node that is not there no rule is. -/
theorem Trie.end_rl (h : Trie w base nd rl) {q : List Nat} (hn : nd q = none) : ∀ (r : List Nat), nd (q ++ r) = none ∧ rl (q ++ r) = none := by
  have h1 : ∀ (r q : List Nat), nd q = none → nd (q ++ r) = none := by
    intro r
    induction r with
    | nil => intro q hn; rw [List.append_nil]; exact hn
    | cons d r ih => intro q hn; rw [show q ++ d :: r = (q ++ [d]) ++ r by simp]; exact ih _ (h.2.2.1 q d hn)
  have h1 := fun r => h1 r q hn
  intro r
  refine ⟨h1 r, ?_⟩
  cases hr : rl (q ++ r) with
  | none => rfl
  | some x => exact absurd (h1 r) (h.2.2.2.1 _ x hr).1
/-- A node alone. -/
theorem Trie.root (hb : base ≤ w.heap.size) {c : Array Value} (hc : c = #[.pointer none, .pointer none, .pointer none, .pointer none, .pointer none, .pointer none, .pointer none, .pointer none, .pointer none, .pointer none, .pointer none]) :
    Trie (w.alloc (.cells c 70)) base (setW (fun _ => none) [] w.heap.size) (fun _ => none) := by
  have hone : ∀ q b, setW (fun _ => (none : Option Nat)) [] w.heap.size q = some b → q = [] ∧ b = w.heap.size := by
    intro q b hq
    by_cases e : q = []
    · subst e
      rw [setW_same] at hq
      exact ⟨rfl, (Option.some.inj hq).symm⟩
    · rw [setW_other _ _ e] at hq; cases hq
  refine ⟨fun q b hb' => ?_, fun q q' b h1 h2 => (hone q b h1).1.trans (hone q' b h2).1.symm, fun q d h => ?_, (fun q x hx => nomatch hx), (fun q x q' b hx => nomatch hx)⟩
  · obtain ⟨rfl, rfl⟩ := hone q b hb'
    have hr := World.rowIs_alloc w c 70 (fun _ => .pointer none) (fun i hi => by
      subst hc
      have : i < 11 := hi
      rcases i with _ | _ | _ | _ | _ | _ | _ | _ | _ | _ | _ | i
      all_goals first | rfl | omega)
    rw [show c.size = 11 by subst hc; rfl] at hr
    exact ⟨hb, _, hr, fun d hd => by rw [setW_other _ _ (by simp)]; rfl, rfl⟩
  · exact setW_other _ _ (by simp)
/-- A new node, linked from the one before. -/
theorem Trie.grow (h : Trie w base nd rl) (hbase : base ≤ w.heap.size) {q : List Nat} {b d : Nat} (hb : nd q = some b) (hd : d < 10) (hn : nd (q ++ [d]) = none) {c : Array Value} (hc : c = #[.pointer none, .pointer none, .pointer none, .pointer none, .pointer none, .pointer none, .pointer none, .pointer none, .pointer none, .pointer none, .pointer none]) :
    Trie ((w.alloc (.cells c 70)).setCell ⟨b, d, none⟩ (.pointer (some ⟨w.heap.size, 0, none⟩))) base (setW nd (q ++ [d]) w.heap.size) rl := by
  have hlt := h.lt hb
  have hend := h.end_rl hn
  have hlt' := fun {q' : List Nat} {b' : Nat} (hq : nd q' = some b') => h.lt hq
  obtain ⟨h1, h2, h3, h4, h5⟩ := h
  have hset := Only.set (w.alloc (.cells c 70)) ⟨b, d, none⟩ (.pointer (some ⟨w.heap.size, 0, none⟩)) (S := fun k => k = b) rfl
  have hal := Only.new (S := fun _ => False) (below_alloc0 w (.cells c 70))
  have hall : Only w ((w.alloc (.cells c 70)).setCell ⟨b, d, none⟩ (.pointer (some ⟨w.heap.size, 0, none⟩))) (fun k => k = b) := (hal.mono (fun _ _ h => h.elim)).trans hset fun x _ hx => hx
  have hsz : (w.alloc (.cells c 70)).heap.size = w.heap.size + 1 := by simp
  refine ⟨fun q' b' hb' => ?_, fun q1 q2 b' e1 e2 => ?_, fun q' e he => ?_, fun q' x hx => ?_, fun q' x q2 b' hx hq2 => ?_⟩
  · by_cases e : q' = q ++ [d]
    · subst e
      rw [setW_same] at hb'
      have := Option.some.inj hb'
      subst this
      refine ⟨hbase, ?_⟩
      have hr := World.rowIs_alloc w c 70 (fun _ => .pointer none) (fun i hi => by
        subst hc
        have : i < 11 := hi
        rcases i with _ | _ | _ | _ | _ | _ | _ | _ | _ | _ | _ | i
        all_goals first | rfl | omega)
      rw [show c.size = 11 by subst hc; rfl] at hr
      refine ⟨_, hr.setOther (by show w.heap.size ≠ b; omega) _, fun d' hd' => ?_, ?_⟩
      · rw [setW_other _ _ (by simp), (hend [d']).1]; rfl
      · have := (hend []).2
        rw [List.append_nil] at this
        rw [this]; rfl
    · rw [setW_other _ _ e] at hb'
      obtain ⟨hb0, f, hr, hf, hf2⟩ := h1 q' b' hb'
      by_cases e2 : b' = b
      · subst e2
        have : q' = q := h2 q' q b' hb' hb
        subst this
        refine ⟨hb0, _, (hr.alloc _).set d _, fun d' hd' => ?_, ?_⟩
        · by_cases e3 : d' = d
          · subst e3
            show (if d' = d' then _ else _) = _
            rw [if_pos rfl, setW_same]; rfl
          · show (if d' = d then _ else _) = _
            rw [if_neg e3, setW_other _ _ (by simp [e3]), hf d' hd']
        · show (if 10 = d then _ else _) = _
          rw [if_neg (by omega), hf2]
      · refine ⟨hb0, f, hr.of_block (hall.block b' hr.lt e2), fun d' hd' => ?_, hf2⟩
        rw [hf d' hd', setW_other _ _ (by
          intro e3
          have := (List.append_inj' e3 rfl).1
          subst this
          rw [hb] at hb'
          exact e2 (Option.some.inj hb').symm)]
  · by_cases g1 : q1 = q ++ [d]
    · by_cases g2 : q2 = q ++ [d]
      · rw [g1, g2]
      · subst g1
        rw [setW_same] at e1
        rw [setW_other _ _ g2] at e2
        have := Option.some.inj e1
        have := (hlt' e2).2
        omega
    · rw [setW_other _ _ g1] at e1
      by_cases g2 : q2 = q ++ [d]
      · subst g2
        rw [setW_same] at e2
        have := Option.some.inj e2
        have := (hlt' e1).2
        omega
      · rw [setW_other _ _ g2] at e2
        exact h2 q1 q2 b' e1 e2
  · have g1 : q' ≠ q ++ [d] := fun g => by subst g; rw [setW_same] at he; cases he
    rw [setW_other _ _ g1] at he
    have h6 := h3 q' e he
    by_cases g2 : q' ++ [e] = q ++ [d]
    · have := (List.append_inj' g2 rfl).1
      subst this
      rw [hb] at he; cases he
    · rw [setW_other _ _ g2]; exact h6
  · obtain ⟨n0, b0, c0, c1⟩ := h4 q' x hx
    have hl := World.block_lt_of_cell? _ _ c0
    have hxb : x.1 ≠ b := h5 q' x q b hx hb
    have hbk := hall.block x.1 hl hxb
    refine ⟨?_, b0, (World.cell?_of_block hbk).trans c0, (World.cell?_of_block hbk).trans c1⟩
    by_cases g : q' = q ++ [d]
    · subst g; rw [setW_same]; intro e; cases e
    · rw [setW_other _ _ g]; exact n0
  · obtain ⟨n0, b0, c0, c1⟩ := h4 q' x hx
    have hl := World.block_lt_of_cell? _ _ c0
    by_cases g : q2 = q ++ [d]
    · subst g
      rw [setW_same] at hq2
      have := Option.some.inj hq2
      have hl' : x.1 < w.heap.size := hl
      omega
    · rw [setW_other _ _ g] at hq2
      exact h5 q' x q2 b' hx hq2
/-- A rule is put at a node. -/
theorem Trie.put (h : Trie w base nd rl) {q : List Nat} {b R : Nat} {p x : ByteArray} (hb : nd q = some b) (hR : base ≤ R) (hn : ∀ q' b', nd q' = some b' → R ≠ b') (c0 : w.cell? ⟨R, 0, none⟩ = some (.string p)) (c1 : w.cell? ⟨R, 1, none⟩ = some (.string x)) :
    Trie (w.setCell ⟨b, 10, none⟩ (.pointer (some ⟨R, 0, none⟩))) base nd (setW rl q (R, p, x)) := by
  obtain ⟨h1, h2, h3, h4, h5⟩ := h
  have hset := Only.set w ⟨b, 10, none⟩ (.pointer (some ⟨R, 0, none⟩)) (S := fun k => k = b) rfl
  refine ⟨fun q' b' hb' => ?_, h2, h3, fun q' y hy => ?_, fun q' y q2 b' hy hq2 => ?_⟩
  · obtain ⟨hb0, f, hr, hf, hf2⟩ := h1 q' b' hb'
    by_cases e : b' = b
    · subst e
      have : q' = q := h2 q' q b' hb' hb
      subst this
      refine ⟨hb0, _, hr.set 10 _, fun d hd => ?_, ?_⟩
      · show (if d = 10 then _ else _) = _
        rw [if_neg (by omega)]; exact hf d hd
      · show (if 10 = 10 then _ else _) = _
        rw [if_pos rfl, setW_same]; rfl
    · refine ⟨hb0, f, hr.setOther e _, hf, ?_⟩
      rw [hf2, setW_other _ _ (fun g => by subst g; rw [hb] at hb'; exact e (Option.some.inj hb').symm)]
  · by_cases g : q' = q
    · subst g
      rw [setW_same] at hy
      have := Option.some.inj hy
      subst this
      have hRb : R ≠ b := hn _ b hb
      refine ⟨(by rw [hb]; intro e; cases e), hR, ?_, ?_⟩
      · exact (World.cell?_of_block (hset.block R (World.block_lt_of_cell? _ _ c0) hRb)).trans c0
      · exact (World.cell?_of_block (hset.block R (World.block_lt_of_cell? _ _ c0) hRb)).trans c1
    · rw [setW_other _ _ g] at hy
      obtain ⟨n0, b0, d0, d1⟩ := h4 q' y hy
      have hbk := hset.block y.1 (World.block_lt_of_cell? _ _ d0) (h5 q' y q b hy hb)
      exact ⟨n0, b0, (World.cell?_of_block hbk).trans d0, (World.cell?_of_block hbk).trans d1⟩
  · by_cases g : q' = q
    · subst g
      rw [setW_same] at hy
      have := Option.some.inj hy
      subst this
      exact hn q2 b' hq2
    · rw [setW_other _ _ g] at hy
      exact h5 q' y q2 b' hy hq2
end
end Go.Proofs.Ytkbebpadbdhnhaa
