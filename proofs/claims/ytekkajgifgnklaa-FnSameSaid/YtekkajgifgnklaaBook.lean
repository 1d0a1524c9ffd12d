/-
  The book of addresses: a map of pointers in memory, what a look-up, a new address and a link do to it.
-/
import Derived.Test.YtekkajgifgnklaaBookM
import Derived.Test.YtekkajgifgnklaaFwdV
import Derived.LaidEql
import Derived.Laws.Rows
namespace Go.Proofs.Ytekkajgifgnklaa
open Go.RowKit Go.Maps
open Go.PlainAid (bt get_bt bt_nonneg bt_le)
set_option linter.unusedVariables false

/-- How a pointer to an address reads: by its block. -/
def ptrR (v : Value) : Option (DataW Unit × List MemPlace) :=
  match v with
  | .pointer none => some (.lit (.int .i64 (-1)), [])
  | .pointer (some ⟨b, 0, none⟩) => some (.lit (.int .i64 (b : Int)), [])
  | _ => none
theorem ptrR_inv {v : Value} {x : Int} {ps : List MemPlace} (h : ptrR v = some (.lit (.int .i64 x), ps)) : (x = -1 ∧ v = .pointer none) ∨ ∃ b : Nat, x = (b : Int) ∧ v = .pointer (some ⟨b, 0, none⟩) := by
  unfold ptrR at h
  split at h
  · have h1 := Option.some.inj h
    simp only [Prod.mk.injEq] at h1
    have h2 := h1.1
    injection h2 with h2
    injection h2 with _ h3
    exact Or.inl ⟨h3.symm, rfl⟩
  · rename_i b
    have h1 := Option.some.inj h
    simp only [Prod.mk.injEq] at h1
    have h2 := h1.1
    injection h2 with h2
    injection h2 with _ h3
    exact Or.inr ⟨b, h3.symm, rfl⟩
  · cases h
theorem ptrR_none : ptrR (.pointer none) = some (.lit (.int .i64 (-1)), []) := rfl
theorem ptrR_some (b : Nat) : ptrR (.pointer (some ⟨b, 0, none⟩)) = some (.lit (.int .i64 (b : Int)), []) := rfl
/-- A function with another value at c. -/
def setF {α : Type} (f : ByteArray → Option α) (c : ByteArray) (v : Option α) : ByteArray → Option α := fun x => if x = c then v else f x
theorem setF_same {α : Type} (f : ByteArray → Option α) (c : ByteArray) (v : Option α) : setF f c v c = v := if_pos rfl
theorem setF_other {α : Type} (f : ByteArray → Option α) {c x : ByteArray} (v : Option α) (h : x ≠ c) : setF f c v x = f x := if_neg h
/-- A block as a number, and as a pointer. -/
def numOf : Option Nat → Int
  | none => -1
  | some b => (b : Int)
def ptrOf : Option Nat → Value
  | none => .pointer none
  | some b => .pointer (some ⟨b, 0, none⟩)
/-- The map in the block g: the address of a code c lies in the block f c, from base on, and is linked with that of nx c. -/
def Book (w : World) (base g n : Nat) (f : ByteArray → Option Nat) (nx : ByteArray → Option ByteArray) : Prop :=
  base ≤ g ∧ (∃ D : DataW Unit, w.ownsMap Try.prog 9 ptrR g n D ∧ IsMap D ∧ ∀ c : ByteArray, D.atKey (.string c.data.toList) (.lit (.int .i64 (-1))) = .lit (.int .i64 (numOf (f c)))) ∧
  (∀ c b, f c = some b → (base ≤ b ∧ b ≠ g) ∧ w.cell? ⟨b, 0, none⟩ = some (.string c) ∧ w.cell? ⟨b, 1, none⟩ = some (ptrOf ((nx c).bind f)) ∧ w.frozen? ⟨b, 1, none⟩ = false ∧ ∃ ca, w.heap[b]? = some (.cells ca 75 (0, 0))) ∧
  (∀ c d, nx c = some d → (f c).isSome = true ∧ (f d).isSome = true)
theorem heap_put {w : World} {b i : Nat} {ca : Array Value} {t : TypeId} (h : w.heap[b]? = some (.cells ca t (0, 0))) (v : Value) : ∃ ca', (w.setCell ⟨b, i, none⟩ v).heap[b]? = some (.cells ca' t (0, 0)) := ⟨_, heap_setCell_same w b i ca t v h⟩
section
variable {w w' : World} {base g n : Nat} {f : ByteArray → Option Nat} {nx : ByteArray → Option ByteArray}
theorem Book.lt (h : Book w base g n f nx) : g < w.heap.size := by
  obtain ⟨_, ⟨D, hm, _⟩, _⟩ := h
  exact hm.lt
theorem Book.node (h : Book w base g n f nx) {c : ByteArray} {b : Nat} (hb : f c = some b) : (base ≤ b ∧ b ≠ g) ∧ w.cell? ⟨b, 0, none⟩ = some (.string c) ∧ w.cell? ⟨b, 1, none⟩ = some (ptrOf ((nx c).bind f)) ∧ w.frozen? ⟨b, 1, none⟩ = false ∧ ∃ ca, w.heap[b]? = some (.cells ca 75 (0, 0)) := h.2.2.1 c b hb
theorem Book.inj (h : Book w base g n f nx) {c d : ByteArray} {b : Nat} (hc : f c = some b) (hd : f d = some b) : c = d := by
  have h1 := (h.node hc).2.1
  have h2 := (h.node hd).2.1
  rw [h1] at h2
  have h3 := Option.some.inj h2
  injection h3
theorem Book.node_lt (h : Book w base g n f nx) {c : ByteArray} {b : Nat} (hb : f c = some b) : b < w.heap.size := World.block_lt_of_cell? _ _ (h.node hb).2.1
theorem Book.mono (h : Book w base g n f nx) {m : Nat} (hm : n ≤ m) : Book w base g m f nx := by
  obtain ⟨h0, ⟨D, h1, h2⟩, h3⟩ := h
  exact ⟨h0, ⟨D, h1.mono hm, h2⟩, h3⟩
/-- What turns neither the map nor an address leaves the book. -/
theorem Book.only (h : Book w base g n f nx) {S : Nat → Prop} (ho : Only w w' S) (hS : ∀ k, base ≤ k → k < w.heap.size → ¬ S k) : Book w' base g n f nx := by
  have hlt := h.lt
  obtain ⟨h0, ⟨D, hm, h1⟩, h2, h3⟩ := h
  refine ⟨h0, ⟨D, ?_, h1⟩, fun c b hb => ?_, h3⟩
  · obtain ⟨es, clock, hb, r⟩ := hm
    exact ⟨es, clock, (ho.block g hlt (hS g h0 hlt)).trans hb, r⟩
  · obtain ⟨n0, c0, c1, fr, ca, hca⟩ := h2 c b hb
    have hl := World.block_lt_of_cell? _ _ c0
    have hbk := ho.block b hl (hS b n0.1 hl)
    exact ⟨n0, (World.cell?_of_block hbk).trans c0, (World.cell?_of_block hbk).trans c1, (World.frozen?_of_block hbk).trans fr, ca, hbk.trans hca⟩
theorem Book.on (h : Book w base g n f nx) (hb : Below w.heap.size w w') : Book w' base g n f nx := h.only (Only.new (S := fun _ => False) hb) fun _ _ _ h => h
theorem zeroPtr (w : World) : (zeroValue 72).run Try.prog w = .ok (.pointer none) w := by kernel_rfl
theorem Book.look (h : Book w base g n f nx) {c : ByteArray} (hc : c.size ≤ maxLen) : (Instr.lookup 52 (.map (some g)) (.string c) false).run Try.prog w = .ok (ptrOf (f c)) w := by
  obtain ⟨_, ⟨D, hm, _, hat⟩, _⟩ := h
  obtain ⟨v, ps, hrun, hv⟩ := hm.lookup lawStr Try.underlying52 (zeroPtr w) ptrR_none (WideMaps.keyOf_string_mk Try.underlying9 hc)
  rw [hat c] at hv
  rw [hrun]
  rcases ptrR_inv hv with ⟨e, rfl⟩ | ⟨b, e, rfl⟩
  · cases hf : f c with
    | none => rfl
    | some b => rw [hf] at e; simp only [numOf] at e; omega
  · cases hf : f c with
    | none => rw [hf] at e; simp only [numOf] at e; omega
    | some b' =>
      rw [hf] at e
      simp only [numOf] at e
      have : b' = b := by omega
      subst this; rfl
/-- An address is linked with another one. -/
theorem Book.link (h : Book w base g n f nx) {c d : ByteArray} {b b' : Nat} (hc : f c = some b) (hd : f d = some b') : Book (w.setCell ⟨b, 1, none⟩ (.pointer (some ⟨b', 0, none⟩))) base g n f (setF nx c (some d)) := by
  have hI := fun {x y : ByteArray} {q : Nat} => h.inj (c := x) (d := y) (b := q)
  have hg := h.lt
  have hne := (h.node hc).1.2
  obtain ⟨h0, ⟨D, hm, h1⟩, h2, h3⟩ := h
  have hset := Only.set w ⟨b, 1, none⟩ (.pointer (some ⟨b', 0, none⟩)) (S := fun k => k = b) rfl
  refine ⟨h0, ⟨D, ?_, h1⟩, fun x q hq => ?_, fun x y hxy => ?_⟩
  · obtain ⟨es, clock, hb, r⟩ := hm
    exact ⟨es, clock, (hset.block g hg (fun e => hne e.symm)).trans hb, r⟩
  · obtain ⟨n0, c0, c1, fr, ca, hca⟩ := h2 x q hq
    have hl := World.block_lt_of_cell? _ _ c0
    by_cases e : x = c
    · subst e
      have : q = b := by rw [hc] at hq; exact (Option.some.inj hq).symm
      subst this
      refine ⟨n0, ?_, ?_, ?_, heap_put hca _⟩
      · rw [World.cell?_setCell_other _ _ _ _ (by simp)]; exact c0
      · rw [setF_same]
        show _ = some (ptrOf (f d))
        rw [hd]
        exact World.cell?_setCell_same _ _ _ c1
      · rw [World.frozen?_setCell]; exact fr
    · have hqb : q ≠ b := fun e2 => e (hI hq (e2 ▸ hc))
      have hbk := hset.block q hl hqb
      rw [setF_other _ _ e]
      exact ⟨n0, (World.cell?_of_block hbk).trans c0, (World.cell?_of_block hbk).trans c1, (World.frozen?_of_block hbk).trans fr, ca, hbk.trans hca⟩
  · by_cases e : x = c
    · subst e
      rw [setF_same] at hxy
      have := Option.some.inj hxy
      subst this
      exact ⟨by rw [hc]; rfl, by rw [hd]; rfl⟩
    · rw [setF_other _ _ e] at hxy
      exact h3 x y hxy
/-- A new address. -/
theorem Book.new {D : DataW Unit} {q : Nat} {c : ByteArray} (h : Book w base g n f nx) (hf : f c = none) (ho : Only w w' (fun k => k = g)) (hq : w.heap.size ≤ q)
    (hD : w'.ownsMap Try.prog 9 ptrR g (n + 1) (D.put (.string c.data.toList) (.lit (.int .i64 (q : Int)))))
    (hmap : IsMap D) (hat : ∀ c : ByteArray, D.atKey (.string c.data.toList) (.lit (.int .i64 (-1))) = .lit (.int .i64 (numOf (f c))))
    (hcell : w'.cell? ⟨q, 0, none⟩ = some (.string c) ∧ w'.cell? ⟨q, 1, none⟩ = some (.pointer none) ∧ w'.frozen? ⟨q, 1, none⟩ = false ∧ ∃ ca, w'.heap[q]? = some (.cells ca 75 (0, 0))) : Book w' base g (n + 1) (setF f c (some q)) nx := by
  have hg := h.lt
  obtain ⟨h0, _, h2, h3⟩ := h
  have hno : nx c = none := by
    cases e : nx c with
    | none => rfl
    | some d => have := (h3 c d e).1; rw [hf] at this; cases this
  refine ⟨h0, ⟨_, hD, hmap.put _ _, fun x => ?_⟩, fun x b hb => ?_, fun x y hxy => ?_⟩
  · by_cases e : x = c
    · subst e
      rw [setF_same, atKey_put_same hmap (by simp [WideAt.IsKeyLit])]
      rfl
    · rw [setF_other _ _ e, atKey_put_other (by intro h'; injection h' with h2; exact e (ByteArray.ext (Array.toList_inj.1 h2)))]
      exact hat x
  · by_cases e : x = c
    · subst e
      rw [setF_same] at hb
      have := Option.some.inj hb
      subst this
      exact ⟨⟨by omega, by omega⟩, hcell.1, by rw [hno]; exact hcell.2.1, hcell.2.2⟩
    · rw [setF_other _ _ e] at hb
      obtain ⟨n0, c0, c1, fr, ca, hca⟩ := h2 x b hb
      have hl := World.block_lt_of_cell? _ _ c0
      have hbk := ho.block b hl n0.2
      refine ⟨n0, (World.cell?_of_block hbk).trans c0, (World.cell?_of_block hbk).trans ?_, (World.frozen?_of_block hbk).trans fr, ca, hbk.trans hca⟩
      rw [c1]
      cases e2 : nx x with
      | none => rfl
      | some y =>
        have hy := (h3 x y e2).2
        have hyc : y ≠ c := fun e3 => by rw [e3, hf] at hy; cases hy
        show some (ptrOf (f y)) = some (ptrOf (setF f c (some q) y))
        rw [setF_other _ _ hyc]
  · obtain ⟨i1, i2⟩ := h3 x y hxy
    have hxc : x ≠ c := fun e3 => by rw [e3, hf] at i1; cases i1
    have hyc : y ≠ c := fun e3 => by rw [e3, hf] at i2; cases i2
    exact ⟨by rw [setF_other _ _ hxc]; exact i1, by rw [setF_other _ _ hyc]; exact i2⟩
end
theorem book_made (w : World) (base : Nat) (hb : base ≤ w.heap.size) : Book (w.alloc (.map #[] 0)) base w.heap.size 0 (fun _ => none) (fun _ => none) :=
  ⟨hb, ⟨.map [], World.ownsMap_made _ _ _ _, isMap_empty, fun _ => rfl⟩, fun c b (h : none = some b) => (by cases h), fun c d (h : none = some d) => (by cases h)⟩
/-- What 'at' returns: the address of a code, in a book that has it. -/
def AtRes (w : World) (base g n : Nat) (f : ByteArray → Option Nat) (nx : ByteArray → Option ByteArray) (c : ByteArray) (e : Ending) (w' : World) : Prop :=
  ∃ (f' : ByteArray → Option Nat) (b : Nat), e = .returned (.pointer (some ⟨b, 0, none⟩)) ∧ Book w' base g (n + 1) f' nx ∧ f' c = some b ∧ (∀ d b', f d = some b' → f' d = some b') ∧ Only w w' (fun k => k = g)

set_option maxHeartbeats 1000000 in
theorem at_any (w : World) (base g n : Nat) (f : ByteArray → Option Nat) (nx : ByteArray → Option ByteArray) (h : Book w base g n f nx) (c : ByteArray) (hc : c.size ≤ maxLen) (hn : n ≤ 1000) :
    Calls Try.prog 44 #[.map (some g), .string c] w (AtRes w base g n f nx c) := by
  have HB := Lib.hid h
  have hl := h.look hc
  cases hf : f c with
  | some b =>
    rw [hf] at hl
    simp only [ptrOf] at hl
    have HF := Lib.hid hf
    clear h hf
    go_enter Try.func44, Try.ntmps44
    go_wp2
    go_ret
    exact ⟨f, b, rfl, HB.out.mono (by omega), HF.out, fun _ _ h => h, Only.refl _ _⟩
  | none =>
    rw [hf] at hl
    simp only [ptrOf] at hl
    have HF := Lib.hid hf
    obtain ⟨D, hm, hmap, hat⟩ := h.2.1
    have HM := Lib.hid hm
    have HMAP := Lib.hid hmap
    have HAT := Lib.hid hat
    have hgl := h.lt
    have hkey : keyOf Try.prog 9 (.string c) = some (.string c.data.toList) := WideMaps.keyOf_string_mk Try.underlying9 hc
    clear h hf hm hmap hat
    go_enter Try.func44, Try.ntmps44
    go_wp2_with (at_mapUpdate; refine wpList_mapUpdate_own _ rfl _ _ _ 52 rfl 9 72 lawStr Try.underlying52 ptrR g n _ rfl (World.ownsMap.alloc HM.out _) (by unfold maxLen; omega) _ _ _ rfl rfl hkey _ [] (ptrR_some w.heap.size) ?_; intro w1 hown1 hgrow1; have o1 : Only w w1 (fun k => k = g) := (Only.new (below_alloc0 w _)).trans (Only.of_grown hgrow1) (fun k _ e => Option.some.inj e); have q0 : w1.cell? ⟨w.heap.size, 0, none⟩ = some (.string c) := (hgrow1.cell (by simp) (by intro e; have := Option.some.inj e; simp at this; omega)); have B1 : Hid (Book w1 base g (n + 1) (setF f c (some w.heap.size)) nx) := HB.out.new HF.out o1 (Nat.le_refl _) hown1 HMAP.out HAT.out ⟨q0, (hgrow1.cell (by simp) (by intro e; have := Option.some.inj e; simp at this; omega)), (by rw [World.frozen?_of_block (a := ⟨w.heap.size, 1, none⟩) (hgrow1.block w.heap.size (by simp) (by intro e; have := Option.some.inj e; omega))]; simp [go_sem]), _, (hgrow1.block w.heap.size (by simp) (by intro e; have := Option.some.inj e; omega)).trans (heap_alloc_new w _)⟩; have hl1 := B1.out.look hc; rw [setF_same] at hl1; simp only [ptrOf] at hl1; have O1 := Lib.hid o1; clear hown1 hgrow1 o1)
    go_ret
    exact ⟨_, _, rfl, B1.out, setF_same _ _ _, fun d b' hd => by rw [setF_other _ _ (fun e => by rw [e, HF.out] at hd; cases hd)]; exact hd, O1.out⟩
theorem eql_ptr (x y : Nat) (w : World) (hx : ∃ ca, w.heap[x]? = some (.cells ca 75 (0, 0))) (hy : ∃ ca, w.heap[y]? = some (.cells ca 75 (0, 0))) : (binOp .eql 72 (.pointer (some ⟨x, 0, none⟩)) (.pointer (some ⟨y, 0, none⟩))).run Try.prog w = .ok (.bool (decide (x = y))) w := by
  have hu := Try.underlying72
  obtain ⟨ca, hx⟩ := hx
  obtain ⟨cb, hy⟩ := hy
  have h1 : ∀ dd, (Op.equalIn (dd + 1) 72 (.pointer (some ⟨x, 0, none⟩)) (.pointer (some ⟨y, 0, none⟩))).run Try.prog w = .ok (decide (x = y)) w := fun dd => by
    by_cases e : x = y
    · subst e
      simp [Op.equalIn, run_underlying hu, sameAddr]
    · have hs : (sameAddr ⟨x, 0, none⟩ ⟨y, 0, none⟩).run Try.prog w = .ok false w := run_sameAddr_other w (by intro e2; injection e2 with e3; exact e e3) hx hy
      simp [Op.equalIn, run_underlying hu, hs, e]
  have h : (Op.equal 72 (.pointer (some ⟨x, 0, none⟩)) (.pointer (some ⟨y, 0, none⟩))).run Try.prog w = .ok (decide (x = y)) w := h1 9999
  simp only [binOp]
  simp [h]
end Go.Proofs.Ytekkajgifgnklaa
