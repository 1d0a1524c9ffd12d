/-
  Missorts in slices that the call itself has made: what they hold, append.
-/
import Derived.Test.YtnaghfppeejaoaaDoorMisA
import Derived.Test.YtnaghfppeejaoaaDoorMat
import Derived.Maps.AppendAt
import Derived.OwnWalk
import Derived.Laws.OwnMore
import Derived.Test.YtnaghfppeejaoaaDoorMailW
import Derived.Test.YtnaghfppeejaoaaDoorBins
import Derived.Deep.CutRange
import Derived.Deep.DeepCutAuto
import Derived.Deep.RegionWith
import Derived.Deep.RegionHeld3
import Derived.Test.YtnaghfppeejaoaaDoorDrawX
namespace Go.Proofs.YtnaghfppeejaoaaDoor
open Go.RowKit

/-- Missorts as cells. -/
def mcells : List (Int × Int) → List Value
  | [] => []
  | x :: L => .int .i64 x.1 :: .int .i64 x.2 :: mcells L
theorem mcells_length : ∀ L, (mcells L).length = L.length * 2
  | [] => rfl
  | x :: L => by show (mcells L).length + 1 + 1 = (L.length + 1) * 2; rw [mcells_length L]; omega
theorem mcells_append : ∀ L L', mcells (L ++ L') = mcells L ++ mcells L'
  | [], _ => rfl
  | x :: L, L' => by show _ :: _ :: mcells (L ++ L') = _; rw [mcells_append L L']; rfl
theorem mcells_at : ∀ (L : List (Int × Int)) (i : Nat) (h : i < L.length), (mcells L)[i * 2]? = some (.int .i64 (L[i].1)) ∧ (mcells L)[i * 2 + 1]? = some (.int .i64 (L[i].2))
  | [], _, h => absurd h (by simp)
  | x :: L, 0, _ => ⟨rfl, rfl⟩
  | x :: L, i + 1, h => by
    have ih := mcells_at L i (by simpa using h)
    have e1 : (i + 1) * 2 = i * 2 + 1 + 1 := by omega
    rw [e1]
    exact ih
def mI (L : List (Int × Int)) (i : Nat) : Int := (L.getD i (0, 0)).1
def mC (L : List (Int × Int)) (i : Nat) : Int := (L.getD i (0, 0)).2
theorem mI_at {L : List (Int × Int)} {i : Nat} (h : i < L.length) : mI L i = L[i].1 := by unfold mI; simp [List.getD, h]
theorem mC_at {L : List (Int × Int)} {i : Nat} (h : i < L.length) : mC L i = L[i].2 := by unfold mC; simp [List.getD, h]

/-- A slice value that owns missorts: nil, or in a block from base on. -/
def MsRow (w : World) (base : Nat) (v : Value) (L : List (Int × Int)) : Prop := w.ownsRow base 40 2 v L.length (mcells L)
theorem MsRow.nil (w : World) (base : Nat) : MsRow w base (.slice none 0 0) [] := World.ownsRow_nil _ _ _ _
theorem MsRow.alloc {w : World} {base : Nat} {v : Value} {L : List (Int × Int)} (h : MsRow w base v L) (o : Obj) : MsRow (w.alloc o) base v L := World.ownsRow.alloc h o
theorem MsRow.drew {w : World} {base : Nat} {v : Value} {L : List (Int × Int)} (h : MsRow w base v L) : MsRow w.drew base v L := h
theorem MsRow.lt {w : World} {base : Nat} {v : Value} {L : List (Int × Int)} (h : MsRow w base v L) : ∀ k, v.ownBlock = some k → base ≤ k ∧ k < w.heap.size := World.ownsRow.lt h
theorem MsRow.form {w : World} {base : Nat} {v : Value} {L : List (Int × Int)} (h : MsRow w base v L) : ∃ a c, v = .slice a L.length c ∧ L.length ≤ c ∧ Mss w a L.length (mI L) (mC L) := by
  have h2 := h
  rcases h.2 with ⟨rfl, hn⟩ | ⟨g, cap, cur, rfl, _, _, hc, _, _, _⟩
  · exact ⟨none, 0, by rw [hn], by omega, fun i hi => absurd hi (by omega)⟩
  · refine ⟨_, _, rfl, hc, fun i hi => ⟨g, 0, rfl, ?_, ?_⟩⟩
    · rw [Nat.zero_add, World.ownsRow.cellAt h2 (i * 2) (by omega), (mcells_at L i hi).1, mI_at hi]
    · rw [Nat.zero_add, World.ownsRow.cellAt h2 (i * 2 + 1) (by omega), (mcells_at L i hi).2, mC_at hi]
theorem MsRow.kept {w w' : World} {base : Nat} {v : Value} {L : List (Int × Int)} {row : Option Nat} (h : MsRow w base v L) (hg : w.grownBy w' row) (hne : ∀ b, v.ownBlock = some b → row ≠ some b) : MsRow w' base v L :=
  World.ownsRow.kept h hg (by
    cases hv : v.ownBlock with
    | none => exact Or.inl rfl
    | some b => exact Or.inr fun e => hne b hv e.symm)
theorem MsRow.on {w w' : World} {base : Nat} {v : Value} {L : List (Int × Int)} (h : MsRow w base v L) (hb : Below w.heap.size w w') : MsRow w' base v L :=
  h.kept (grown_of_below hb) (fun _ _ e => by cases e)

theorem info_missort : (Tryd.prog.info? 40).map (fun i => (i.zero, i.size, i.bytes)) = some (some (.agg #[.int .i64 0, .int .i64 0]), 2, 16) := by kernel_rfl
theorem wpList_append_missort {ops : Array Oper} {rest : List Oper} {o : Oper} {a : Act} {Q : Exit → Act → World → Prop} (w : World) (hgd : o.guard = none) (s x : Operand)
    (ho : o.op = .call { callee := .builtin .append, args := #[s, x], argTypes := #[27, 27] })
    (base : Nat) (v : Value) (L : List (Int × Int)) (hs : a.eval s = v) (hrow : MsRow w base v L) (b : Nat) (i : Int) (t : Int) (hx : a.eval x = .slice (some ⟨b, 0, none⟩) 1 1)
    (hc : w.cell? ⟨b, 0, none⟩ = some (.int .i64 i) ∧ w.cell? ⟨b, 1, none⟩ = some (.int .i64 t)) (hl : L.length ≤ 1048576) (hbase : base ≤ w.heap.size)
    (K : ∀ v' w', MsRow w' base v' (L ++ [(i, t)]) → w.grownBy w' v.ownBlock → (v'.ownBlock = v.ownBlock ∨ v'.ownBlock = some w.heap.size) → wpList Tryd.prog ops Q rest (a.put o.dst v') w') :
    wpList Tryd.prog ops Q (o :: rest) a w := by
  obtain ⟨i0, hi, hz0, hz1, hz2⟩ := info_parts info_missort
  refine wpList_append_own_at w hgd s x 27 ho base 40 i0 _ 2 16 Tryd.underlying27 hi hz0 hz1 hz2 rfl (by decide) v L.length (mcells L) hs hrow ⟨b, 0, none⟩ 1 1 [.int .i64 i, .int .i64 t] hx rfl ?_ ?_ (by unfold maxLen; omega) (by omega) hbase ?_
  · intro j u hu
    match j, hu with
    | 0, hu => simp at hu; subst hu; simpa [Addr.add] using hc.1
    | 1, hu => simp at hu; subst hu; simpa [Addr.add] using hc.2
  · intro u hu
    simp at hu
    rcases hu with rfl | rfl <;> rfl
  · intro v' w' h1 h2 _ h3
    refine K v' w' ?_ h2 h3
    unfold MsRow
    rw [List.length_append, mcells_append]
    exact h1
theorem MsRow.only {w w' : World} {base : Nat} {v : Value} {L : List (Int × Int)} {S : Nat → Prop} (h : MsRow w base v L) (ho : Only w w' S) (hn : ∀ b, v.ownBlock = some b → ¬ S b) : MsRow w' base v L :=
  ownsRow_block h fun g hg => ho.block g (h.lt g hg).2 (hn g hg)
theorem MsRow.lower {w : World} {base base' : Nat} {v : Value} {L : List (Int × Int)} (h : MsRow w base v L) (hb : base' ≤ base) : MsRow w base' v L := by
  refine ⟨h.1, ?_⟩
  rcases h.2 with ⟨rfl, hn⟩ | ⟨g, cap, cur, rfl, hbg, rest⟩
  · exact Or.inl ⟨rfl, hn⟩
  · exact Or.inr ⟨g, cap, cur, rfl, Nat.le_trans hb hbg, rest⟩
theorem one_mrow (w : World) : MsRow (w.alloc (.cells #[] 40)) w.heap.size (.slice (some ⟨w.heap.size, 0, none⟩) 0 0) [] :=
  World.ownsRow_lit (base := w.heap.size) (e := 40) (size := 2) w #[] 0 (Nat.le_refl _) (by unfold maxLen; omega) rfl
/-- Of fitting sizes, and no more than six. -/
def SmallM (L : List (Int × Int)) : Prop := ∀ x ∈ L, (-9223372036854775808 ≤ x.1 ∧ x.1 ≤ 9223372036854775807) ∧ (-9223372036854775808 ≤ x.2 ∧ x.2 ≤ 9223372036854775807)
theorem SmallM.fits {L : List (Int × Int)} (h : SmallM L) : MFits L.length (mI L) (mC L) := fun i hi => by
  rw [mI_at hi, mC_at hi]
  exact h _ (List.getElem_mem hi)
theorem SmallM.add {L : List (Int × Int)} (h : SmallM L) (x : Int × Int) (h1 : -9223372036854775808 ≤ x.1 ∧ x.1 ≤ 9223372036854775807) (h2 : -9223372036854775808 ≤ x.2 ∧ x.2 ≤ 9223372036854775807) : SmallM (L ++ [x]) := fun y hy => by
  rcases List.mem_append.1 hy with hy | hy
  · exact h y hy
  · rw [List.mem_singleton.1 hy]; exact ⟨h1, h2⟩

set_option maxHeartbeats 1000000 in
theorem l7Index_any (w : World) (a : Option Addr) (n c : Nat) (I C : Nat → Int) (x : Int) (h : Mss w a n I C) (hn : n ≤ 1048576) :
    Calls Tryd.prog 118 #[.slice a n c, .int .i64 x] w fun e w' => ∃ i : Int, e = .returned (.int .i64 i) ∧ -1 ≤ i ∧ i < n ∧ Below w.heap.size w w' := by
  have HL := Lib.hid h
  clear h
  go_enter Tryd.func118, Tryd.ntmps118
  go_wp2
  go_loopw [5] (fun i wr => ∃ k : Nat, k ≤ n ∧ i = .int .i64 k ∧ Hid (Below w.heap.size w wr)) (fun i _ => n - (intOf i).toNat)
  case atStart => exact ⟨0, Nat.zero_le _, rfl, Below.refl _ _⟩
  case round =>
    obtain ⟨k, hk, rfl, hb⟩ := hrel
    by_cases hlt : k < n
    · have hli : (k : Int) < (n : Int) := by omega
      obtain ⟨g, o, rfl, h1, h2⟩ := HL.out.on hb.out k hlt
      by_cases he : I k = x
      · have hbe : (I k == x) = true := by rw [beq_iff_eq]; exact he
        go_wp2
        go_ret
        exact ⟨k, rfl, by omega, by omega, hb.out⟩
      · have hbe : (I k == x) = false := by rw [beq_eq_false_iff_ne]; exact he
        go_wp2
        go_roundw
        case rel => exact ⟨k + 1, by omega, by go_num, hb.out⟩
        case measure => simp [intOf]; omega
    · obtain rfl : k = n := by omega
      go_wp2
      go_ret
      exact ⟨-1, rfl, by omega, by omega, hb.out⟩
end Go.Proofs.YtnaghfppeejaoaaDoor

/-
  Drawn missorts: l7Some.
-/
namespace Go.Proofs.YtnaghfppeejaoaaDoor
open Go.RowKit
set_option linter.unusedVariables false

theorem MsRow.sg {w w' : World} {base r N : Nat} {v : Value} {L : List (Int × Int)} (h : MsRow w base v L) (hs : Sg w w' r N) (hr : r < base) : MsRow w' base v L :=
  h.kept hs.2 (fun b hb e => by have := (h.lt b hb).1; injection e with e; omega)
theorem Rd.mgrown {w w' : World} {base r N : Nat} {v : Value} {L : List (Int × Int)} (h : Rd w r N) (hr : MsRow w base v L) (hrb : r < base) (hg : w.grownBy w' v.ownBlock) : Rd w' r N := by
  have hlt := h.lt
  have hne : ∀ b, b ≤ r → some b ≠ v.ownBlock := fun b hb e => by have := (hr.lt b e.symm).1; omega
  obtain ⟨p, a, l, k, hp, hN, h0, h1, hf, hlk, hk, hl, hB⟩ := h
  refine ⟨p, a, l, k, hp, hN, hg.cell h0 (hne r (Nat.le_refl _)), hg.cell h1 (hne r (Nat.le_refl _)), (World.frozen?_of_block (a := ⟨r, 1, none⟩) (hg.block r hlt (hne r (Nat.le_refl _)))).trans hf, hlk, hk, hl, ?_⟩
  rcases hB with hB | ⟨b, off, rfl, hbr, hB⟩
  · exact Or.inl hB
  · refine Or.inr ⟨b, off, rfl, hbr, fun i hi => ?_⟩
    obtain ⟨x, hx, x0, x1⟩ := hB i hi
    exact ⟨x, hg.cell hx (hne b (by omega)), x0, x1⟩
theorem Sg.mgrown {W w w' : World} {base r N : Nat} {v : Value} {L : List (Int × Int)} (h : Sg W w r N) (hr : MsRow w base v L) (hb : W.heap.size ≤ base) (hrb : r < base) (hg : w.grownBy w' v.ownBlock) : Sg W w' r N :=
  ⟨h.1.mgrown hr hrb hg, h.2.andThen hg fun j e => Or.inl (Nat.le_trans hb (hr.lt j e).1)⟩

theorem Lts.at' {w : World} {b o n : Nat} {I : Nat → Int} {C : Nat → ByteArray} (h : Lts w (some ⟨b, o, none⟩) n I C) {i : Nat} (hi : i < n) : w.cell? ⟨b, o + i * 2, none⟩ = some (.int .i64 (I i)) := by
  obtain ⟨b', o', e, h1, _⟩ := h i hi
  obtain ⟨rfl, rfl, _⟩ := Addr.mk.inj (Option.some.inj e)
  exact h1
/-- Drawn missorts in new memory. -/
def MsSg (W : World) (base r N : Nat) (e : Ending) (w' : World) : Prop := ∃ (v : Value) (L : List (Int × Int)), e = .returned v ∧ MsRow w' base v L ∧ L.length ≤ 5 ∧ SmallM L ∧ Sg W w' r N
theorem sg_cells {W w : World} {r N : Nat} (h : Sg W w r N) : ∀ k o, k < W.heap.size → k ≠ r → w.cell? ⟨k, o, none⟩ = W.cell? ⟨k, o, none⟩ := fun k o hk hr => World.cell?_of_block (h.only.block k hk hr)
theorem sg_frozen {W w : World} {r N : Nat} (h : Sg W w r N) : ∀ k o, k < W.heap.size → k ≠ r → w.frozen? ⟨k, o, none⟩ = W.frozen? ⟨k, o, none⟩ := fun k o hk hr => World.frozen?_of_block (h.only.block k hk hr)
theorem held_alloc {w : World} {P bb oo m : Nat} {b : Int} {I : Nat → Int} (h : w.cell? ⟨P, 0, none⟩ = some (.int .i64 b) ∧ ∀ i, i < m → w.cell? ⟨bb, oo + i * 2, none⟩ = some (.int .i64 (I i))) (hP : P < w.heap.size) (hb : bb < w.heap.size) (o : Obj) : (w.alloc o).cell? ⟨P, 0, none⟩ = some (.int .i64 b) ∧ ∀ i, i < m → (w.alloc o).cell? ⟨bb, oo + i * 2, none⟩ = some (.int .i64 (I i)) :=
  ⟨((below_alloc0 w o).cell (p := ⟨P, 0, none⟩) hP).trans h.1, fun i hi => ((below_alloc0 w o).cell (p := ⟨bb, oo + i * 2, none⟩) hb).trans (h.2 i hi)⟩
theorem held_set {w : World} {P bb oo m X : Nat} {b : Int} {I : Nat → Int} {u v : Value} (h : w.cell? ⟨P, 0, none⟩ = some (.int .i64 b) ∧ ∀ i, i < m → w.cell? ⟨bb, oo + i * 2, none⟩ = some (.int .i64 (I i))) (hP : P ≠ X) (hb : bb ≠ X) : ((w.setCell ⟨X, 0, none⟩ u).setCell ⟨X, 1, none⟩ v).cell? ⟨P, 0, none⟩ = some (.int .i64 b) ∧ ∀ i, i < m → ((w.setCell ⟨X, 0, none⟩ u).setCell ⟨X, 1, none⟩ v).cell? ⟨bb, oo + i * 2, none⟩ = some (.int .i64 (I i)) := by
  have sY : Only w ((w.setCell ⟨X, 0, none⟩ u).setCell ⟨X, 1, none⟩ v) (fun k => k = X) :=
    (Only.set w ⟨X, 0, none⟩ _ (S := fun k => k = X) rfl).trans (Only.set _ ⟨X, 1, none⟩ _ (S := fun k => k = X) rfl) (fun _ _ h => h)
  exact ⟨(World.cell?_of_block (sY.block P (World.block_lt_of_cell? _ _ h.1) hP)).trans h.1, fun i hi => (World.cell?_of_block (sY.block bb (World.block_lt_of_cell? _ _ (h.2 i hi)) hb)).trans (h.2 i hi)⟩
/-- The new missort x, in a block of its own. -/
structure DX (wr wx : World) (r N X : Nat) (i q : Int) : Prop where
  rd : Rd wx r N
  on : Only wr wx (fun k => k = r)
  c0 : wx.cell? ⟨X, 0, none⟩ = some (.int .i64 i)
  c1 : wx.cell? ⟨X, 1, none⟩ = some (.int .i64 q)
  hX : wr.heap.size ≤ X
theorem DX.new {wr w : World} {r N : Nat} (rd : Rd w r N) (on : Only wr w (fun k => k = r)) (i q : Int) (T : TypeId) : DX wr (w.alloc (.cells #[.int .i64 i, .int .i64 q] T)) r N w.heap.size i q :=
  ⟨rd.below (below_alloc0 w _), on.trans (Only.new (below_alloc0 w _)) (fun _ _ e => e), by simp [go_sem], by simp [go_sem], on.size⟩
theorem DX.set {wr w : World} {r N X : Nat} (rd : Rd w r N) (on : Only wr w (fun k => k = r)) (hr : r < X) (hX : wr.heap.size ≤ X) {u v : Value} (c0 : w.cell? ⟨X, 0, none⟩ = some u) (c1 : w.cell? ⟨X, 1, none⟩ = some v) (i q : Int) : DX wr ((w.setCell ⟨X, 0, none⟩ (.int .i64 i)).setCell ⟨X, 1, none⟩ (.int .i64 q)) r N X i q := by
  have sY : Only w ((w.setCell ⟨X, 0, none⟩ (.int .i64 i)).setCell ⟨X, 1, none⟩ (.int .i64 q)) (fun k => k = X) :=
    (Only.set w ⟨X, 0, none⟩ _ (S := fun k => k = X) rfl).trans (Only.set _ ⟨X, 1, none⟩ _ (S := fun k => k = X) rfl) (fun _ _ h => h)
  exact ⟨rd.only sY (fun k hk e => by omega), on.trans sY (fun k hk e => by omega), by simp [go_sem, c0], by simp [go_sem, c1], hX⟩

set_option maxHeartbeats 4000000 in
set_option maxRecDepth 100000 in
theorem l7Some_any (w : World) (r N : Nat) (b p : Int) (a : Option Addr) (n c : Nat) (h : Rd w r N) (hN : N ≤ 70000) (hb : 2 ≤ b ∧ b ≤ 10) (a2 : Option Addr) (m c2 : Nat) (I : Nat → Int) (C : Nat → ByteArray) (hl : Lts w a2 m I C) (hm : m ≤ 61) (hI : ∀ i, i < m → -1 ≤ I i ∧ I i ≤ 100000) (har : ∀ b' o', a2 = some ⟨b', o', none⟩ → b' ≠ r) :
    Calls Tryd.prog 88 #[.pointer (some ⟨r, 0, none⟩), .agg #[.int .i64 b, .int .i64 p, .slice a n c], .slice a2 m c2] w (MsSg w w.heap.size r (N + 20)) := by
  have hr := h.lt
  have b0 := below_alloc0 w (.cells #[.int .i64 b, .int .i64 p, .slice a n c] 25)
  have b1 := below_alloc0 (w.alloc (.cells #[.int .i64 b, .int .i64 p, .slice a n c] 25)) (.cells #[] 40)
  have SG1 := Lib.hid (((Sg.start h).alloc (.cells #[.int .i64 b, .int .i64 p, .slice a n c] 25)).alloc (.cells #[] 40))
  have X1 := Lib.hid ((tri_made w (.int .i64 b) (.int .i64 p) (.slice a n c) 25).alloc (.cells #[] 40))
  have L1 := Lib.hid ((hl.on b0).on b1)
  have R1 := Lib.hid (one_mrow (w.alloc (.cells #[.int .i64 b, .int .i64 p, .slice a n c] 25)))
  have hz0 : (w.alloc (.cells #[.int .i64 b, .int .i64 p, .slice a n c] 25)).heap.size = w.heap.size + 1 := by simp
  rw [hz0] at R1
  obtain ⟨W1, hW1⟩ : ∃ W1, (w.alloc (.cells #[.int .i64 b, .int .i64 p, .slice a n c] 25)).alloc (.cells #[] 40) = W1 := ⟨_, rfl⟩
  have z1 : W1.heap.size = w.heap.size + 2 := by rw [← hW1]; simp
  rw [hW1] at SG1 X1 L1 R1
  have HW1 := Lib.hid hW1
  have HI := Lib.hid hI
  have HAR := Lib.hid har
  have HAL : Hid (∀ b' o', a2 = some ⟨b', o', none⟩ → 0 < m → b' < w.heap.size) := fun b' o' e h0 => hl.lt e h0
  have hmx : max b 1 = b := by omega
  clear h hl hI har b0 b1 hW1 hz0
  go_enter Tryd.func88, Tryd.ntmps88
  go_wp2_with fail
  rw [HW1.out]
  refine (pick_sg W1 _ _ r _ (Sg.start SG1.out.1) (by omega) (by omega) (by omega)).mono ?_
  rintro e w1 ⟨t, rfl, t0, t1, sg1⟩
  obtain ⟨k0, rfl⟩ := Int.eq_ofNat_of_zero_le t0
  have hk0 : k0 ≤ 3 := by omega
  have z2 := sg1.2.size
  have SG2 := Lib.hid (SG1.out.trans sg1)
  have X2 := Lib.hid (X1.out.sg sg1 (by omega))
  have L2 := Lib.hid (L1.out.only sg1.only (fun b' o' e h0 hbad => HAR.out b' o' e hbad))
  have R2 := Lib.hid (R1.out.sg sg1 (by omega))
  have HS0 : Hid (SmallM []) := fun x hx => by cases hx
  clear sg1 SG1 X1 L1 R1 HW1
  go_wp2
  go_loopw [7, 8] (fun u i wr => ∃ (L' : List (Int × Int)) (k : Nat), k ≤ 3 ∧ i = .int .i64 k ∧ Hid (L'.length + k ≤ 3) ∧ Hid (SmallM L') ∧ Hid (MsRow wr (w.heap.size + 1) u L') ∧ Hid (Sg w wr r (N + 1 + 2 * (3 - k))) ∧ Hid (Tri wr w.heap.size (.int .i64 b) (.int .i64 p) (.slice a n c)) ∧ Hid (Lts wr a2 m I C) ∧ w1.heap.size ≤ wr.heap.size) (fun _ i _ => (intOf i).toNat)
  case atStart => exact ⟨[], k0, hk0, rfl, by show 0 + k0 ≤ 3; omega, HS0, R2, SG2.out.mono (by omega) (by omega), X2, L2, Nat.le_refl _⟩
  case round =>
    obtain ⟨L', k, hk, rfl, hlk, hsm, hrow, hsg, hx, hlt, hz⟩ := hrel
    obtain ⟨a9, c9, rfl, hlc, _⟩ := hrow.out.form
    by_cases hgo : 0 < k ∧ 0 < m
    · have hk1 : (0 : Int) < (k : Int) := by omega
      have hm1 : (0 : Int) < (m : Int) := by omega
      have hm2 : (1 : Int) ≤ (m : Int) := by omega
      have hm3 : (m : Int) ≤ 1000000 := by omega
      have hNb : N + 1 + 2 * (3 - k) < 100000 := by omega
      obtain ⟨bb, oo, ha2, _⟩ := hlt.out 0 (by omega)
      subst ha2
      have hbr := HAR.out bb oo rfl
      obtain ⟨⟨d0, d1, d2⟩, g0, g1, g2⟩ := hx.out
      have lx := hx.out.lt
      have hbw : bb < wr.heap.size := hlt.out.lt rfl (by omega)
      have q0 : ∀ i, i < m → wr.cell? ⟨bb, oo + i * 2, none⟩ = some (.int .i64 (I i)) := fun i hi => hlt.out.at' hi
      have rdL := hsg.out.1
      have oL : Only wr wr (fun k => k = r) := Only.refl _ _
      have hrw : r < wr.heap.size := by omega
      have hwr : wr.heap.size ≠ r := by omega
      have hgr : w.heap.size ≠ r := by omega
      go_wp2_with fail
      go_cut [9] from 13 to 44 (fun s9 wx => ∃ (X j : Nat) (q : Int), s9 = .pointer (some ⟨X, 0, none⟩) ∧ j < m ∧ 0 ≤ q ∧ q ≤ 10 ∧ Hid (DX wr wx r (N + 1 + 2 * (3 - k) + 2) X (I j) q))
      case first =>
        go_region_held3 (fun w' => w'.cell? ⟨w.heap.size, 0, none⟩ = some (.int .i64 b) ∧ ∀ i, i < m → w'.cell? ⟨bb, oo + i * 2, none⟩ = some (.int .i64 (I i))) (first | exact ⟨d0, q0⟩ | exact ⟨e7, q7⟩ | exact ⟨e8, q8⟩ | exact held_alloc ⟨e8, q8⟩ l8 b8 _ | exact held_alloc ⟨e7, q7⟩ l7 b7 _ | exact held_alloc ⟨d0, q0⟩ lx hbw _ | (refine held_set ⟨e8, q8⟩ ?_ ?_ <;> omega) | (refine held_set ⟨e7, q7⟩ ?_ ?_ <;> omega)) (first
          | (go_at_call_of 86 (Value.int .i64 (m : Int)); refine (pick_sg _ (m : Int) _ r _ (Sg.start (Rd.below rdL (by go_grown))) (by omega) hm2 hm3).mono ?_; rintro e w7 ⟨j7, rfl, j70, j71, st7⟩; obtain ⟨j, rfl⟩ := Int.eq_ofNat_of_zero_le j70; have hjm : j < m := (by omega); have z7 := st7.2.size; (try (have x7 : wr.heap.size < w7.heap.size := (by have hq := st7.2.size; simp at hq; omega))); (try (have y7 : w8.heap.size < w7.heap.size := (by have hq := st7.2.size; simp at hq; omega))); have o7 : Only wr w7 (fun k => k = r) := (by exact oL.trans ((Only.new (by go_grown)).trans st7.only (fun _ _ e => e)) (fun _ _ e => e)); have s7 : wr.heap.size ≤ w7.heap.size := o7.size; have hc7 := sg_cells st7; have hf7 := sg_frozen st7; have e7 : w7.cell? ⟨w.heap.size, 0, none⟩ = some (.int .i64 b) := (World.cell?_of_block (o7.block _ lx hgr)).trans d0; have q7 : ∀ i, i < m → w7.cell? ⟨bb, oo + i * 2, none⟩ = some (.int .i64 (I i)) := (fun i hi => (World.cell?_of_block (o7.block _ hbw hbr)).trans (q0 i hi)); have rdL := st7.1; have oL := o7; have l7 : w.heap.size < w7.heap.size := Nat.lt_of_lt_of_le lx o7.size; have b7 : bb < w7.heap.size := Nat.lt_of_lt_of_le hbw o7.size; have h7r : w7.heap.size ≠ r := (by have := st7.1.lt; have := o7.size; omega))
          | (go_at_call 86; refine (pick_sg _ _ _ r _ (Sg.start (Rd.below rdL (by go_grown))) (by omega) (by omega) (by omega)).mono ?_; rintro e w8 ⟨t8, rfl, y80, y81, st8⟩; have z8 := st8.2.size; (try (have x8 : wr.heap.size < w8.heap.size := (by have hq := st8.2.size; simp at hq; omega))); (try (have y8 : w7.heap.size < w8.heap.size := (by have hq := st8.2.size; simp at hq; omega))); have o8 : Only wr w8 (fun k => k = r) := (by exact oL.trans ((Only.new (by go_grown)).trans st8.only (fun _ _ e => e)) (fun _ _ e => e)); have s8 : wr.heap.size ≤ w8.heap.size := o8.size; have hc8 := sg_cells st8; have hf8 := sg_frozen st8; have e8 : w8.cell? ⟨w.heap.size, 0, none⟩ = some (.int .i64 b) := (World.cell?_of_block (o8.block _ lx hgr)).trans d0; have q8 : ∀ i, i < m → w8.cell? ⟨bb, oo + i * 2, none⟩ = some (.int .i64 (I i)) := (fun i hi => (World.cell?_of_block (o8.block _ hbw hbr)).trans (q0 i hi)); have rdL := st8.1; have oL := o8; have l8 : w.heap.size < w8.heap.size := Nat.lt_of_lt_of_le lx o8.size; have b8 : bb < w8.heap.size := Nat.lt_of_lt_of_le hbw o8.size; have h8r : w8.heap.size ≠ r := (by have := st8.1.lt; have := o8.size; omega)))
        all_goals
          go_wp2_with fail
          go_meet
          first
            | exact ⟨_, j, _, rfl, hjm, by omega, by omega, DX.new (rdL.mono (by omega) (by omega)) oL _ _ _⟩
            | exact ⟨_, j, _, rfl, hjm, by omega, by omega, DX.set (u := .int .i64 0) (v := .int .i64 0) (rdL.mono (by omega) (by omega)) oL (by omega) (by omega) (by simp [*]; done) (by simp [*]; done) _ _⟩
      case rest =>
        obtain ⟨X, j, q, rfl, hj, hq0, hq1, hdx⟩ := hcut
        have on := hdx.out.on
        have zc := on.size
        have X3 := Lib.hid (hx.out.only on (by omega))
        have L3 := Lib.hid (hlt.out.only on (fun b' o' e h0 hbad => HAR.out b' o' e hbad))
        have R3 := Lib.hid (hrow.out.only on (fun k hk => by have := (hrow.out.lt k hk).1; omega))
        have SG3 := Lib.hid (Sg.of_only hdx.out.rd (hsg.out.only.trans on (fun _ _ e => e)))
        have p0 := hdx.out.c0
        have p1 := hdx.out.c1
        have hXb := hdx.out.hX
        have lX := World.block_lt_of_cell? _ _ p0
        have hIj := HI.out j hj
        generalize I j = i at p0 hIj
        obtain ⟨a8, c8, e8, _, hms⟩ := R3.out.form
        injection e8 with e81 e82 e83
        subst e81
        have HMS := Lib.hid hms
        clear on hdx hms e82 e83 d0 d1 d2 g0 g1 g2 q0 rdL oL hx hlt hrow hsg
        go_wp2_with fail
        refine (l7Index_any wc a9 L'.length c9 (mI L') (mC L') i HMS.out (by have := hlk.out; omega)).mono ?_
        rintro e w4 ⟨ix, rfl, i0, i1, bl4⟩
        have z4 := bl4.size
        have R4 := Lib.hid (R3.out.on bl4)
        have X4 := Lib.hid (X3.out.on bl4)
        have L4 := Lib.hid (L3.out.on bl4)
        have SG4 := Lib.hid (SG3.out.below bl4)
        have p0 := (bl4.cell (p := ⟨X, 0, none⟩) lX).trans p0
        have p1 := (bl4.cell (p := ⟨X, 1, none⟩) lX).trans p1
        clear bl4 R3 X3 L3 SG3 HMS
        by_cases hneg : ix < 0
        · go_wp2_with (at_builtin; refine wpList_append_missort _ rfl _ _ rfl (w.heap.size + 1) _ L' rfl (R4.out.alloc _) _ i q rfl ?_ (by have := hlk.out; omega) (by simp; omega) ?_)
          · simp [go_sem]
          · intro v' w5 hr5 hg5 ho5
            have SG5 := Lib.hid (Sg.mgrown (SG4.out.alloc _) (R4.out.alloc _) (by omega) (by omega) hg5)
            have o5 : Only w4 w5 (fun k => some k = (Value.slice a9 L'.length c9).ownBlock) := (Only.new (below_alloc0 w4 _)).trans (Only.of_grown hg5) (fun _ _ h => h)
            have z5 := o5.size
            have hown : ∀ k, some k = (Value.slice a9 L'.length c9).ownBlock → w.heap.size + 1 ≤ k := fun k hk => (R4.out.lt k hk.symm).1
            have X5 := Lib.hid (X4.out.only o5 (fun e => by have := hown _ e; omega))
            have L5 := Lib.hid (L4.out.only o5 (fun b' o' e h0 hbad => by have h1 := hown _ hbad; have h2 := HAL.out b' o' e (by omega); omega))
            have R5 := Lib.hid hr5
            have SM5 := Lib.hid (hsm.out.add (i, q) (by show -9223372036854775808 ≤ i ∧ i ≤ 9223372036854775807; omega) (by show -9223372036854775808 ≤ q ∧ q ≤ 9223372036854775807; omega))
            have HL5 : Hid ((L' ++ [(i, q)]).length + (k - 1) ≤ 3) := by have := hlk.out; show (L' ++ [(i, q)]).length + (k - 1) ≤ 3; rw [List.length_append]; simp; omega
            clear hr5 hg5 ho5 o5 hown R4 X4 L4 SG4 p0 p1
            generalize L' ++ [(i, q)] = L2 at R5 SM5 HL5
            go_wp2
            go_roundw
            case rel => exact ⟨L2, k - 1, by omega, by go_num, HL5, SM5, R5, SG5.out.mono (by omega) (by omega), X5, L5, by omega⟩
            case measure => simp [intOf]; omega
        · have HL5 : Hid (L'.length + (k - 1) ≤ 3) := by have := hlk.out; show L'.length + (k - 1) ≤ 3; omega
          clear p0 p1
          go_wp2
          go_roundw
          case rel => exact ⟨L', k - 1, by omega, by go_num, HL5, hsm, R4, SG4.out.mono (by omega) (by omega), X4, L4, by omega⟩
          case measure => simp [intOf]; omega
    · obtain ⟨⟨d0, d1, d2⟩, g0, g1, g2⟩ := hx.out
      have lx := hx.out.lt
      have hrl0 := hsg.out.1.lt
      by_cases hk0 : 0 < k
      · obtain rfl : m = 0 := by omega
        have hk1 : (0 : Int) < (k : Int) := by omega
        go_wp2_with fail
        refine (pick_sg wr _ _ r _ (Sg.start hsg.out.1) (by omega) (by omega) (by omega)).mono ?_
        rintro e w3 ⟨t3, rfl, t30, t31, sg3⟩
        have z3 := sg3.2.size
        have SG3 := Lib.hid (hsg.out.trans sg3)
        have X3 := Lib.hid (hx.out.sg sg3 (by omega))
        have R3 := Lib.hid (hrow.out.sg sg3 (by omega))
        have hrl := sg3.1.lt
        clear sg3 d0 d1 d2 g0 g1 g2
        cases c0 : (t3 == 0)
        · cases c1 : (t3 == 1)
          · cases c2 : (t3 == 2)
            · go_wp2
              go_ret
              exact ⟨_, L', rfl, R3.out.lower (by omega), by have := hlk.out; omega, hsm.out, SG3.out.mono (by omega) (by omega)⟩
            · by_cases hl0 : 0 < L'.length
              · have hl0i : (0 : Int) < (L'.length : Int) := by omega
                obtain ⟨a8, c8, e8, _, hms⟩ := R3.out.form
                injection e8 with e81 e82 e83
                subst e81
                obtain ⟨g, o, ha9, p0, p1⟩ := hms 0 hl0
                subst ha9
                rw [Nat.zero_mul, Nat.add_zero] at p0 p1
                have hfit := hsm.out _ (List.getElem_mem hl0)
                rw [mI_at hl0] at p0
                rw [mC_at hl0] at p1
                generalize L'[0].1 = y0 at p0 hfit
                generalize L'[0].2 = y1 at p1 hfit
                clear hms e82 e83
                go_wp2_with (at_builtin; refine wpList_append_missort _ rfl _ _ rfl (w.heap.size + 1) _ L' rfl (R3.out.alloc _) _ y0 y1 rfl ?_ (by have := hlk.out; omega) (by simp; omega) ?_)
                · simp [go_sem]
                · intro v' w5 hr5 hg5 ho5
                  have SG5 := Lib.hid (Sg.mgrown (SG3.out.alloc _) (R3.out.alloc _) (by omega) (by omega) hg5)
                  have R5 := Lib.hid hr5
                  clear hr5 hg5 ho5 p0 p1
                  go_wp2
                  go_ret
                  exact ⟨_, _, rfl, R5.out.lower (by omega), by have := hlk.out; simp; omega, hsm.out.add _ hfit.1 hfit.2, SG5.out.mono (by omega) (by omega)⟩
              · have hl0i : ¬ (0 : Int) < (L'.length : Int) := by omega
                go_wp2
                go_ret
                exact ⟨_, L', rfl, R3.out.lower (by omega), by have := hlk.out; omega, hsm.out, SG3.out.mono (by omega) (by omega)⟩
          · obtain ⟨⟨d0, d1, d2⟩, g0, g1, g2⟩ := X3.out
            have lx3 := X3.out.lt
            go_wp2_with fail
            refine (num_sg _ [-1, b, 9223372036854775807] w3.heap.size _ r _ (Sg.start (SG3.out.1.below (below_alloc0 w3 _))) (by omega) (by simp) (by simp) (by omega) (cells_int [-1, b, 9223372036854775807] _ w3)).mono ?_
            rintro e w4 ⟨v, rfl, hm4, sg4⟩
            have hv : -1 ≤ v ∧ v ≤ 9223372036854775807 := by simp at hm4; omega
            have o34 : Only w3 w4 (fun k => k = r) := (Only.new (below_alloc0 w3 _)).trans sg4.only (fun _ _ e => e)
            have z4 := o34.size
            have R4 := Lib.hid (R3.out.only o34 (fun k hk => by have := (R3.out.lt k hk).1; omega))
            have SG4 := Lib.hid (Sg.of_only sg4.1 (SG3.out.only.trans o34 (fun _ _ e => e)))
            clear sg4 o34 hm4 d0 d1 d2 g0 g1 g2
            go_wp2_with (at_builtin; refine wpList_append_missort _ rfl _ _ rfl (w.heap.size + 1) _ L' rfl (R4.out.alloc _) _ 5000 v rfl ?_ (by have := hlk.out; omega) (by simp; omega) ?_)
            · simp [go_sem]
            · intro v' w5 hr5 hg5 ho5
              have SG5 := Lib.hid (Sg.mgrown (SG4.out.alloc _) (R4.out.alloc _) (by omega) (by omega) hg5)
              have R5 := Lib.hid hr5
              clear hr5 hg5 ho5
              go_wp2
              go_ret
              exact ⟨_, _, rfl, R5.out.lower (by omega), by have := hlk.out; simp; omega, hsm.out.add _ (by omega) (by omega), SG5.out.mono (by omega) (by omega)⟩
        · go_wp2_with fail
          refine (num_sg _ [0, 10000, 5, 9999] w3.heap.size _ r _ (Sg.start (SG3.out.1.below (below_alloc0 w3 _))) (by omega) (by simp) (by simp) (by omega) (cells_int [0, 10000, 5, 9999] _ w3)).mono ?_
          rintro e w4 ⟨v, rfl, hm4, sg4⟩
          have hv : -1 ≤ v ∧ v ≤ 10000 := by simp at hm4; omega
          have o34 : Only w3 w4 (fun k => k = r) := (Only.new (below_alloc0 w3 _)).trans sg4.only (fun _ _ e => e)
          have z4 := o34.size
          have R4 := Lib.hid (R3.out.only o34 (fun k hk => by have := (R3.out.lt k hk).1; omega))
          have SG4 := Lib.hid (Sg.of_only sg4.1 (SG3.out.only.trans o34 (fun _ _ e => e)))
          clear sg4 o34 hm4
          go_wp2_with (at_builtin; refine wpList_append_missort _ rfl _ _ rfl (w.heap.size + 1) _ L' rfl (R4.out.alloc _) _ v 0 rfl ?_ (by have := hlk.out; omega) (by simp; omega) ?_)
          · simp [go_sem]
          · intro v' w5 hr5 hg5 ho5
            have SG5 := Lib.hid (Sg.mgrown (SG4.out.alloc _) (R4.out.alloc _) (by omega) (by omega) hg5)
            have R5 := Lib.hid hr5
            clear hr5 hg5 ho5
            go_wp2
            go_ret
            exact ⟨_, _, rfl, R5.out.lower (by omega), by have := hlk.out; simp; omega, hsm.out.add _ (by omega) (by omega), SG5.out.mono (by omega) (by omega)⟩
      · obtain rfl : k = 0 := by omega
        go_wp2_with fail
        refine (pick_sg wr _ _ r _ (Sg.start hsg.out.1) (by omega) (by omega) (by omega)).mono ?_
        rintro e w3 ⟨t3, rfl, t30, t31, sg3⟩
        have z3 := sg3.2.size
        have SG3 := Lib.hid (hsg.out.trans sg3)
        have X3 := Lib.hid (hx.out.sg sg3 (by omega))
        have R3 := Lib.hid (hrow.out.sg sg3 (by omega))
        have hrl := sg3.1.lt
        clear sg3 d0 d1 d2 g0 g1 g2
        cases c0 : (t3 == 0)
        · cases c1 : (t3 == 1)
          · cases c2 : (t3 == 2)
            · go_wp2
              go_ret
              exact ⟨_, L', rfl, R3.out.lower (by omega), by have := hlk.out; omega, hsm.out, SG3.out.mono (by omega) (by omega)⟩
            · by_cases hl0 : 0 < L'.length
              · have hl0i : (0 : Int) < (L'.length : Int) := by omega
                obtain ⟨a8, c8, e8, _, hms⟩ := R3.out.form
                injection e8 with e81 e82 e83
                subst e81
                obtain ⟨g, o, ha9, p0, p1⟩ := hms 0 hl0
                subst ha9
                rw [Nat.zero_mul, Nat.add_zero] at p0 p1
                have hfit := hsm.out _ (List.getElem_mem hl0)
                rw [mI_at hl0] at p0
                rw [mC_at hl0] at p1
                generalize L'[0].1 = y0 at p0 hfit
                generalize L'[0].2 = y1 at p1 hfit
                clear hms e82 e83
                go_wp2_with (at_builtin; refine wpList_append_missort _ rfl _ _ rfl (w.heap.size + 1) _ L' rfl (R3.out.alloc _) _ y0 y1 rfl ?_ (by have := hlk.out; omega) (by simp; omega) ?_)
                · simp [go_sem]
                · intro v' w5 hr5 hg5 ho5
                  have SG5 := Lib.hid (Sg.mgrown (SG3.out.alloc _) (R3.out.alloc _) (by omega) (by omega) hg5)
                  have R5 := Lib.hid hr5
                  clear hr5 hg5 ho5 p0 p1
                  go_wp2
                  go_ret
                  exact ⟨_, _, rfl, R5.out.lower (by omega), by have := hlk.out; simp; omega, hsm.out.add _ hfit.1 hfit.2, SG5.out.mono (by omega) (by omega)⟩
              · have hl0i : ¬ (0 : Int) < (L'.length : Int) := by omega
                go_wp2
                go_ret
                exact ⟨_, L', rfl, R3.out.lower (by omega), by have := hlk.out; omega, hsm.out, SG3.out.mono (by omega) (by omega)⟩
          · obtain ⟨⟨d0, d1, d2⟩, g0, g1, g2⟩ := X3.out
            have lx3 := X3.out.lt
            go_wp2_with fail
            refine (num_sg _ [-1, b, 9223372036854775807] w3.heap.size _ r _ (Sg.start (SG3.out.1.below (below_alloc0 w3 _))) (by omega) (by simp) (by simp) (by omega) (cells_int [-1, b, 9223372036854775807] _ w3)).mono ?_
            rintro e w4 ⟨v, rfl, hm4, sg4⟩
            have hv : -1 ≤ v ∧ v ≤ 9223372036854775807 := by simp at hm4; omega
            have o34 : Only w3 w4 (fun k => k = r) := (Only.new (below_alloc0 w3 _)).trans sg4.only (fun _ _ e => e)
            have z4 := o34.size
            have R4 := Lib.hid (R3.out.only o34 (fun k hk => by have := (R3.out.lt k hk).1; omega))
            have SG4 := Lib.hid (Sg.of_only sg4.1 (SG3.out.only.trans o34 (fun _ _ e => e)))
            clear sg4 o34 hm4 d0 d1 d2 g0 g1 g2
            go_wp2_with (at_builtin; refine wpList_append_missort _ rfl _ _ rfl (w.heap.size + 1) _ L' rfl (R4.out.alloc _) _ 5000 v rfl ?_ (by have := hlk.out; omega) (by simp; omega) ?_)
            · simp [go_sem]
            · intro v' w5 hr5 hg5 ho5
              have SG5 := Lib.hid (Sg.mgrown (SG4.out.alloc _) (R4.out.alloc _) (by omega) (by omega) hg5)
              have R5 := Lib.hid hr5
              clear hr5 hg5 ho5
              go_wp2
              go_ret
              exact ⟨_, _, rfl, R5.out.lower (by omega), by have := hlk.out; simp; omega, hsm.out.add _ (by omega) (by omega), SG5.out.mono (by omega) (by omega)⟩
        · go_wp2_with fail
          refine (num_sg _ [0, 10000, 5, 9999] w3.heap.size _ r _ (Sg.start (SG3.out.1.below (below_alloc0 w3 _))) (by omega) (by simp) (by simp) (by omega) (cells_int [0, 10000, 5, 9999] _ w3)).mono ?_
          rintro e w4 ⟨v, rfl, hm4, sg4⟩
          have hv : -1 ≤ v ∧ v ≤ 10000 := by simp at hm4; omega
          have o34 : Only w3 w4 (fun k => k = r) := (Only.new (below_alloc0 w3 _)).trans sg4.only (fun _ _ e => e)
          have z4 := o34.size
          have R4 := Lib.hid (R3.out.only o34 (fun k hk => by have := (R3.out.lt k hk).1; omega))
          have SG4 := Lib.hid (Sg.of_only sg4.1 (SG3.out.only.trans o34 (fun _ _ e => e)))
          clear sg4 o34 hm4
          go_wp2_with (at_builtin; refine wpList_append_missort _ rfl _ _ rfl (w.heap.size + 1) _ L' rfl (R4.out.alloc _) _ v 0 rfl ?_ (by have := hlk.out; omega) (by simp; omega) ?_)
          · simp [go_sem]
          · intro v' w5 hr5 hg5 ho5
            have SG5 := Lib.hid (Sg.mgrown (SG4.out.alloc _) (R4.out.alloc _) (by omega) (by omega) hg5)
            have R5 := Lib.hid hr5
            clear hr5 hg5 ho5
            go_wp2
            go_ret
            exact ⟨_, _, rfl, R5.out.lower (by omega), by have := hlk.out; simp; omega, hsm.out.add _ (by omega) (by omega), SG5.out.mono (by omega) (by omega)⟩
end Go.Proofs.YtnaghfppeejaoaaDoor

/-
  Drawn plans with letters, a pass and missorts: l7Draw, and what hands its answer on.
-/
namespace Go.Proofs.YtnaghfppeejaoaaDoor
open Go.RowKit
set_option linter.unusedVariables false

/-- Drawn missorts, in memory that is new since w. -/
structure MsD (w w' : World) (a : Option Addr) (L : List (Int × Int)) (c : Nat) : Prop where
  ms : Mss w' a L.length (mI L) (mC L)
  mf : MFits L.length (mI L) (mC L)
  mn : L.length ≤ 5
  cap : L.length ≤ c
  new : ∀ b o, a = some ⟨b, o, none⟩ → 0 < L.length → w.heap.size ≤ b
theorem Mss.only {w w' : World} {T : Nat → Prop} {a : Option Addr} {n : Nat} {I C : Nat → Int} (h : Mss w a n I C) (ho : Only w w' T) (hn : ∀ b o, a = some ⟨b, o, none⟩ → 0 < n → ¬ T b) : Mss w' a n I C := fun i hi => by
  obtain ⟨b, o, rfl, h1, h2⟩ := h i hi
  have hb := World.block_lt_of_cell? _ _ h1
  have ht := hn b o rfl (by omega)
  exact ⟨b, o, rfl, (World.cell?_of_block (ho.block b hb ht)).trans h1, (World.cell?_of_block (ho.block b hb ht)).trans h2⟩
theorem MsD.on {w w1 w' : World} {a : Option Addr} {L : List (Int × Int)} {c : Nat} (h : MsD w w1 a L c) (hb : Below w1.heap.size w1 w') : MsD w w' a L c := ⟨h.ms.on hb, h.mf, h.mn, h.cap, h.new⟩
theorem MsD.old {w0 w w' : World} {a : Option Addr} {L : List (Int × Int)} {c : Nat} (h : MsD w w' a L c) (hz : w0.heap.size ≤ w.heap.size) : MsD w0 w' a L c := ⟨h.ms, h.mf, h.mn, h.cap, fun b o e h0 => Nat.le_trans hz (h.new b o e h0)⟩
theorem MsD.only {w w1 w' : World} {T : Nat → Prop} {a : Option Addr} {L : List (Int × Int)} {c : Nat} (h : MsD w w1 a L c) (ho : Only w1 w' T) (hn : ∀ k, w.heap.size ≤ k → ¬ T k) : MsD w w' a L c := ⟨h.ms.only ho (fun b o e h0 => hn b (h.new b o e h0)), h.mf, h.mn, h.cap, h.new⟩
theorem only_three {w2 : World} (y : Nat) (u0 u1 u2 : Value) : Only w2 (((w2.setCell ⟨y, 0, none⟩ u0).setCell ⟨y, 1, none⟩ u1).setCell ⟨y, 2, none⟩ u2) (fun k => k = y) :=
  ((Only.set w2 ⟨y, 0, none⟩ u0 (S := fun k => k = y) rfl).trans (Only.set _ ⟨y, 1, none⟩ u1 (S := fun k => k = y) rfl) (fun _ _ h => h)).trans (Only.set _ ⟨y, 2, none⟩ u2 (S := fun k => k = y) rfl) (fun _ _ h => h)
theorem MsD.handed {w w1 : World} {a : Option Addr} {L : List (Int × Int)} {c : Nat} {W : World} (h : MsD W w1 a L c) (hW : w.heap.size < W.heap.size) {w2 : World} (hb : Below w1.heap.size w1 w2) (u0 u1 u2 : Value) : MsD w (((w2.setCell ⟨w.heap.size, 0, none⟩ u0).setCell ⟨w.heap.size, 1, none⟩ u1).setCell ⟨w.heap.size, 2, none⟩ u2) a L c :=
  ((h.on hb).only (only_three w.heap.size u0 u1 u2) (fun k hk e => by omega)).old (by omega)
def PlanAllR (w : World) (r : Nat) (e : Ending) (w' : World) : Prop := ∃ (b p : Int) (a : Option Addr) (n c : Nat) (S : Nat → ByteArray) (a2 : Option Addr) (m c2 : Nat) (I : Nat → Int) (C : Nat → ByteArray) (x : Int) (a3 : Option Addr) (L : List (Int × Int)) (c3 : Nat), e = .returned (.tuple #[.agg #[.int .i64 b, .int .i64 p, .slice a n c], .slice a2 m c2, .int .i64 x, .slice a3 L.length c3]) ∧ PLd w w' b p a n S a2 m I C ∧ (-1 ≤ x ∧ x ≤ 9223372036854775807) ∧ Only w w' (fun k => k = r) ∧ m ≤ c2 ∧ MsD w w' a3 L c3
def PlanAll (w : World) (e : Ending) (w' : World) : Prop := ∃ (b p : Int) (a : Option Addr) (n c : Nat) (S : Nat → ByteArray) (a2 : Option Addr) (m c2 : Nat) (I : Nat → Int) (C : Nat → ByteArray) (x : Int) (a3 : Option Addr) (L : List (Int × Int)) (c3 : Nat), e = .returned (.tuple #[.agg #[.int .i64 b, .int .i64 p, .slice a n c], .slice a2 m c2, .int .i64 x, .slice a3 L.length c3]) ∧ PLd w w' b p a n S a2 m I C ∧ (-1 ≤ x ∧ x ≤ 9223372036854775807) ∧ Below w.heap.size w w' ∧ m ≤ c2 ∧ MsD w w' a3 L c3

set_option maxHeartbeats 4000000 in
set_option maxRecDepth 100000 in
theorem l7Draw_any (w : World) (r N : Nat) (h : Rd w r N) (hN : N ≤ 1000) :
    Calls Tryd.prog 43 #[.pointer (some ⟨r, 0, none⟩)] w (PlanAllR w r) := by
  have hr := h.lt
  have ba0 := below_alloc0 w (.cells #[.int .i64 0, .int .i64 0, .slice none 0 0] 25)
  have BY1 := Lib.hid (tri_made w (.int .i64 0) (.int .i64 0) (.slice none 0 0) 25)
  have RD1 := Lib.hid (h.below ba0)
  have B1 : Hid (Below w.heap.size w (w.alloc (.cells #[.int .i64 0, .int .i64 0, .slice none 0 0] 25))) := ba0
  obtain ⟨w1, hw1⟩ : ∃ w1, w.alloc (.cells #[.int .i64 0, .int .i64 0, .slice none 0 0] 25) = w1 := ⟨_, rfl⟩
  have z1 : w1.heap.size = w.heap.size + 1 := by rw [← hw1]; simp
  rw [hw1] at BY1 RD1 B1
  have HW1 := Lib.hid hw1
  clear h ba0 hw1
  go_enter Tryd.func43, Tryd.ntmps43
  go_wp2_with fail
  rw [HW1.out]
  refine (l3Some_any _ r _ RD1.out (by omega)).mono ?_
  rintro e w2 ⟨b, p, v, P, rfl, hb, hp, hrow, l1, l2, hsm, sg2⟩
  obtain ⟨a2, c, hv, _, _⟩ := hrow.form
  cases hv
  rcases hrow.cases with ⟨e1, e2⟩ | ⟨g, c', e1, hbg, hgl, hlc⟩
  · rw [e2] at l1; simp at l1
  cases e1
  have z2 := sg2.2.size
  have o2 : Only w1 w2 (fun k => k = r) := sg2.only
  have O2 : Hid (Only w w2 (fun k => k = r)) := (Only.new B1.out).trans o2 (fun _ _ e => e)
  have BY2 := Lib.hid (BY1.out.only o2 (by omega))
  have ba := below_alloc0 w2 (.cells #[.int .i64 b, .int .i64 p, .slice (some ⟨g, 0, none⟩) P.length c] 25)
  have X3 := Lib.hid (tri_made w2 (.int .i64 b) (.int .i64 p) (.slice (some ⟨g, 0, none⟩) P.length c) 25)
  have R3 : Hid (SRow (w2.alloc (.cells #[.int .i64 b, .int .i64 p, .slice (some ⟨g, 0, none⟩) P.length c] 25)) w1.heap.size (.slice (some ⟨g, 0, none⟩) P.length c) P) := (hrow.base (Nat.le_succ _)).below ba
  have Y3 := Lib.hid (BY2.out.on ba)
  have RD3 := Lib.hid (sg2.1.below ba)
  have O3 : Hid (Only w (w2.alloc (.cells #[.int .i64 b, .int .i64 p, .slice (some ⟨g, 0, none⟩) P.length c] 25)) (fun k => k = r)) := O2.out.trans (Only.new ba) (fun _ _ e => e)
  have HSM := Lib.hid hsm
  obtain ⟨W3, hW3⟩ : ∃ W3, w2.alloc (.cells #[.int .i64 b, .int .i64 p, .slice (some ⟨g, 0, none⟩) P.length c] 25) = W3 := ⟨_, rfl⟩
  have zW : W3.heap.size = w2.heap.size + 1 := by rw [← hW3]; simp
  rw [hW3] at X3 R3 Y3 RD3 O3
  have HW3 := Lib.hid hW3
  clear hW3 hrow hsm sg2 o2 ba BY1 BY2 B1 RD1 O2 HW1
  obtain ⟨⟨d0, d1, d2⟩, g0, g1, g2⟩ := X3.out
  have h3 := R3.out.strs'
  have hs7 : ∀ i, i < P.length → (sC P i).size ≤ 7 := fun i hi => by rw [sC_at hi]; exact HSM.out _ (List.getElem_mem hi)
  go_wp2_with fail
  rw [HW3.out]
  refine (l3Mail_any _ r _ b p _ P.length c (sC P) RD3.out (by omega) h3 ⟨l1, by omega⟩ hs7 (fun b' o' e => by injection e with e; injection e with e; omega)).mono ?_
  rintro e w4 ⟨v, L, rfl, R4, l4, M4, sg4⟩
  have D4 : Hid (DrS w w4 r (N + 300 + 300) w.heap.size w1.heap.size w2.heap.size b p g c P v L) := by
    have o4 := sg4.only
    exact ⟨sg4.1, Y3.out.only o4 (by omega), X3.out.only o4 (by omega), R3.out.only o4 (fun k hk => by have := (R3.out.lt k hk).1; omega), by rw [← zW]; exact R4, O3.out.trans o4 (fun _ _ e => e), by omega, by omega, by omega, by omega, by omega, Nat.le_refl _⟩
  have HM4 := Lib.hid M4
  obtain ⟨av, cv, rfl, _, _⟩ := R4.form
  clear sg4 R4 M4 X3 Y3 R3 RD3 O3 HW3 d0 d1 d2 g0 g1 g2 h3 hs7
  obtain ⟨⟨d0, d1, d2⟩, g0, g1, g2⟩ := D4.out.xx
  go_wp2_with fail
  refine (pick_sg _ _ _ r _ (Sg.start D4.out.rd) (by omega) (by omega) (by omega)).mono ?_
  rintro e w5 ⟨x, rfl, x0, x1, sg5⟩
  have D5 := Lib.hid (D4.out.step sg5.1 sg5.only)
  clear sg5 D4 d0 d1 d2 g0 g1 g2
  go_wp2_with fail
  refine (pick_sg _ _ _ r _ (Sg.start D5.out.rd) (by omega) (by omega) (by omega)).mono ?_
  rintro e w6 ⟨t, rfl, t0, t1, sg6⟩
  have D6 := Lib.hid (D5.out.step sg6.1 sg6.only)
  clear sg6 D5
  obtain ⟨⟨d0, d1, d2⟩, g0, g1, g2⟩ := D6.out.xx
  have hlx := D6.out.xx.lt
  cases ct : (t == 0)
  · obtain ⟨_, _, hfv, _, hlv⟩ := D6.out.lr.form
    injection hfv with hf1 hf2 hf3
    subst hf1
    have HLV := Lib.hid hlv
    have har : ∀ b' o', av = some ⟨b', o', none⟩ → b' ≠ r := fun b' o' e => by
      have h1 := (D6.out.lr.lt b' (by rw [e]; rfl)).1
      have h2 := D6.out.rg
      have h3 := D6.out.bg
      have h4 := D6.out.gx
      omega
    have HAR := Lib.hid har
    have hI7 : ∀ i, i < L.length → -1 ≤ nI L i ∧ nI L i ≤ 100000 := fun i hi => by rw [nI_at hi]; exact (HM4.out.at i hi).1
    have HI7 := Lib.hid hI7
    clear hlv har hI7 hf2 hf3
    go_wp2_with fail
    refine (l7Some_any _ r _ b p _ P.length c D6.out.rd (by omega) hb av L.length cv (nI L) (nC L) HLV.out (by omega) HI7.out HAR.out).mono ?_
    rintro e wm ⟨vm, LM, rfl, RM, lM, sM, sgm⟩
    obtain ⟨am, cm, rfl, hcm, _⟩ := RM.form
    have zm := sgm.2.size
    have DM := Lib.hid (D6.out.step sgm.1 sgm.only)
    have RMH := Lib.hid RM
    have SMH := Lib.hid sM
    have HCM := Lib.hid hcm
    have hwd := D6.out.lr
    have hlv9 := D6.out.xx.lt
    clear sgm RM sM hcm d0 d1 d2 g0 g1 g2 HLV
    obtain ⟨⟨d0, d1, d2⟩, g0, g1, g2⟩ := DM.out.xx
    have hlxm := DM.out.xx.lt
    go_wp2_with fail
    refine (l3Bad_any _ r _ w1.heap.size b p _ c P DM.out.rd (by omega) DM.out.pr (by omega) l1 l2 HSM.out (by omega) hp).mono ?_
    rintro e w8 ⟨b', p', a', c', P', rfl, hb', hp', R8, l8, S8, rd8, o8, n8⟩
    have R8' := Lib.hid R8
    have S8' := Lib.hid S8
    have RD8 := Lib.hid rd8
    have O8 := Lib.hid o8
    have N8 := Lib.hid n8
    clear R8 S8 rd8 o8 n8 d0 d1 d2 g0 g1 g2
    have LR8 : Row w8 (w2.heap.size + 1) (.slice av L.length cv) L := DM.out.lr.only O8.out (fun k hk e => by
      have := (DM.out.lr.lt k hk).1
      rcases e with e | e
      · omega
      · have e2 : g = k := by simpa [Value.ownBlock] using e
        omega)
    go_wp2_with fail
    refine (l2Bad_only _ r _ (w2.heap.size + 1) (.slice av L.length cv) L RD8.out (by omega) LR8 (by omega) (by omega) HM4.out).mono ?_
    rintro e w9 ⟨v9, L9, rfl, R9, l9, S9, rd9, o9, _⟩
    obtain ⟨_, _, Y9, O9, hfin⟩ := DM.out.done hb' hp' R8'.out l8 S8'.out RD8.out O8.out N8.out R9 l9 S9 o9 (M := 0)
    obtain ⟨a2, c2, hv9, hcp, hpl, hol⟩ := hfin (.int .i64 b') (.int .i64 p') (.slice a' P'.length c')
    have HCP := Lib.hid hcp
    have HPL := Lib.hid hpl
    have HOL := Lib.hid hol
    have hbig : ∀ k, (Value.slice am LM.length cm).ownBlock = some k → w6.heap.size ≤ k := fun k hk => (RMH.out.lt k hk).1
    have hrr := D6.out.rd.lt
    have RM8 := RMH.out.only O8.out (fun k hk e => by
      have h1 := hbig k hk
      rcases e with e | e
      · omega
      · have e2 : g = k := by simpa [Value.ownBlock] using e
        omega)
    have RM9 := RM8.only o9 (fun k hk e => by
      have h1 := hbig k hk
      rcases e with e | e
      · omega
      · have := (hwd.lt k e).2; omega)
    have RMF := RM9.only (only_three w.heap.size (.int .i64 b') (.int .i64 p') (.slice a' P'.length c')) (fun k hk e => by
      have h1 := hbig k hk
      have := D6.out.yy.lt
      omega)
    have MSD : Hid (MsD w (((w9.setCell ⟨w.heap.size, 0, none⟩ (.int .i64 b')).setCell ⟨w.heap.size, 1, none⟩ (.int .i64 p')).setCell ⟨w.heap.size, 2, none⟩ (.slice a' P'.length c')) am LM cm) := by
      obtain ⟨a8, c8, e8, _, hms⟩ := RMF.form
      injection e8 with e81 e82 e83
      subst e81
      exact ⟨hms, SMH.out.fits, lM, HCM.out, fun k o e _ => by have h1 := hbig k (by rw [e]; rfl); have := D6.out.yy.lt; omega⟩
    subst hv9
    obtain ⟨⟨ee0, ee1, ee2⟩, ff0, ff1, ff2⟩ := Y9
    have lty := World.block_lt_of_cell? _ _ ee0
    clear hcp hpl hol R9 S9 rd9 o9 LR8 hfin O9 hbig RM8 RM9 RMF hwd
    go_wp2
    refine bodyPost_ret (v := .tuple #[.agg #[.int .i64 b', .int .i64 p', .slice a' P'.length c'], .slice a2 L9.length c2, .int .i64 x, .slice am LM.length cm]) (by simp [results, Tryd.results43, go_sem, ee0, ee1, ee2]) rfl ?_
    exact ⟨b', p', a', P'.length, c', sC P', a2, L9.length, c2, nI L9, nC L9, x, am, LM, cm, rfl, HPL.out, by omega, HOL.out, HCP.out, MSD.out⟩
  · go_wp2_with fail
    refine (num_sg _ [-1, p, 9223372036854775807] w6.heap.size _ r _ (Sg.start (D6.out.rd.below (below_alloc0 w6 _))) (by omega) (by simp) (by simp) (by have := D6.out.rd.lt; omega) (cells_int [-1, p, 9223372036854775807] _ w6)).mono ?_
    rintro e w7 ⟨x7, rfl, hm7, sg7⟩
    have hx7 : -1 ≤ x7 ∧ x7 ≤ 9223372036854775807 := by simp at hm7; omega
    have D7 := Lib.hid (D6.out.step sg7.1 ((Only.new (below_alloc0 w6 _)).trans sg7.only (fun _ _ e => e)))
    clear sg7 D6 hm7 d0 d1 d2 g0 g1 g2
    obtain ⟨⟨d0, d1, d2⟩, g0, g1, g2⟩ := D7.out.xx
    have hlx7 := D7.out.xx.lt
    obtain ⟨_, _, hfv, _, hlv⟩ := D7.out.lr.form
    injection hfv with hf1 hf2 hf3
    subst hf1
    have HLV := Lib.hid hlv
    have har : ∀ b' o', av = some ⟨b', o', none⟩ → b' ≠ r := fun b' o' e => by
      have h1 := (D7.out.lr.lt b' (by rw [e]; rfl)).1
      have h2 := D7.out.rg
      have h3 := D7.out.bg
      have h4 := D7.out.gx
      omega
    have HAR := Lib.hid har
    have hI7 : ∀ i, i < L.length → -1 ≤ nI L i ∧ nI L i ≤ 100000 := fun i hi => by rw [nI_at hi]; exact (HM4.out.at i hi).1
    have HI7 := Lib.hid hI7
    clear hlv har hI7 hf2 hf3
    go_wp2_with fail
    refine (l7Some_any _ r _ b p _ P.length c D7.out.rd (by omega) hb av L.length cv (nI L) (nC L) HLV.out (by omega) HI7.out HAR.out).mono ?_
    rintro e wm ⟨vm, LM, rfl, RM, lM, sM, sgm⟩
    obtain ⟨am, cm, rfl, hcm, _⟩ := RM.form
    have zm := sgm.2.size
    have DM := Lib.hid (D7.out.step sgm.1 sgm.only)
    have RMH := Lib.hid RM
    have SMH := Lib.hid sM
    have HCM := Lib.hid hcm
    have hwd := D7.out.lr
    have hlv9 := D7.out.xx.lt
    clear sgm RM sM hcm d0 d1 d2 g0 g1 g2 HLV
    obtain ⟨⟨d0, d1, d2⟩, g0, g1, g2⟩ := DM.out.xx
    have hlxm := DM.out.xx.lt
    go_wp2_with fail
    refine (l3Bad_any _ r _ w1.heap.size b p _ c P DM.out.rd (by omega) DM.out.pr (by omega) l1 l2 HSM.out (by omega) hp).mono ?_
    rintro e w8 ⟨b', p', a', c', P', rfl, hb', hp', R8, l8, S8, rd8, o8, n8⟩
    have R8' := Lib.hid R8
    have S8' := Lib.hid S8
    have RD8 := Lib.hid rd8
    have O8 := Lib.hid o8
    have N8 := Lib.hid n8
    clear R8 S8 rd8 o8 n8 d0 d1 d2 g0 g1 g2
    have LR8 : Row w8 (w2.heap.size + 1) (.slice av L.length cv) L := DM.out.lr.only O8.out (fun k hk e => by
      have := (DM.out.lr.lt k hk).1
      rcases e with e | e
      · omega
      · have e2 : g = k := by simpa [Value.ownBlock] using e
        omega)
    go_wp2_with fail
    refine (l2Bad_only _ r _ (w2.heap.size + 1) (.slice av L.length cv) L RD8.out (by omega) LR8 (by omega) (by omega) HM4.out).mono ?_
    rintro e w9 ⟨v9, L9, rfl, R9, l9, S9, rd9, o9, _⟩
    obtain ⟨_, _, Y9, O9, hfin⟩ := DM.out.done hb' hp' R8'.out l8 S8'.out RD8.out O8.out N8.out R9 l9 S9 o9 (M := 0)
    obtain ⟨a2, c2, hv9, hcp, hpl, hol⟩ := hfin (.int .i64 b') (.int .i64 p') (.slice a' P'.length c')
    have HCP := Lib.hid hcp
    have HPL := Lib.hid hpl
    have HOL := Lib.hid hol
    have hbig : ∀ k, (Value.slice am LM.length cm).ownBlock = some k → w7.heap.size ≤ k := fun k hk => (RMH.out.lt k hk).1
    have hrr := D7.out.rd.lt
    have RM8 := RMH.out.only O8.out (fun k hk e => by
      have h1 := hbig k hk
      rcases e with e | e
      · omega
      · have e2 : g = k := by simpa [Value.ownBlock] using e
        omega)
    have RM9 := RM8.only o9 (fun k hk e => by
      have h1 := hbig k hk
      rcases e with e | e
      · omega
      · have := (hwd.lt k e).2; omega)
    have RMF := RM9.only (only_three w.heap.size (.int .i64 b') (.int .i64 p') (.slice a' P'.length c')) (fun k hk e => by
      have h1 := hbig k hk
      have := D7.out.yy.lt
      omega)
    have MSD : Hid (MsD w (((w9.setCell ⟨w.heap.size, 0, none⟩ (.int .i64 b')).setCell ⟨w.heap.size, 1, none⟩ (.int .i64 p')).setCell ⟨w.heap.size, 2, none⟩ (.slice a' P'.length c')) am LM cm) := by
      obtain ⟨a8, c8, e8, _, hms⟩ := RMF.form
      injection e8 with e81 e82 e83
      subst e81
      exact ⟨hms, SMH.out.fits, lM, HCM.out, fun k o e _ => by have h1 := hbig k (by rw [e]; rfl); have := D7.out.yy.lt; omega⟩
    subst hv9
    obtain ⟨⟨ee0, ee1, ee2⟩, ff0, ff1, ff2⟩ := Y9
    have lty := World.block_lt_of_cell? _ _ ee0
    clear hcp hpl hol R9 S9 rd9 o9 LR8 hfin O9 hbig RM8 RM9 RMF hwd
    go_wp2
    refine bodyPost_ret (v := .tuple #[.agg #[.int .i64 b', .int .i64 p', .slice a' P'.length c'], .slice a2 L9.length c2, .int .i64 x7, .slice am LM.length cm]) (by simp [results, Tryd.results43, go_sem, ee0, ee1, ee2]) rfl ?_
    exact ⟨b', p', a', P'.length, c', sC P', a2, L9.length, c2, nI L9, nC L9, x7, am, LM, cm, rfl, HPL.out, by omega, HOL.out, HCP.out, MSD.out⟩

set_option maxHeartbeats 2000000 in
set_option maxRecDepth 100000 in
theorem DrawRunRestarted_any (a : Option Addr) (l k : Nat) (z : List Int) (w : World) (h : IsRow .u8 w a l k z) :
    Calls Tryd.prog 40 #[.slice a l k] w (PlanAll w) := by
  have h' := Lib.hid (h.below (below_alloc0 w (.cells #[.int .i64 0, .int .i64 0, .slice none 0 0] 25)))
  have BY0 := Lib.hid (tri_made w (.int .i64 0) (.int .i64 0) (.slice none 0 0) 25)
  clear h
  go_enter Tryd.func40, Tryd.ntmps40
  go_wp2_with fail
  refine (open_any _ _ _ _ _ h'.out).mono ?_
  rintro e w1 ⟨r, rfl, rd1, bl1, hr1⟩
  have BY1 := Lib.hid (BY0.out.on bl1)
  have B1 : Hid (Below w.heap.size w w1) := sstep (below_alloc0 w _) bl1
  have hrw : w.heap.size < r := by simp at hr1; omega
  have RD1 := Lib.hid rd1
  have hrl := rd1.lt
  clear BY0 h' rd1 bl1 hr1
  go_wp2_with fail
  refine (l7Draw_any _ r _ RD1.out (by omega)).mono ?_
  rintro e w2 ⟨b, p, a2, n, c, S, a3, m, c3, I, C, x, a4, LM, c4, rfl, hpl, hx, ho, hcp, hms⟩
  have HCP := Lib.hid hcp
  have HP := Lib.hid hpl
  have HMS := Lib.hid hms
  have B2 : Hid (Below w.heap.size w w2) := ((Only.new (S := fun k => k = r) B1.out).trans ho (fun _ _ e => e)).below (B := w.heap.size) (fun k hk hk2 e => by omega) (Nat.le_refl _)
  have Y2 := BY1.out.only ho (by omega)
  have ly := Y2.lt
  obtain ⟨⟨e0, e1, e2⟩, f0, f1, f2⟩ := Y2
  clear hpl hcp hms ho BY1 B1 RD1
  go_wp2
  refine bodyPost_ret (v := .tuple #[.agg #[.int .i64 b, .int .i64 p, .slice a2 n c], .slice a3 m c3, .int .i64 x, .slice a4 LM.length c4]) (by simp [results, Tryd.results40, go_sem, e0, e1, e2]) rfl ?_
  exact ⟨b, p, a2, n, c, S, a3, m, c3, I, C, x, a4, LM, c4, rfl, HP.out.handed (by omega) (Below.refl _ _) _ _ _, hx, below_three B2.out _ _ _, HCP.out, HMS.out.handed (by omega) (Below.refl _ _) _ _ _⟩

set_option maxHeartbeats 2000000 in
set_option maxRecDepth 100000 in
theorem DrawRunRepaired_any (a : Option Addr) (l k : Nat) (z : List Int) (w : World) (h : IsRow .u8 w a l k z) :
    Calls Tryd.prog 34 #[.slice a l k] w (PlanAll w) := by
  have h' := Lib.hid (h.below (below_alloc0 w (.cells #[.int .i64 0, .int .i64 0, .slice none 0 0] 25)))
  have BY0 := Lib.hid (tri_made w (.int .i64 0) (.int .i64 0) (.slice none 0 0) 25)
  clear h
  go_enter Tryd.func34, Tryd.ntmps34
  go_wp2_with fail
  refine (open_any _ _ _ _ _ h'.out).mono ?_
  rintro e w1 ⟨r, rfl, rd1, bl1, hr1⟩
  have BY1 := Lib.hid (BY0.out.on bl1)
  have B1 : Hid (Below w.heap.size w w1) := sstep (below_alloc0 w _) bl1
  have hrw : w.heap.size < r := by simp at hr1; omega
  have RD1 := Lib.hid rd1
  have hrl := rd1.lt
  clear BY0 h' rd1 bl1 hr1
  go_wp2_with fail
  refine (l7Draw_any _ r _ RD1.out (by omega)).mono ?_
  rintro e w2 ⟨b, p, a2, n, c, S, a3, m, c3, I, C, x, a4, LM, c4, rfl, hpl, hx, ho, hcp, hms⟩
  have HCP := Lib.hid hcp
  have HP := Lib.hid hpl
  have HMS := Lib.hid hms
  have B2 : Hid (Below w.heap.size w w2) := ((Only.new (S := fun k => k = r) B1.out).trans ho (fun _ _ e => e)).below (B := w.heap.size) (fun k hk hk2 e => by omega) (Nat.le_refl _)
  have Y2 := BY1.out.only ho (by omega)
  have ly := Y2.lt
  obtain ⟨⟨e0, e1, e2⟩, f0, f1, f2⟩ := Y2
  clear hpl hcp hms ho BY1 B1 RD1
  go_wp2
  refine bodyPost_ret (v := .tuple #[.agg #[.int .i64 b, .int .i64 p, .slice a2 n c], .slice a3 m c3, .int .i64 x, .slice a4 LM.length c4]) (by simp [results, Tryd.results34, go_sem, e0, e1, e2]) rfl ?_
  exact ⟨b, p, a2, n, c, S, a3, m, c3, I, C, x, a4, LM, c4, rfl, HP.out.handed (by omega) (Below.refl _ _) _ _ _, hx, below_three B2.out _ _ _, HCP.out, HMS.out.handed (by omega) (Below.refl _ _) _ _ _⟩

set_option maxHeartbeats 2000000 in
set_option maxRecDepth 100000 in
theorem DrawFaultyPass_any (a : Option Addr) (l k : Nat) (z : List Int) (w : World) (h : IsRow .u8 w a l k z) :
    Calls Tryd.prog 11 #[.slice a l k] w (PlanAll w) := by
  have h' := Lib.hid (h.below (below_alloc0 w (.cells #[.int .i64 0, .int .i64 0, .slice none 0 0] 25)))
  have BY0 := Lib.hid (tri_made w (.int .i64 0) (.int .i64 0) (.slice none 0 0) 25)
  clear h
  go_enter Tryd.func11, Tryd.ntmps11
  go_wp2_with fail
  refine (open_any _ _ _ _ _ h'.out).mono ?_
  rintro e w1 ⟨r, rfl, rd1, bl1, hr1⟩
  have BY1 := Lib.hid (BY0.out.on bl1)
  have B1 : Hid (Below w.heap.size w w1) := sstep (below_alloc0 w _) bl1
  have hrw : w.heap.size < r := by simp at hr1; omega
  have RD1 := Lib.hid rd1
  have hrl := rd1.lt
  clear BY0 h' rd1 bl1 hr1
  go_wp2_with fail
  refine (l7Draw_any _ r _ RD1.out (by omega)).mono ?_
  rintro e w2 ⟨b, p, a2, n, c, S, a3, m, c3, I, C, x, a4, LM, c4, rfl, hpl, hx, ho, hcp, hms⟩
  have HCP := Lib.hid hcp
  have HP := Lib.hid hpl
  have HMS := Lib.hid hms
  have B2 : Hid (Below w.heap.size w w2) := ((Only.new (S := fun k => k = r) B1.out).trans ho (fun _ _ e => e)).below (B := w.heap.size) (fun k hk hk2 e => by omega) (Nat.le_refl _)
  have Y2 := BY1.out.only ho (by omega)
  have ly := Y2.lt
  obtain ⟨⟨e0, e1, e2⟩, f0, f1, f2⟩ := Y2
  clear hpl hcp hms ho BY1 B1 RD1
  go_wp2
  refine bodyPost_ret (v := .tuple #[.agg #[.int .i64 b, .int .i64 p, .slice a2 n c], .slice a3 m c3, .int .i64 x, .slice a4 LM.length c4]) (by simp [results, Tryd.results11, go_sem, e0, e1, e2]) rfl ?_
  exact ⟨b, p, a2, n, c, S, a3, m, c3, I, C, x, a4, LM, c4, rfl, HP.out.handed (by omega) (Below.refl _ _) _ _ _, hx, below_three B2.out _ _ _, HCP.out, HMS.out.handed (by omega) (Below.refl _ _) _ _ _⟩
end Go.Proofs.YtnaghfppeejaoaaDoor
