/-
  Drawn plans, and plans that are sometimes none.
-/
import Derived.Test.YtccfjeijnadjfaaDoorDrawG
import Derived.Test.YtccfjeijnadjfaaDoorRank
import Derived.Test.YtccfjeijnadjfaaDoorMgT3
import Derived.Deep.AppendLies
import Derived.Deep.RegionLaw
import Derived.WalkLawsBesides
namespace Go.Proofs.YtccfjeijnadjfaaDoor
open Go.RowKit

def SmallS (z : Nat) (L : List ByteArray) : Prop := ∀ x ∈ L, x.size ≤ z
theorem SRow.sg {w w' : World} {base r N : Nat} {v : Value} {L : List ByteArray} (h : SRow w base v L) (hs : Sg w w' r N) (hr : r < base) : SRow w' base v L :=
  h.kept hs.2 (fun b hb e => by have := (h.lt b hb).1; injection e with e; omega)
theorem Rd.sgrown {w w' : World} {base r N : Nat} {v : Value} {L : List ByteArray} (h : Rd w r N) (hr : SRow w base v L) (hrb : r < base) (hg : w.grownBy w' v.ownBlock) : Rd w' r N := by
  have hlt := h.lt
  have hne : ∀ b, b ≤ r → some b ≠ v.ownBlock := fun b hb e => by have := (hr.lt b e.symm).1; omega
  obtain ⟨p, a, l, k, hp, hN, h0, h1, hf, hlk, hk, hl, hB⟩ := h
  refine ⟨p, a, l, k, hp, hN, hg.cell h0 (hne r (Nat.le_refl _)), hg.cell h1 (hne r (Nat.le_refl _)), (World.frozen?_of_block (a := ⟨r, 1, none⟩) (hg.block r hlt (hne r (Nat.le_refl _)))).trans hf, hlk, hk, hl, ?_⟩
  rcases hB with hB | ⟨b, off, rfl, hbr, hB⟩
  · exact Or.inl hB
  · refine Or.inr ⟨b, off, rfl, hbr, fun i hi => ?_⟩
    obtain ⟨x, hx, x0, x1⟩ := hB i hi
    exact ⟨x, hg.cell hx (hne b (by omega)), x0, x1⟩
theorem Sg.sgrown {W w w' : World} {base r N : Nat} {v : Value} {L : List ByteArray} (h : Sg W w r N) (hr : SRow w base v L) (hb : W.heap.size ≤ base) (hrb : r < base) (hg : w.grownBy w' v.ownBlock) : Sg W w' r N :=
  ⟨h.1.sgrown hr hrb hg, h.2.andThen hg fun j e => Or.inl (Nat.le_trans hb (hr.lt j e).1)⟩
def SRowSg (W : World) (base m r N : Nat) (e : Ending) (w' : World) : Prop := ∃ (v : Value) (L : List ByteArray), e = .returned v ∧ SRow w' base v L ∧ 1 ≤ L.length ∧ L.length ≤ m ∧ SmallS 7 L ∧ Sg W w' r N
/-- A plan by value whose codes nobody but the call knows. -/
def PlanSg (W : World) (base r N : Nat) (e : Ending) (w' : World) : Prop := ∃ (b p : Int) (v : Value) (L : List ByteArray), e = .returned (.agg #[.int .i64 b, .int .i64 p, v]) ∧ (2 ≤ b ∧ b ≤ 10) ∧ (1 ≤ p ∧ p ≤ 4) ∧ SRow w' base v L ∧ 1 ≤ L.length ∧ L.length ≤ 12 ∧ SmallS 7 L ∧ Sg W w' r N
theorem max_one (q : Int) (h : q ≤ 4) : 1 ≤ max q 1 ∧ max q 1 ≤ 4 := by omega
theorem Tri.sg {w w' : World} {r N b : Nat} {x y z : Value} (h : Tri w b x y z) (hs : Sg w w' r N) (hr : r ≠ b) : Tri w' b x y z := by
  have hlt := h.lt
  obtain ⟨⟨h0, h1, h2⟩, f0, f1, f2⟩ := h
  have hb := hs.2.block b hlt (by intro e; injection e with e; exact hr e.symm)
  have k : ∀ o, w'.cell? ⟨b, o, none⟩ = w.cell? ⟨b, o, none⟩ := fun o => World.cell?_of_block hb
  have q : ∀ o, w'.frozen? ⟨b, o, none⟩ = w.frozen? ⟨b, o, none⟩ := fun o => World.frozen?_of_block hb
  exact ⟨⟨by rw [k]; exact h0, by rw [k]; exact h1, by rw [k]; exact h2⟩, by rw [q]; exact f0, by rw [q]; exact f1, by rw [q]; exact f2⟩
theorem Tri.setOther {w : World} {b : Nat} {x y z : Value} (h : Tri w b x y z) {p : Addr} (hc : b ≠ p.block) (v : Value) : Tri (w.setCell p v) b x y z := by
  obtain ⟨⟨h0, h1, h2⟩, f0, f1, f2⟩ := h
  have hb := Below.heap_setCell w p v b hc
  have k : ∀ i, (w.setCell p v).cell? ⟨b, i, none⟩ = w.cell? ⟨b, i, none⟩ := fun i => World.cell?_of_block hb
  have q : ∀ i, (w.setCell p v).frozen? ⟨b, i, none⟩ = w.frozen? ⟨b, i, none⟩ := fun i => World.frozen?_of_block hb
  exact ⟨⟨by rw [k]; exact h0, by rw [k]; exact h1, by rw [k]; exact h2⟩, by rw [q]; exact f0, by rw [q]; exact f1, by rw [q]; exact f2⟩
theorem Tri.stored {w : World} {b : Nat} {x y z : Value} (h : Tri w b x y z) (p q r : Value) : Tri (((w.setCell ⟨b, 0, none⟩ p).setCell ⟨b, 1, none⟩ q).setCell ⟨b, 2, none⟩ r) b p q r := by
  obtain ⟨⟨h0, h1, h2⟩, f0, f1, f2⟩ := h
  exact ⟨⟨by simp [go_sem, h0], by simp [go_sem, h1], by simp [go_sem, h2]⟩, by simp [go_sem, f0], by simp [go_sem, f1], by simp [go_sem, f2]⟩
theorem Sg.set {W w : World} {r N : Nat} (h : Sg W w r N) {p : Addr} (hp : W.heap.size ≤ p.block) (hr : r < p.block) (u : Value) : Sg W (w.setCell p u) r N := by
  refine ⟨?_, h.2.andThen (grown_set w p u) fun j e => Or.inl (by injection e with e; omega)⟩
  have hlt := h.1.lt
  obtain ⟨q, a, l, k, hq, hN, h0, h1, hf, hlk, hk, hl, hB⟩ := h.1
  have hg := grown_set w p u
  have hne : ∀ b, b ≤ r → some b ≠ some p.block := fun b hb e => by injection e with e; omega
  refine ⟨q, a, l, k, hq, hN, hg.cell h0 (hne r (Nat.le_refl _)), hg.cell h1 (hne r (Nat.le_refl _)), (World.frozen?_of_block (a := ⟨r, 1, none⟩) (hg.block r hlt (hne r (Nat.le_refl _)))).trans hf, hlk, hk, hl, ?_⟩
  rcases hB with hB | ⟨b, off, rfl, hbr, hB⟩
  · exact Or.inl hB
  · refine Or.inr ⟨b, off, rfl, hbr, fun i hi => ?_⟩
    obtain ⟨x, hx, x0, x1⟩ := hB i hi
    exact ⟨x, hg.cell hx (hne b (by omega)), x0, x1⟩
theorem Sg.three {W w : World} {r N b : Nat} (h : Sg W w r N) (hp : W.heap.size ≤ b) (hr : r < b) (x y z : Value) : Sg W (((w.setCell ⟨b, 0, none⟩ x).setCell ⟨b, 1, none⟩ y).setCell ⟨b, 2, none⟩ z) r N :=
  ((h.set (p := ⟨b, 0, none⟩) hp hr x).set (p := ⟨b, 1, none⟩) hp hr y).set (p := ⟨b, 2, none⟩) hp hr z
theorem SRow.three {w : World} {base b : Nat} {v : Value} {L : List ByteArray} (h : SRow w base v L) (hb : ∀ k, v.ownBlock = some k → k ≠ b) (x y z : Value) : SRow (((w.setCell ⟨b, 0, none⟩ x).setCell ⟨b, 1, none⟩ y).setCell ⟨b, 2, none⟩ z) base v L :=
  ((h.set (p := ⟨b, 0, none⟩) hb x).set (p := ⟨b, 1, none⟩) hb y).set (p := ⟨b, 2, none⟩) hb z

theorem Tri.only {w w' : World} {b : Nat} {x y z : Value} {S : Nat → Prop} (h : Tri w b x y z) (ho : Only w w' S) (hn : ¬ S b) : Tri w' b x y z := by
  have hlt := h.lt
  obtain ⟨⟨h0, h1, h2⟩, f0, f1, f2⟩ := h
  have hb := ho.block b hlt hn
  have k : ∀ i, w'.cell? ⟨b, i, none⟩ = w.cell? ⟨b, i, none⟩ := fun i => World.cell?_of_block hb
  have q : ∀ i, w'.frozen? ⟨b, i, none⟩ = w.frozen? ⟨b, i, none⟩ := fun i => World.frozen?_of_block hb
  exact ⟨⟨by rw [k]; exact h0, by rw [k]; exact h1, by rw [k]; exact h2⟩, by rw [q]; exact f0, by rw [q]; exact f1, by rw [q]; exact f2⟩
theorem Rd.only {w w' : World} {r N : Nat} {S : Nat → Prop} (h : Rd w r N) (ho : Only w w' S) (hn : ∀ k, k ≤ r → ¬ S k) : Rd w' r N := by
  have hlt := h.lt
  obtain ⟨q, a, l, k, hq, hN, h0, h1, hf, hlk, hk, hl, hB⟩ := h
  have hc : ∀ b o, b ≤ r → w'.cell? ⟨b, o, none⟩ = w.cell? ⟨b, o, none⟩ := fun b o hb => World.cell?_of_block (ho.block b (by omega) (hn b hb))
  refine ⟨q, a, l, k, hq, hN, (hc r 0 (Nat.le_refl _)).trans h0, (hc r 1 (Nat.le_refl _)).trans h1, (World.frozen?_of_block (a := ⟨r, 1, none⟩) (ho.block r hlt (hn r (Nat.le_refl _)))).trans hf, hlk, hk, hl, ?_⟩
  rcases hB with hB | ⟨b, off, rfl, hbr, hB⟩
  · exact Or.inl hB
  · refine Or.inr ⟨b, off, rfl, hbr, fun i hi => ?_⟩
    obtain ⟨x, hx, x0, x1⟩ := hB i hi
    exact ⟨x, (hc b _ (by omega)).trans hx, x0, x1⟩
theorem Sg.only {W w : World} {r N : Nat} (h : Sg W w r N) : Only W w (fun k => k = r) := (Only.of_grown h.2).mono fun x _ e => by injection e
/-- Behind l3Bad: a plan by value, whose codes lie where they lay or in new memory. -/
def PlanBad (w : World) (base r N : Nat) (row : Option Nat) (e : Ending) (w' : World) : Prop := ∃ (b p : Int) (a : Option Addr) (c : Nat) (L : List ByteArray), e = .returned (.agg #[.int .i64 b, .int .i64 p, .slice a L.length c]) ∧ (-9223372036854775808 ≤ b ∧ b ≤ 9223372036854775807) ∧ (0 ≤ p ∧ p ≤ 5) ∧ SRow w' base (.slice a L.length c) L ∧ L.length ≤ 13 ∧ SmallS 30 L ∧ Rd w' r (N + 20) ∧ Only w w' (fun k => k = r ∨ row = some k) ∧ ((Value.slice a L.length c).ownBlock = row ∨ ∃ g, (Value.slice a L.length c).ownBlock = some g ∧ w.heap.size ≤ g)
end Go.Proofs.YtccfjeijnadjfaaDoor
