/-
  Drawn plans, and plans that are sometimes none.
-/
import Derived.Test.YtihbpalhbbingaaDrawG
import Derived.Test.YtihbpalhbbingaaRank
import Derived.Test.YtihbpalhbbingaaSCat
import Derived.Deep.AppendLies
import Derived.Deep.RegionLaw
import Derived.WalkLawsBesides
import Derived.Test.YtihbpalhbbingaaDrawB
namespace Go.Proofs.Ytihbpalhbbingaa
open Go.RowKit

def SmallS (z : Nat) (L : List ByteArray) : Prop := ∀ x ∈ L, x.size ≤ z
theorem SRow.sg {w w' : World} {base r N : Nat} {v : Value} {L : List ByteArray} (h : SRow w base v L) (hs : Sg w w' r N) (hr : r < base) : SRow w' base v L :=
  h.kept hs.2 (fun b hb e => by have := (h.lt b hb).1; injection e with e; omega)
theorem Rd.sgrown {w w' : World} {base r N : Nat} {v : Value} {L : List ByteArray} (h : Rd w r N) (hr : SRow w base v L) (hrb : r < base) (hg : w.grownBy w' v.ownBlock) : Rd w' r N := by
  have hlt := h.lt
  have hne : ∀ b, b ≤ r → some b ≠ v.ownBlock := fun b hb e => by have := (hr.lt b e.symm).1; omega
  obtain ⟨p, a, l, k, hp, hN, h0, h1, hf, hlk, hk, hl, hB⟩ := h
  refine ⟨p, a, l, k, hp, hN, hg.cell h0 (hne r (Nat.le_refl _)), hg.cell h1 (hne r (Nat.le_refl _)), (World.frozen?_of_block (a := ⟨r, 1, none⟩) (hg.block r hlt (hne r (Nat.le_refl _)))).trans hf, hlk, hk, hl, ?_⟩
  rcases hB with hB | ⟨b, off, rfl, hbr, hB⟩
  · exact Or.inl hB
  · refine Or.inr ⟨b, off, rfl, hbr, fun i hi => ?_⟩
    obtain ⟨x, hx, x0, x1⟩ := hB i hi
    exact ⟨x, hg.cell hx (hne b (by omega)), x0, x1⟩
theorem Sg.sgrown {W w w' : World} {base r N : Nat} {v : Value} {L : List ByteArray} (h : Sg W w r N) (hr : SRow w base v L) (hb : W.heap.size ≤ base) (hrb : r < base) (hg : w.grownBy w' v.ownBlock) : Sg W w' r N :=
  ⟨h.1.sgrown hr hrb hg, h.2.andThen hg fun j e => Or.inl (Nat.le_trans hb (hr.lt j e).1)⟩
def SRowSg (W : World) (base m r N : Nat) (e : Ending) (w' : World) : Prop := ∃ (v : Value) (L : List ByteArray), e = .returned v ∧ SRow w' base v L ∧ 1 ≤ L.length ∧ L.length ≤ m ∧ SmallS 7 L ∧ Sg W w' r N
/-- A plan by value whose codes nobody but the call knows. -/
def PlanSg (W : World) (base r N : Nat) (e : Ending) (w' : World) : Prop := ∃ (b p : Int) (v : Value) (L : List ByteArray), e = .returned (.agg #[.int .i64 b, .int .i64 p, v]) ∧ (2 ≤ b ∧ b ≤ 10) ∧ (1 ≤ p ∧ p ≤ 4) ∧ SRow w' base v L ∧ 1 ≤ L.length ∧ L.length ≤ 12 ∧ SmallS 7 L ∧ Sg W w' r N
theorem max_one (q : Int) (h : q ≤ 4) : 1 ≤ max q 1 ∧ max q 1 ≤ 4 := by omega
theorem Tri.sg {w w' : World} {r N b : Nat} {x y z : Value} (h : Tri w b x y z) (hs : Sg w w' r N) (hr : r ≠ b) : Tri w' b x y z := by
  have hlt := h.lt
  obtain ⟨⟨h0, h1, h2⟩, f0, f1, f2⟩ := h
  have hb := hs.2.block b hlt (by intro e; injection e with e; exact hr e.symm)
  have k : ∀ o, w'.cell? ⟨b, o, none⟩ = w.cell? ⟨b, o, none⟩ := fun o => World.cell?_of_block hb
  have q : ∀ o, w'.frozen? ⟨b, o, none⟩ = w.frozen? ⟨b, o, none⟩ := fun o => World.frozen?_of_block hb
  exact ⟨⟨by rw [k]; exact h0, by rw [k]; exact h1, by rw [k]; exact h2⟩, by rw [q]; exact f0, by rw [q]; exact f1, by rw [q]; exact f2⟩
theorem Tri.setOther {w : World} {b : Nat} {x y z : Value} (h : Tri w b x y z) {p : Addr} (hc : b ≠ p.block) (v : Value) : Tri (w.setCell p v) b x y z := by
  obtain ⟨⟨h0, h1, h2⟩, f0, f1, f2⟩ := h
  have hb := Below.heap_setCell w p v b hc
  have k : ∀ i, (w.setCell p v).cell? ⟨b, i, none⟩ = w.cell? ⟨b, i, none⟩ := fun i => World.cell?_of_block hb
  have q : ∀ i, (w.setCell p v).frozen? ⟨b, i, none⟩ = w.frozen? ⟨b, i, none⟩ := fun i => World.frozen?_of_block hb
  exact ⟨⟨by rw [k]; exact h0, by rw [k]; exact h1, by rw [k]; exact h2⟩, by rw [q]; exact f0, by rw [q]; exact f1, by rw [q]; exact f2⟩
theorem Tri.stored {w : World} {b : Nat} {x y z : Value} (h : Tri w b x y z) (p q r : Value) : Tri (((w.setCell ⟨b, 0, none⟩ p).setCell ⟨b, 1, none⟩ q).setCell ⟨b, 2, none⟩ r) b p q r := by
  obtain ⟨⟨h0, h1, h2⟩, f0, f1, f2⟩ := h
  exact ⟨⟨by simp [go_sem, h0], by simp [go_sem, h1], by simp [go_sem, h2]⟩, by simp [go_sem, f0], by simp [go_sem, f1], by simp [go_sem, f2]⟩
theorem Sg.set {W w : World} {r N : Nat} (h : Sg W w r N) {p : Addr} (hp : W.heap.size ≤ p.block) (hr : r < p.block) (u : Value) : Sg W (w.setCell p u) r N := by
  refine ⟨?_, h.2.andThen (grown_set w p u) fun j e => Or.inl (by injection e with e; omega)⟩
  have hlt := h.1.lt
  obtain ⟨q, a, l, k, hq, hN, h0, h1, hf, hlk, hk, hl, hB⟩ := h.1
  have hg := grown_set w p u
  have hne : ∀ b, b ≤ r → some b ≠ some p.block := fun b hb e => by injection e with e; omega
  refine ⟨q, a, l, k, hq, hN, hg.cell h0 (hne r (Nat.le_refl _)), hg.cell h1 (hne r (Nat.le_refl _)), (World.frozen?_of_block (a := ⟨r, 1, none⟩) (hg.block r hlt (hne r (Nat.le_refl _)))).trans hf, hlk, hk, hl, ?_⟩
  rcases hB with hB | ⟨b, off, rfl, hbr, hB⟩
  · exact Or.inl hB
  · refine Or.inr ⟨b, off, rfl, hbr, fun i hi => ?_⟩
    obtain ⟨x, hx, x0, x1⟩ := hB i hi
    exact ⟨x, hg.cell hx (hne b (by omega)), x0, x1⟩
theorem Sg.three {W w : World} {r N b : Nat} (h : Sg W w r N) (hp : W.heap.size ≤ b) (hr : r < b) (x y z : Value) : Sg W (((w.setCell ⟨b, 0, none⟩ x).setCell ⟨b, 1, none⟩ y).setCell ⟨b, 2, none⟩ z) r N :=
  ((h.set (p := ⟨b, 0, none⟩) hp hr x).set (p := ⟨b, 1, none⟩) hp hr y).set (p := ⟨b, 2, none⟩) hp hr z
theorem SRow.three {w : World} {base b : Nat} {v : Value} {L : List ByteArray} (h : SRow w base v L) (hb : ∀ k, v.ownBlock = some k → k ≠ b) (x y z : Value) : SRow (((w.setCell ⟨b, 0, none⟩ x).setCell ⟨b, 1, none⟩ y).setCell ⟨b, 2, none⟩ z) base v L :=
  ((h.set (p := ⟨b, 0, none⟩) hb x).set (p := ⟨b, 1, none⟩) hb y).set (p := ⟨b, 2, none⟩) hb z

theorem Tri.only {w w' : World} {b : Nat} {x y z : Value} {S : Nat → Prop} (h : Tri w b x y z) (ho : Only w w' S) (hn : ¬ S b) : Tri w' b x y z := by
  have hlt := h.lt
  obtain ⟨⟨h0, h1, h2⟩, f0, f1, f2⟩ := h
  have hb := ho.block b hlt hn
  have k : ∀ i, w'.cell? ⟨b, i, none⟩ = w.cell? ⟨b, i, none⟩ := fun i => World.cell?_of_block hb
  have q : ∀ i, w'.frozen? ⟨b, i, none⟩ = w.frozen? ⟨b, i, none⟩ := fun i => World.frozen?_of_block hb
  exact ⟨⟨by rw [k]; exact h0, by rw [k]; exact h1, by rw [k]; exact h2⟩, by rw [q]; exact f0, by rw [q]; exact f1, by rw [q]; exact f2⟩
theorem Rd.only {w w' : World} {r N : Nat} {S : Nat → Prop} (h : Rd w r N) (ho : Only w w' S) (hn : ∀ k, k ≤ r → ¬ S k) : Rd w' r N := by
  have hlt := h.lt
  obtain ⟨q, a, l, k, hq, hN, h0, h1, hf, hlk, hk, hl, hB⟩ := h
  have hc : ∀ b o, b ≤ r → w'.cell? ⟨b, o, none⟩ = w.cell? ⟨b, o, none⟩ := fun b o hb => World.cell?_of_block (ho.block b (by omega) (hn b hb))
  refine ⟨q, a, l, k, hq, hN, (hc r 0 (Nat.le_refl _)).trans h0, (hc r 1 (Nat.le_refl _)).trans h1, (World.frozen?_of_block (a := ⟨r, 1, none⟩) (ho.block r hlt (hn r (Nat.le_refl _)))).trans hf, hlk, hk, hl, ?_⟩
  rcases hB with hB | ⟨b, off, rfl, hbr, hB⟩
  · exact Or.inl hB
  · refine Or.inr ⟨b, off, rfl, hbr, fun i hi => ?_⟩
    obtain ⟨x, hx, x0, x1⟩ := hB i hi
    exact ⟨x, (hc b _ (by omega)).trans hx, x0, x1⟩
theorem Sg.only {W w : World} {r N : Nat} (h : Sg W w r N) : Only W w (fun k => k = r) := (Only.of_grown h.2).mono fun x _ e => by injection e
/-- Behind l3Bad: a plan by value, whose codes lie where they lay or in new memory. -/
def PlanBad (w : World) (base r N : Nat) (row : Option Nat) (e : Ending) (w' : World) : Prop := ∃ (b p : Int) (a : Option Addr) (c : Nat) (L : List ByteArray), e = .returned (.agg #[.int .i64 b, .int .i64 p, .slice a L.length c]) ∧ (-9223372036854775808 ≤ b ∧ b ≤ 9223372036854775807) ∧ (0 ≤ p ∧ p ≤ 5) ∧ SRow w' base (.slice a L.length c) L ∧ L.length ≤ 13 ∧ SmallS 30 L ∧ Rd w' r (N + 20) ∧ Only w w' (fun k => k = r ∨ row = some k) ∧ ((Value.slice a L.length c).ownBlock = row ∨ ∃ g, (Value.slice a L.length c).ownBlock = some g ∧ w.heap.size ≤ g)
end Go.Proofs.Ytihbpalhbbingaa

/-
  Plans that are sometimes none.
-/
namespace Go.Proofs.Ytihbpalhbbingaa
open Go.RowKit

theorem SmallS.mono {z z' : Nat} {L : List ByteArray} (h : SmallS z L) (hz : z ≤ z') : SmallS z' L := fun x hx => Nat.le_trans (h x hx) hz
theorem SRow.cut0 {w : World} {base g c : Nat} {L : List ByteArray} (h : SRow w base (.slice (some ⟨g, 0, none⟩) L.length c) L) : SRow w base (.slice (some ⟨g, 0, none⟩) ([] : List ByteArray).length c) [] := by
  rcases h.2 with ⟨e, _⟩ | ⟨g', cap, cur, e, h1, h2, h3, h4, h5, _⟩
  · cases e
  · cases e
    exact ⟨rfl, Or.inr ⟨g, c, cur, rfl, h1, h2, Nat.zero_le _, h4, h5, by simp [scells]⟩⟩
/-- The end of l3Bad: the plan is laid into the result's block. -/
theorem planBad_end {w wz : World} {r N base y : Nat} {b p : Int} {a : Option Addr} {c : Nat} {L : List ByteArray} {row : Option Nat} (hy : w.heap.size ≤ y) (hr : r < w.heap.size) (R : SRow wz base (.slice a L.length c) L) (RD : Rd wz r (N + 20)) (O : Only w wz (fun k => k = r ∨ row = some k))
    (hgy : ∀ k, (Value.slice a L.length c).ownBlock = some k → k ≠ y) (hb : -9223372036854775808 ≤ b ∧ b ≤ 9223372036854775807) (hp : 0 ≤ p ∧ p ≤ 5) (hl : L.length ≤ 13) (hs : SmallS 30 L) (ho : (Value.slice a L.length c).ownBlock = row ∨ ∃ g, (Value.slice a L.length c).ownBlock = some g ∧ w.heap.size ≤ g) (x0 x1 x2 : Value) :
    PlanBad w base r N row (.returned (.agg #[.int .i64 b, .int .i64 p, .slice a L.length c])) (((wz.setCell ⟨y, 0, none⟩ x0).setCell ⟨y, 1, none⟩ x1).setCell ⟨y, 2, none⟩ x2) := by
  have h3 : Only wz (((wz.setCell ⟨y, 0, none⟩ x0).setCell ⟨y, 1, none⟩ x1).setCell ⟨y, 2, none⟩ x2) (fun k => k = y) :=
    ((Only.set wz ⟨y, 0, none⟩ x0 (S := fun k => k = y) rfl).trans (Only.set _ ⟨y, 1, none⟩ x1 (S := fun k => k = y) rfl) (fun _ _ h => h)).trans (Only.set _ ⟨y, 2, none⟩ x2 (S := fun k => k = y) rfl) (fun _ _ h => h)
  refine ⟨b, p, a, c, L, rfl, hb, hp, R.only h3 hgy, hl, hs, RD.only h3 (fun k hk => by omega), O.trans h3 (fun x hx e => by omega), ho⟩

end Go.Proofs.Ytihbpalhbbingaa

/-
  Letters that are sometimes no batch: what is written beside them.
-/
namespace Go.Proofs.Ytihbpalhbbingaa
open Go.RowKit
set_option linter.unusedVariables false

/-- Letters behind l2Bad: only the reader's block and their own are written. -/
def RowBadO (w : World) (base r N : Nat) (row : Option Nat) (e : Ending) (w' : World) : Prop := ∃ (v' : Value) (L' : List (Int × ByteArray)), e = .returned v' ∧ Row w' base v' L' ∧ L'.length ≤ 61 ∧ Small 30 L' ∧ Rd w' r (N + 20) ∧ Only w w' (fun k => k = r ∨ row = some k) ∧ (v'.ownBlock = row ∨ ∃ k, v'.ownBlock = some k ∧ w.heap.size ≤ k)
set_option maxHeartbeats 2000000 in
theorem l2Bad_only (w : World) (r N base : Nat) (v : Value) (L : List (Int × ByteArray)) (h : Rd w r N) (hN : N ≤ 80000) (hrow : Row w base v L) (hrb : r < base) (hl : L.length ≤ 40) (hs : Small 7 L) :
    Calls Try.prog 52 #[.pointer (some ⟨r, 0, none⟩), v] w (RowBadO w base r N v.ownBlock) := by
  have hr := h.lt
  have HS := Lib.hid hs
  have HSW := Lib.hid (hs.mono (z' := 30) (by omega))
  by_cases h0 : L.length = 0
  · obtain ⟨a, c, rfl, _, _⟩ := hrow.form
    rw [h0]
    rw [h0] at hrow
    have HR := Lib.hid hrow
    have RD := Lib.hid h
    clear hrow h hs
    go_enter Try.func52, Try.ntmps52
    go_wp2
    go_ret
    exact ⟨_, L, rfl, HR, by omega, HSW, RD.out.mono (by omega) (by omega), Only.refl _ _, Or.inl rfl⟩
  rcases hrow.cases with ⟨rfl, rfl⟩ | ⟨g, c, rfl, hbg, hgl⟩
  · exact absurd rfl h0
  have HR := Lib.hid hrow
  have SG := Lib.hid (Sg.start h)
  have hz : ((L.length : Int) == 0) = false := by rw [beq_eq_false_iff_ne]; omega
  have hown : (Value.slice (some ⟨g, 0, none⟩) L.length c).ownBlock = some g := rfl
  rw [hown]
  clear hrow h hs hown
  go_enter Try.func52, Try.ntmps52
  go_wp2_with fail
  refine (pick_sg _ _ _ r _ SG.out (by omega) (by omega) (by omega)).mono ?_
  rintro e w1 ⟨j, rfl, j0, j1, sg1⟩
  obtain ⟨j, rfl⟩ := Int.eq_ofNat_of_zero_le j0
  have hj : j < L.length := by omega
  clear SG
  have SG := Lib.hid sg1
  clear sg1
  go_wp2_with fail
  refine (pick_sg _ _ _ r _ SG.out (by omega) (by omega) (by omega)).mono ?_
  rintro e w2 ⟨t, rfl, t0, t1, sg2⟩
  have RD2 := Lib.hid sg2.1
  have O2 : Hid (Only w w2 (fun k => k = r ∨ some g = some k)) := sg2.only.mono fun x _ h => Or.inl h
  have R2 := Lib.hid (HR.out.sg sg2 hrb)
  have hr2 := sg2.1.lt
  have hs2 := sg2.2.size
  clear sg2 SG HR
  cases c0 : (t == 0)
  · cases c1 : (t == 1)
    · cases c2 : (t == 2)
      · go_wp2
        go_ret
        exact ⟨_, L, rfl, R2.out, by omega, HSW, RD2.out.mono (by omega) (by omega), O2.out, Or.inl rfl⟩
      · go_wp2
        go_loopw [1] (fun u wr => ∃ (L' : List (Int × ByteArray)), L'.length ≤ 61 ∧ Hid (Small 30 L') ∧ Hid (Row wr base u L') ∧ Hid (Rd wr r (N + 1 + 1)) ∧ Hid (Only w wr (fun k => k = r ∨ some g = some k)) ∧ Hid (u.ownBlock = some g ∨ ∃ k, u.ownBlock = some k ∧ w.heap.size ≤ k) ∧ w2.heap.size ≤ wr.heap.size) (fun u _ => 61 - lenOf u)
        case atStart => exact ⟨L, by omega, HSW, R2, RD2, O2, Or.inl rfl, Nat.le_refl _⟩
        case round =>
          obtain ⟨L', hl', hsm, hrow, hrd, hbl, hown, hsz⟩ := hrel
          obtain ⟨a, c', rfl, hlc, _⟩ := hrow.out.form
          by_cases hlt : L'.length < 61
          · have sk : IntKind.i64.wrap (1000 + (L'.length : Int)) = 1000 + (L'.length : Int) := IntWalk.i64_in _ (by omega)
            have hli : (L'.length : Int) < 61 := by omega
            go_wp2_with (at_builtin; refine wpList_append_letter _ rfl _ _ rfl base _ _ rfl (hrow.out.alloc _) _ (1000 + (L'.length : Int)) ⟨#[49, 50, 48, 48, 49, 48, 49]⟩ rfl ?_ (by omega) (by simp; omega) ?_)
            · simp [go_sem]
            · intro v' w4 hr4 hg4 ho4
              have o4 : Only wr w4 (fun k => some k = (Value.slice a L'.length c').ownBlock) := (Only.new (S := fun k => some k = (Value.slice a L'.length c').ownBlock) (below_alloc' wr _)).trans (Only.of_grown hg4) (fun _ _ h => h)
              have O4 : Hid (Only w w4 (fun k => k = r ∨ some g = some k)) := hbl.out.trans o4 (fun x hx e => by
                rcases hown.out with h | ⟨k, h, hk⟩
                · exact Or.inr (by rw [← h, e])
                · rw [h] at e; injection e with e; omega)
              have H4 : Hid (v'.ownBlock = some g ∨ ∃ k, v'.ownBlock = some k ∧ w.heap.size ≤ k) := by
                rcases ho4 with e | e
                · rw [Hid, e]; exact hown.out
                · exact Or.inr ⟨_, e, by have := hbl.out.size; first | omega | (simp; omega)⟩
              have RD4 := Lib.hid ((hrd.out.below (below_alloc' _ _)).grown (hrow.out.alloc _) hrb hg4)
              have hz4 := hg4.size
              have R4 := Lib.hid hr4
              clear hr4 hg4 ho4 o4
              go_wp2
              go_roundw
              case rel => exact ⟨L' ++ [(1000 + (L'.length : Int), ⟨#[49, 50, 48, 48, 49, 48, 49]⟩)], by simp; omega, (fun y hy => by
                rcases List.mem_append.1 hy with h | h
                · exact hsm.out y h
                · rw [List.mem_singleton.1 h]; exact ⟨⟨by simp; omega, by simp; omega⟩, by show (⟨#[49, 50, 48, 48, 49, 48, 49]⟩ : ByteArray).size ≤ 30; decide⟩), R4, RD4, O4, H4, by simp at hz4; omega⟩
              case measure =>
                obtain ⟨a', c'', e, _⟩ := R4.out.form
                rw [e]
                simp [lenOf]
                omega
          · have hli : ¬ (L'.length : Int) < 61 := by omega
            go_wp2
            go_ret
            exact ⟨_, L', rfl, hrow, hl', hsm.out, hrd.out.mono (by omega) (by omega), hbl, hown.out⟩
    · have p0 : w2.cell? ⟨g, 0, none⟩ = some (.int .i64 L[0].1) := (R2.out.cells 0 (by omega)).1
      obtain ⟨⟨y0, y1⟩, _⟩ := HS.out.at 0 (by omega)
      generalize L[0].1 = y at p0 y0 y1
      have RD := Lib.hid (RD2.out.below (below_alloc' w2 (.cells #[.int .i64 0, .int .i64 10000, .int .i64 9999, .int .i64 (-1), .int .i64 y] 3)))
      go_wp2_with fail
      refine (num_sg _ [0, 10000, 9999, -1, y] w2.heap.size _ r _ (Sg.start RD.out) (by omega) (by simp) (by simp) (by omega) (cells_int [0, 10000, 9999, -1, y] _ w2)).mono ?_
      rintro e w3 ⟨q, rfl, hm, sg3⟩
      have hq : -1 ≤ q ∧ q ≤ 100000 := by simp at hm; omega
      have R3 := Lib.hid ((R2.out.alloc _).sg sg3 hrb)
      have o23 : Only w2 w3 (fun k => k = r) := (Only.new (below_alloc' w2 _)).trans sg3.only (fun _ _ h => h)
      have O3 := Lib.hid (O2.out.trans o23 (fun x hx e => Or.inl e))
      have RD3 := Lib.hid sg3.1
      have hz3 := sg3.2.size
      simp at hz3
      clear sg3 hm RD p0 o23
      obtain ⟨p0, p1, p2, p3⟩ := R3.out.cells j hj
      obtain ⟨q1, q2⟩ := R3.out.id j hj q
      have hx2 := (HS.out.at j hj).2
      have Q1 := Lib.hid q1
      have RD4 := Lib.hid (RD3.out.grown R3.out hrb q2)
      have O4 := Lib.hid (O3.out.trans (Only.of_grown q2) (fun x hx e => Or.inr e.symm))
      have SM := Lib.hid (HS.out.set j (q, L[j].2) (z' := 30) (by omega) ⟨hq, by show L[j].2.size ≤ 30; omega⟩)
      clear q1 q2
      go_wp2
      go_ret
      exact ⟨_, _, rfl, Q1, by simp; omega, SM, RD4.out.mono (by omega) (by omega), O4, Or.inl rfl⟩
  · obtain ⟨p0, p1, p2, p3⟩ := R2.out.cells j hj
    obtain ⟨⟨y0, y1⟩, y2⟩ := HS.out.at j hj
    have hcs : (L[j].2 ++ (⟨#[49]⟩ : ByteArray)).size = L[j].2.size + 1 := by rw [ByteArray.size_append]; rfl
    go_wp2_with fail
    refine (l1Bad_sg _ _ r _ _ (Sg.start RD2.out) (by omega) (by omega) (by omega)).mono ?_
    rintro e w3 ⟨s, rfl, s0, s1, sg3⟩
    have R3 := Lib.hid (R2.out.sg sg3 hrb)
    have O3 := Lib.hid (O2.out.trans sg3.only (fun x hx e => Or.inl e))
    have RD3 := Lib.hid sg3.1
    have hz3 := sg3.2.size
    clear sg3 p0 p1 p2 p3
    obtain ⟨p0, p1, p2, p3⟩ := R3.out.cells j hj
    obtain ⟨q1, q2⟩ := R3.out.code j hj s
    have Q1 := Lib.hid q1
    have RD4 := Lib.hid (RD3.out.grown R3.out hrb q2)
    have O4 := Lib.hid (O3.out.trans (Only.of_grown q2) (fun x hx e => Or.inr e.symm))
    have SM := Lib.hid (HS.out.set j (L[j].1, s) (z' := 30) (by omega) ⟨⟨y0, y1⟩, by show s.size ≤ 30; omega⟩)
    clear q1 q2
    go_wp2
    go_ret
    exact ⟨_, _, rfl, Q1, by simp; omega, SM, RD4.out.mono (by omega) (by omega), O4, Or.inl rfl⟩
end Go.Proofs.Ytihbpalhbbingaa
