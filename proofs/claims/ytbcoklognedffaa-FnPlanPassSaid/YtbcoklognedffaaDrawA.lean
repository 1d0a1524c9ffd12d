/-
  Drawn plans, and plans that are sometimes none.
-/
import Derived.Test.YtbcoklognedffaaDrawG
import Derived.Test.YtbcoklognedffaaRank
import Derived.Test.YtbcoklognedffaaSCat
import Derived.Deep.AppendLies
import Derived.Deep.RegionLaw
import Derived.WalkLawsBesides
import Derived.Test.YtbcoklognedffaaMark
namespace Go.Proofs.Ytbcoklognedffaa
open Go.RowKit

def SmallS (z : Nat) (L : List ByteArray) : Prop := ∀ x ∈ L, x.size ≤ z
theorem SRow.sg {w w' : World} {base r N : Nat} {v : Value} {L : List ByteArray} (h : SRow w base v L) (hs : Sg w w' r N) (hr : r < base) : SRow w' base v L :=
  h.kept hs.2 (fun b hb e => by have := (h.lt b hb).1; injection e with e; omega)
theorem Rd.sgrown {w w' : World} {base r N : Nat} {v : Value} {L : List ByteArray} (h : Rd w r N) (hr : SRow w base v L) (hrb : r < base) (hg : w.grownBy w' v.ownBlock) : Rd w' r N := by
  have hlt := h.lt
  have hne : ∀ b, b ≤ r → some b ≠ v.ownBlock := fun b hb e => by have := (hr.lt b e.symm).1; omega
  obtain ⟨p, a, l, k, hp, hN, h0, h1, hf, hlk, hk, hl, hB⟩ := h
  refine ⟨p, a, l, k, hp, hN, hg.cell h0 (hne r (Nat.le_refl _)), hg.cell h1 (hne r (Nat.le_refl _)), (World.frozen?_of_block (a := ⟨r, 1, none⟩) (hg.block r hlt (hne r (Nat.le_refl _)))).trans hf, hlk, hk, hl, ?_⟩
  rcases hB with hB | ⟨b, off, rfl, hbr, hB⟩
  · exact Or.inl hB
  · refine Or.inr ⟨b, off, rfl, hbr, fun i hi => ?_⟩
    obtain ⟨x, hx, x0, x1⟩ := hB i hi
    exact ⟨x, hg.cell hx (hne b (by omega)), x0, x1⟩
theorem Sg.sgrown {W w w' : World} {base r N : Nat} {v : Value} {L : List ByteArray} (h : Sg W w r N) (hr : SRow w base v L) (hb : W.heap.size ≤ base) (hrb : r < base) (hg : w.grownBy w' v.ownBlock) : Sg W w' r N :=
  ⟨h.1.sgrown hr hrb hg, h.2.andThen hg fun j e => Or.inl (Nat.le_trans hb (hr.lt j e).1)⟩
def SRowSg (W : World) (base m r N : Nat) (e : Ending) (w' : World) : Prop := ∃ (v : Value) (L : List ByteArray), e = .returned v ∧ SRow w' base v L ∧ 1 ≤ L.length ∧ L.length ≤ m ∧ SmallS 7 L ∧ Sg W w' r N
set_option maxHeartbeats 2000000 in
theorem l3Order_any (w : World) (r N : Nat) (h : Rd w r N) (hN : N ≤ 80000) :
    Calls Try.prog 82 #[.pointer (some ⟨r, 0, none⟩), .int .i64 12] w (SRowSg w w.heap.size 12 r (N + 200)) := by
  have hr := h.lt
  have SE := Lib.hid (sone_empty w)
  have SG := Lib.hid ((Sg.start h).alloc (.cells #[] 9))
  have RD := Lib.hid SG.out.1
  clear h
  go_enter Try.func82, Try.ntmps82
  go_wp2_with fail
  refine (pick_sg _ _ _ r _ (Sg.start RD.out) (by omega) (by omega) (by omega)).mono ?_
  rintro e w1 ⟨n, rfl, n0, n1, sg1⟩
  obtain ⟨n, rfl⟩ := Int.eq_ofNat_of_zero_le n0
  have hn : n < 12 := by omega
  have R1 := Lib.hid (SE.out.sg sg1 hr)
  have S1 := Lib.hid (SG.out.trans sg1)
  clear sg1 SE SG RD
  go_wp2
  go_loopw [5, 6] (fun u i wr => ∃ (k : Nat) (L : List ByteArray), i = .int .i64 k ∧ L.length + k ≤ 12 ∧ (L.length = 0 → 0 < k) ∧ k ≤ n + 1 ∧ Hid (SmallS 7 L) ∧ Hid (SRow wr w.heap.size u L) ∧ Hid (Sg w wr r (N + 1 + 10 * (n + 1 - k)))) (fun _ i _ => (intOf i).toNat)
  case atStart => exact ⟨n + 1, [], by simp; omega, by simp; omega, fun _ => by omega, Nat.le_refl _, (fun _ h => by cases h), R1, by rw [show n + 1 - (n + 1) = 0 from by omega]; exact S1.out⟩
  case round =>
    obtain ⟨k, L, rfl, hk, hz, hkn, hsm, hrow, hsg⟩ := hrel
    by_cases h0 : 0 < k
    · have hk0 : (0 : Int) < (k : Int) := by omega
      obtain ⟨a, c, hv, hlc, _⟩ := hrow.out.form
      cases hv
      go_wp2_with fail
      refine (l1Some_sg _ _ r _ (Sg.start hsg.out.1) (by omega)).mono ?_
      rintro e w3 ⟨s, rfl, s0, s1, sg3⟩
      have R3 := Lib.hid (hrow.out.sg sg3 hr)
      have S3 := Lib.hid (hsg.out.trans sg3)
      clear sg3 hsg
      obtain ⟨a', c', hv', _, hst⟩ := R3.out.form
      cases hv'
      have hrk := M.rank_bd (sC L) s L.length
      have hSR := Lib.hid (spec_l3Rank w3 a L.length c (sC L) hst (by omega) s)
      obtain ⟨q, hq⟩ : ∃ q, M.rankTo (sC L) s L.length = q := ⟨_, rfl⟩
      have HQ := Lib.hid hq
      rw [hq] at hrk hSR
      clear hq hst
      by_cases hneg : q < 0
      · go_wp2_with (first
          | (go_at_call 67; refine (hSR.out).mono ?_; rintro e w5 ⟨rfl, rfl⟩)
          | (at_builtin; refine wpList_append_string _ rfl _ _ rfl w.heap.size _ _ rfl (R3.out.alloc _) _ s rfl ?_ (by omega) (by have := S3.out.2.size; simp; omega) ?_))
        · simp [go_sem]
        · intro v' w4 hr4 hg4 ho4
          have S4 := Lib.hid ((S3.out.alloc _).sgrown (R3.out.alloc _) (Nat.le_refl _) hr hg4)
          have R4 := Lib.hid hr4
          clear hr4 hg4 ho4 R3 S3
          go_wp2
          go_roundw
          case rel => exact ⟨k - 1, L ++ [s], by go_num, by simp; omega, (fun h => by simp at h), by omega, (fun y hy => by
            rcases List.mem_append.1 hy with h | h
            · exact hsm.out y h
            · rw [List.mem_singleton.1 h]; omega), R4, S4.out.mono (by omega) (by omega)⟩
          case measure => simp [intOf]; omega
      · have hL0 : L.length ≠ 0 := by
          intro e
          have : q = -1 := by rw [← HQ.out, e]; rfl
          omega
        go_wp2_with fail
        refine (hSR.out).mono ?_
        rintro e w5 ⟨rfl, rfl⟩
        go_wp2
        go_roundw
        case rel => exact ⟨k - 1, L, by go_num, by omega, (fun h => absurd h hL0), by omega, hsm, R3, S3.out.mono (by omega) (by omega)⟩
        case measure => simp [intOf]; omega
    · obtain rfl : k = 0 := by omega
      go_wp2
      go_ret
      exact ⟨_, _, rfl, hrow, by omega, by omega, hsm.out, hsg.out.mono (by omega) (by omega)⟩

/-- A plan by value whose codes nobody but the call knows. -/
def PlanSg (W : World) (base r N : Nat) (e : Ending) (w' : World) : Prop := ∃ (b p : Int) (v : Value) (L : List ByteArray), e = .returned (.agg #[.int .i64 b, .int .i64 p, v]) ∧ (2 ≤ b ∧ b ≤ 10) ∧ (1 ≤ p ∧ p ≤ 4) ∧ SRow w' base v L ∧ 1 ≤ L.length ∧ L.length ≤ 12 ∧ SmallS 7 L ∧ Sg W w' r N
theorem max_one (q : Int) (h : q ≤ 4) : 1 ≤ max q 1 ∧ max q 1 ≤ 4 := by omega
theorem Tri.sg {w w' : World} {r N b : Nat} {x y z : Value} (h : Tri w b x y z) (hs : Sg w w' r N) (hr : r ≠ b) : Tri w' b x y z := by
  have hlt := h.lt
  obtain ⟨⟨h0, h1, h2⟩, f0, f1, f2⟩ := h
  have hb := hs.2.block b hlt (by intro e; injection e with e; exact hr e.symm)
  have k : ∀ o, w'.cell? ⟨b, o, none⟩ = w.cell? ⟨b, o, none⟩ := fun o => World.cell?_of_block hb
  have q : ∀ o, w'.frozen? ⟨b, o, none⟩ = w.frozen? ⟨b, o, none⟩ := fun o => World.frozen?_of_block hb
  exact ⟨⟨by rw [k]; exact h0, by rw [k]; exact h1, by rw [k]; exact h2⟩, by rw [q]; exact f0, by rw [q]; exact f1, by rw [q]; exact f2⟩
theorem Tri.setOther {w : World} {b : Nat} {x y z : Value} (h : Tri w b x y z) {p : Addr} (hc : b ≠ p.block) (v : Value) : Tri (w.setCell p v) b x y z := by
  obtain ⟨⟨h0, h1, h2⟩, f0, f1, f2⟩ := h
  have hb := Below.heap_setCell w p v b hc
  have k : ∀ i, (w.setCell p v).cell? ⟨b, i, none⟩ = w.cell? ⟨b, i, none⟩ := fun i => World.cell?_of_block hb
  have q : ∀ i, (w.setCell p v).frozen? ⟨b, i, none⟩ = w.frozen? ⟨b, i, none⟩ := fun i => World.frozen?_of_block hb
  exact ⟨⟨by rw [k]; exact h0, by rw [k]; exact h1, by rw [k]; exact h2⟩, by rw [q]; exact f0, by rw [q]; exact f1, by rw [q]; exact f2⟩
theorem Tri.stored {w : World} {b : Nat} {x y z : Value} (h : Tri w b x y z) (p q r : Value) : Tri (((w.setCell ⟨b, 0, none⟩ p).setCell ⟨b, 1, none⟩ q).setCell ⟨b, 2, none⟩ r) b p q r := by
  obtain ⟨⟨h0, h1, h2⟩, f0, f1, f2⟩ := h
  exact ⟨⟨by simp [go_sem, h0], by simp [go_sem, h1], by simp [go_sem, h2]⟩, by simp [go_sem, f0], by simp [go_sem, f1], by simp [go_sem, f2]⟩
theorem Sg.set {W w : World} {r N : Nat} (h : Sg W w r N) {p : Addr} (hp : W.heap.size ≤ p.block) (hr : r < p.block) (u : Value) : Sg W (w.setCell p u) r N := by
  refine ⟨?_, h.2.andThen (grown_set w p u) fun j e => Or.inl (by injection e with e; omega)⟩
  have hlt := h.1.lt
  obtain ⟨q, a, l, k, hq, hN, h0, h1, hf, hlk, hk, hl, hB⟩ := h.1
  have hg := grown_set w p u
  have hne : ∀ b, b ≤ r → some b ≠ some p.block := fun b hb e => by injection e with e; omega
  refine ⟨q, a, l, k, hq, hN, hg.cell h0 (hne r (Nat.le_refl _)), hg.cell h1 (hne r (Nat.le_refl _)), (World.frozen?_of_block (a := ⟨r, 1, none⟩) (hg.block r hlt (hne r (Nat.le_refl _)))).trans hf, hlk, hk, hl, ?_⟩
  rcases hB with hB | ⟨b, off, rfl, hbr, hB⟩
  · exact Or.inl hB
  · refine Or.inr ⟨b, off, rfl, hbr, fun i hi => ?_⟩
    obtain ⟨x, hx, x0, x1⟩ := hB i hi
    exact ⟨x, hg.cell hx (hne b (by omega)), x0, x1⟩
theorem Sg.three {W w : World} {r N b : Nat} (h : Sg W w r N) (hp : W.heap.size ≤ b) (hr : r < b) (x y z : Value) : Sg W (((w.setCell ⟨b, 0, none⟩ x).setCell ⟨b, 1, none⟩ y).setCell ⟨b, 2, none⟩ z) r N :=
  ((h.set (p := ⟨b, 0, none⟩) hp hr x).set (p := ⟨b, 1, none⟩) hp hr y).set (p := ⟨b, 2, none⟩) hp hr z
theorem SRow.three {w : World} {base b : Nat} {v : Value} {L : List ByteArray} (h : SRow w base v L) (hb : ∀ k, v.ownBlock = some k → k ≠ b) (x y z : Value) : SRow (((w.setCell ⟨b, 0, none⟩ x).setCell ⟨b, 1, none⟩ y).setCell ⟨b, 2, none⟩ z) base v L :=
  ((h.set (p := ⟨b, 0, none⟩) hb x).set (p := ⟨b, 1, none⟩) hb y).set (p := ⟨b, 2, none⟩) hb z

set_option maxHeartbeats 2000000 in
theorem l3Some_any (w : World) (r N : Nat) (h : Rd w r N) (hN : N ≤ 70000) :
    Calls Try.prog 49 #[.pointer (some ⟨r, 0, none⟩)] w (PlanSg w (w.heap.size + 1) r (N + 300)) := by
  have hr := h.lt
  have SG := Lib.hid (((Sg.start h).alloc (.cells #[.int .i64 0, .int .i64 0, .slice none 0 0] 25)).alloc (.cells #[.int .i64 4, .int .i64 3, .int .i64 5, .int .i64 2, .int .i64 10] 3))
  have BX := Lib.hid ((tri_made w (.int .i64 0) (.int .i64 0) (.slice none 0 0) 25).alloc (.cells #[.int .i64 4, .int .i64 3, .int .i64 5, .int .i64 2, .int .i64 10] 3))
  have hc := cells_int [4, 3, 5, 2, 10] 3 (w.alloc (.cells #[.int .i64 0, .int .i64 0, .slice none 0 0] 25))
  simp only [World.size_alloc] at hc
  have HC := Lib.hid hc
  clear h hc
  go_enter Try.func49, Try.ntmps49
  go_wp2_with fail
  refine (num_sg _ [4, 3, 5, 2, 10] (w.heap.size + 1) _ r _ (Sg.start SG.out.1) (by omega) (by decide) (by decide) (by omega) HC.out).mono ?_
  rintro e w1 ⟨b, rfl, hm, sg1⟩
  have hv := (show ∀ x ∈ [(4 : Int), 3, 5, 2, 10], 2 ≤ x ∧ x ≤ 10 from by decide) b hm
  have S1 := Lib.hid (SG.out.trans sg1)
  have B1 := Lib.hid (BX.out.sg sg1 (by omega))
  have z1 := sg1.2.size
  simp only [World.size_alloc] at z1
  clear hm sg1 SG BX HC
  go_wp2_with fail
  refine (l3Order_any _ r _ S1.out.1 (by omega)).mono ?_
  rintro e w2 ⟨v, L, rfl, hrow, l1, l2, hsm, sg2⟩
  have S2 := Lib.hid (S1.out.trans sg2)
  have B2 := Lib.hid (B1.out.sg sg2 (by omega))
  have R2 := Lib.hid hrow
  clear sg2 S1 B1 hrow
  obtain ⟨a, c, hvv, _, _⟩ := R2.out.form
  cases hvv
  have hlp := M.leastPasses_bd (L.length : Int) b
  obtain ⟨q, hq⟩ : ∃ q, M.leastPasses (L.length : Int) b = q := ⟨_, rfl⟩
  have HQ := Lib.hid hq
  rw [hq] at hlp
  clear hq
  go_wp2_with fail
  refine (spec_LeastPasses _ (L.length : Int) b).mono ?_
  rw [HQ.out]
  rintro e w3 ⟨rfl, rfl⟩
  have hlt := B2.out.lt
  obtain ⟨⟨d0, d1, d2⟩, g0, g1, g2⟩ := B2.out
  by_cases hq1 : q < 1
  · go_wp2
    refine bodyPost_ret (v := .agg #[.int .i64 b, .int .i64 1, .slice a L.length c]) (by simp [results, Try.results49, go_sem, d0, d1, d2]) rfl ?_
    refine ⟨b, 1, _, L, rfl, hv, by omega, ?_, l1, l2, hsm, (S2.out.three (Nat.le_refl _) hr _ _ _).mono (by omega) (by omega)⟩
    exact (SRow.three R2.out (fun k hk => by have := (R2.out.lt k hk).1; omega) _ _ _).base (by omega)
  · go_wp2
    refine bodyPost_ret (v := .agg #[.int .i64 b, .int .i64 q, .slice a L.length c]) (by simp [results, Try.results49, go_sem, d0, d1, d2]) rfl ?_
    refine ⟨b, q, _, L, rfl, hv, by omega, ?_, l1, l2, hsm, (S2.out.three (Nat.le_refl _) hr _ _ _).mono (by omega) (by omega)⟩
    exact (SRow.three R2.out (fun k hk => by have := (R2.out.lt k hk).1; omega) _ _ _).base (by omega)

theorem Tri.only {w w' : World} {b : Nat} {x y z : Value} {S : Nat → Prop} (h : Tri w b x y z) (ho : Only w w' S) (hn : ¬ S b) : Tri w' b x y z := by
  have hlt := h.lt
  obtain ⟨⟨h0, h1, h2⟩, f0, f1, f2⟩ := h
  have hb := ho.block b hlt hn
  have k : ∀ i, w'.cell? ⟨b, i, none⟩ = w.cell? ⟨b, i, none⟩ := fun i => World.cell?_of_block hb
  have q : ∀ i, w'.frozen? ⟨b, i, none⟩ = w.frozen? ⟨b, i, none⟩ := fun i => World.frozen?_of_block hb
  exact ⟨⟨by rw [k]; exact h0, by rw [k]; exact h1, by rw [k]; exact h2⟩, by rw [q]; exact f0, by rw [q]; exact f1, by rw [q]; exact f2⟩
theorem Rd.only {w w' : World} {r N : Nat} {S : Nat → Prop} (h : Rd w r N) (ho : Only w w' S) (hn : ∀ k, k ≤ r → ¬ S k) : Rd w' r N := by
  have hlt := h.lt
  obtain ⟨q, a, l, k, hq, hN, h0, h1, hf, hlk, hk, hl, hB⟩ := h
  have hc : ∀ b o, b ≤ r → w'.cell? ⟨b, o, none⟩ = w.cell? ⟨b, o, none⟩ := fun b o hb => World.cell?_of_block (ho.block b (by omega) (hn b hb))
  refine ⟨q, a, l, k, hq, hN, (hc r 0 (Nat.le_refl _)).trans h0, (hc r 1 (Nat.le_refl _)).trans h1, (World.frozen?_of_block (a := ⟨r, 1, none⟩) (ho.block r hlt (hn r (Nat.le_refl _)))).trans hf, hlk, hk, hl, ?_⟩
  rcases hB with hB | ⟨b, off, rfl, hbr, hB⟩
  · exact Or.inl hB
  · refine Or.inr ⟨b, off, rfl, hbr, fun i hi => ?_⟩
    obtain ⟨x, hx, x0, x1⟩ := hB i hi
    exact ⟨x, (hc b _ (by omega)).trans hx, x0, x1⟩
theorem Sg.only {W w : World} {r N : Nat} (h : Sg W w r N) : Only W w (fun k => k = r) := (Only.of_grown h.2).mono fun x _ e => by injection e
/-- Behind l3Bad: a plan by value, whose codes lie where they lay or in new memory. -/
def PlanBad (w : World) (base r N : Nat) (row : Option Nat) (e : Ending) (w' : World) : Prop := ∃ (b p : Int) (a : Option Addr) (c : Nat) (L : List ByteArray), e = .returned (.agg #[.int .i64 b, .int .i64 p, .slice a L.length c]) ∧ (-9223372036854775808 ≤ b ∧ b ≤ 9223372036854775807) ∧ (0 ≤ p ∧ p ≤ 5) ∧ SRow w' base (.slice a L.length c) L ∧ L.length ≤ 13 ∧ SmallS 30 L ∧ Rd w' r (N + 20) ∧ Only w w' (fun k => k = r ∨ row = some k) ∧ ((Value.slice a L.length c).ownBlock = row ∨ ∃ g, (Value.slice a L.length c).ownBlock = some g ∧ w.heap.size ≤ g)
end Go.Proofs.Ytbcoklognedffaa

/-
  Plans that are sometimes none.
-/
namespace Go.Proofs.Ytbcoklognedffaa
open Go.RowKit

theorem SmallS.mono {z z' : Nat} {L : List ByteArray} (h : SmallS z L) (hz : z ≤ z') : SmallS z' L := fun x hx => Nat.le_trans (h x hx) hz
theorem SRow.cut0 {w : World} {base g c : Nat} {L : List ByteArray} (h : SRow w base (.slice (some ⟨g, 0, none⟩) L.length c) L) : SRow w base (.slice (some ⟨g, 0, none⟩) ([] : List ByteArray).length c) [] := by
  rcases h.2 with ⟨e, _⟩ | ⟨g', cap, cur, e, h1, h2, h3, h4, h5, _⟩
  · cases e
  · cases e
    exact ⟨rfl, Or.inr ⟨g, c, cur, rfl, h1, h2, Nat.zero_le _, h4, h5, by simp [scells]⟩⟩
/-- The end of l3Bad: the plan is laid into the result's block. -/
theorem planBad_end {w wz : World} {r N base y : Nat} {b p : Int} {a : Option Addr} {c : Nat} {L : List ByteArray} {row : Option Nat} (hy : w.heap.size ≤ y) (hr : r < w.heap.size) (R : SRow wz base (.slice a L.length c) L) (RD : Rd wz r (N + 20)) (O : Only w wz (fun k => k = r ∨ row = some k))
    (hgy : ∀ k, (Value.slice a L.length c).ownBlock = some k → k ≠ y) (hb : -9223372036854775808 ≤ b ∧ b ≤ 9223372036854775807) (hp : 0 ≤ p ∧ p ≤ 5) (hl : L.length ≤ 13) (hs : SmallS 30 L) (ho : (Value.slice a L.length c).ownBlock = row ∨ ∃ g, (Value.slice a L.length c).ownBlock = some g ∧ w.heap.size ≤ g) (x0 x1 x2 : Value) :
    PlanBad w base r N row (.returned (.agg #[.int .i64 b, .int .i64 p, .slice a L.length c])) (((wz.setCell ⟨y, 0, none⟩ x0).setCell ⟨y, 1, none⟩ x1).setCell ⟨y, 2, none⟩ x2) := by
  have h3 : Only wz (((wz.setCell ⟨y, 0, none⟩ x0).setCell ⟨y, 1, none⟩ x1).setCell ⟨y, 2, none⟩ x2) (fun k => k = y) :=
    ((Only.set wz ⟨y, 0, none⟩ x0 (S := fun k => k = y) rfl).trans (Only.set _ ⟨y, 1, none⟩ x1 (S := fun k => k = y) rfl) (fun _ _ h => h)).trans (Only.set _ ⟨y, 2, none⟩ x2 (S := fun k => k = y) rfl) (fun _ _ h => h)
  refine ⟨b, p, a, c, L, rfl, hb, hp, R.only h3 hgy, hl, hs, RD.only h3 (fun k hk => by omega), O.trans h3 (fun x hx e => by omega), ho⟩

set_option maxHeartbeats 4000000 in
theorem l3Bad_any (w : World) (r N base : Nat) (b p : Int) (a : Option Addr) (c : Nat) (L : List ByteArray) (h : Rd w r N) (hN : N ≤ 80000) (hrow : SRow w base (.slice a L.length c) L) (hrb : r < base) (hl1 : 1 ≤ L.length) (hl : L.length ≤ 12) (hs : SmallS 7 L) (hb0 : -9223372036854775808 ≤ b ∧ b ≤ 9223372036854775807) (hp0 : 1 ≤ p ∧ p ≤ 4) :
    Calls Try.prog 53 #[.pointer (some ⟨r, 0, none⟩), .agg #[.int .i64 b, .int .i64 p, .slice a L.length c]] w (PlanBad w base r N (Value.slice a L.length c).ownBlock) := by
  have hr := h.lt
  have HSW := Lib.hid (hs.mono (z' := 30) (by omega))
  have HS := Lib.hid hs
  rcases hrow.cases with ⟨e1, e2⟩ | ⟨g, c', e1, hbg, hgl, hlc⟩
  · rw [e2] at hl1; simp at hl1
  cases e1
  obtain ⟨W0, hW0⟩ : ∃ W0, (w.alloc (.cells #[.int .i64 b, .int .i64 p, .slice (some ⟨g, 0, none⟩) L.length c] 25)).alloc (.cells #[.int .i64 0, .int .i64 0, .slice none 0 0] 25) = W0 := ⟨_, rfl⟩
  have k0 : Below w.heap.size w W0 := by rw [← hW0]; go_grown
  have zW : W0.heap.size = w.heap.size + 2 := by rw [← hW0]; simp
  have HR := Lib.hid (hrow.below k0)
  have SG := Lib.hid (Sg.start (h.below k0))
  have BX : Hid (Tri W0 w.heap.size (.int .i64 b) (.int .i64 p) (.slice (some ⟨g, 0, none⟩) L.length c)) := by rw [← hW0]; exact (tri_made w _ _ _ _).alloc _
  have BY : Hid (Tri W0 (w.heap.size + 1) (.int .i64 0) (.int .i64 0) (.slice none 0 0)) := by
    rw [← hW0]
    have := tri_made (w.alloc (.cells #[.int .i64 b, .int .i64 p, .slice (some ⟨g, 0, none⟩) L.length c] 25)) (.int .i64 0) (.int .i64 0) (.slice none 0 0) 25
    unfold Hid
    simpa using this
  have K0 := Lib.hid k0
  have HW0 := Lib.hid hW0
  clear hrow h hs k0 hW0
  go_enter Try.func53, Try.ntmps53
  go_wp2_with fail
  rw [HW0.out]
  refine (pick_sg _ _ _ r _ SG.out (by omega) (by omega) (by omega)).mono ?_
  rintro e w2 ⟨t, rfl, t0, t1, sg2⟩
  have R2 := Lib.hid (HR.out.sg sg2 hrb)
  have X2 := Lib.hid (BX.out.sg sg2 (by omega))
  have Y2 := Lib.hid (BY.out.sg sg2 (by omega))
  have RD2 := Lib.hid sg2.1
  have O2 : Hid (Only w w2 (fun k => k = r)) := (Only.new K0.out).trans sg2.only (fun x _ h => h)
  have z2 := sg2.2.size
  rw [zW] at z2
  clear sg2 SG HR BX BY
  have ltx := X2.out.lt
  have lty := Y2.out.lt
  obtain ⟨⟨d0, d1, d2⟩, g0, g1, g2⟩ := X2.out
  obtain ⟨⟨e0, e1, e2⟩, f0, f1, f2⟩ := Y2.out
  have O2' : Hid (Only w w2 (fun k => k = r ∨ (Value.slice (some ⟨g, 0, none⟩) L.length c).ownBlock = some k)) := O2.out.mono fun x _ h => Or.inl h
  have OB : Hid (∀ (n c k : Nat), (Value.slice (some ⟨g, 0, none⟩) n c).ownBlock = some k → k = g) := fun n c k hk => by simpa [Value.ownBlock] using hk.symm
  have h0 := R2.out.cellAt0 hl1
  obtain ⟨p0, p1⟩ := h0
  have q0 := HS.out _ (List.getElem_mem hl1)
  obtain ⟨y, hy⟩ : ∃ y, L[0] = y := ⟨_, rfl⟩
  rw [hy] at p0 q0
  have HY := Lib.hid hy
  clear hy
  have hg2 : g < w2.heap.size := by have := z2; omega
  cases c0 : (t == 0)
  · cases c1 : (t == 1)
    · cases c2 : (t == 2)
      · cases c3 : (t == 3)
        · cases c4 : (t == 4)
          · go_wp2
            refine bodyPost_ret (v := .agg #[.int .i64 b, .int .i64 p, .slice (some ⟨g, 0, none⟩) L.length c]) (by simp [results, Try.results53, go_sem, e0, e1, e2]) rfl ?_
            exact planBad_end (by omega) hr R2.out (RD2.out.mono (by omega) (by omega)) O2'.out (fun k hk => by have := OB.out _ _ k hk; omega) hb0 (by omega) (by omega) HSW.out (Or.inl rfl) _ _ _
          · have RC := Lib.hid ((R2.out.cut0).only (Only.set w2 ⟨w.heap.size, 2, none⟩ (.slice (some ⟨g, 0, none⟩) 0 c) (S := fun k => k = w.heap.size) rfl) (fun k hk => by have := OB.out _ _ k hk; omega))
            have OC : Hid (Only w (w2.setCell ⟨w.heap.size, 2, none⟩ (.slice (some ⟨g, 0, none⟩) 0 c)) (fun k => k = r ∨ (Value.slice (some ⟨g, 0, none⟩) L.length c).ownBlock = some k)) := O2'.out.trans (Only.set w2 ⟨w.heap.size, 2, none⟩ _ (S := fun k => k = w.heap.size) rfl) (fun x hx e => by omega)
            have RDC := Lib.hid (RD2.out.only (Only.set w2 ⟨w.heap.size, 2, none⟩ (.slice (some ⟨g, 0, none⟩) 0 c) (S := fun k => k = w.heap.size) rfl) (fun k hk => by omega))
            go_wp2
            refine bodyPost_ret (v := .agg #[.int .i64 b, .int .i64 p, .slice (some ⟨g, 0, none⟩) 0 c]) (by simp [results, Try.results53, go_sem, e0, e1, e2]) rfl ?_
            exact planBad_end (L := []) (by omega) hr RC.out (RDC.out.mono (by omega) (by omega)) OC.out (fun k hk => by have := OB.out _ _ k hk; omega) hb0 (by omega) (by simp) (fun x hx => by cases hx) (Or.inl rfl) _ _ _
        · have hcs : (y ++ (⟨#[49]⟩ : ByteArray)).size = y.size + 1 := by rw [ByteArray.size_append]; rfl
          have hne1 : g ≠ w.heap.size := by omega
          have hne2 : g ≠ w.heap.size + 1 := by omega
          have hli : (0 : Int) < (L.length : Int) := by omega
          go_wp2
          go_region_with (go_at_call 84; refine (l1Bad_sg _ _ r (N + 1) _ (Sg.start (Rd.below RD2.out (by go_grown))) (by omega) (by omega) (by omega)).mono ?_; rintro e w3 ⟨s, rfl, s0, s1, sg3⟩; have o23 : Only w2 w3 (fun k => k = r) := (by first | exact sg3.only | exact (Only.new (by go_grown)).trans sg3.only (fun _ _ h => h)); have R3 := Lib.hid (R2.out.only o23 (fun k hk => by have := OB.out _ _ k hk; omega)); have X3 := Lib.hid (X2.out.only o23 (by omega)); have Y3 := Lib.hid (Y2.out.only o23 (by omega)); have RD3 := Lib.hid sg3.1; have z3 := o23.size; have O3 := Lib.hid (O2'.out.trans o23 (fun x hx e => Or.inl e)); clear o23 sg3; obtain ⟨⟨dd0, dd1, dd2⟩, gg0, gg1, gg2⟩ := X3.out; obtain ⟨⟨ee0, ee1, ee2⟩, ff0, ff1, ff2⟩ := Y3.out; have hh0 := (R3.out.cellAt0 hl1).1; have hh1 := (R3.out.cellAt0 hl1).2; have hg3 : g < w3.heap.size := by omega)
          all_goals
            have RP := Lib.hid (R3.out.put 0 s)
            have sP := Only.set w3 ⟨g, 0, none⟩ (.string s) (S := fun k => k = g) rfl
            have RDP := Lib.hid (RD3.out.only sP (fun k hk => by omega))
            have OP := Lib.hid (O3.out.trans sP (fun x hx e => Or.inr (by rw [e]; rfl)))
            have hll : (L.set 0 s).length = L.length := by simp
            have SM : Hid (SmallS 30 (L.set 0 s)) := fun x hx => by
              rcases List.mem_or_eq_of_mem_set hx with h' | rfl
              · exact HSW.out x h'
              · omega
            have HLL := Lib.hid hll
            clear sP hll d0 d1 d2 g0 g1 g2 e0 e1 e2 f0 f1 f2 p0 p1 q0 hcs
            go_wp2
            refine bodyPost_ret (v := .agg #[.int .i64 b, .int .i64 p, .slice (some ⟨g, 0, none⟩) L.length c]) (by simp [results, Try.results53, go_sem, ee0, ee1, ee2]) rfl ?_
            have P := planBad_end (w := w) (N := N) (y := w.heap.size + 1) (b := b) (p := p) (row := (Value.slice (some ⟨g, 0, none⟩) L.length c).ownBlock) (by omega) hr RP.out (RDP.out.mono (by omega) (by omega)) OP.out (fun k hk => by have := OB.out _ _ k hk; omega) hb0 (by omega) (by simp; omega) SM.out (Or.inl rfl) (.int .i64 b) (.int .i64 p) (.slice (some ⟨g, 0, none⟩) L.length c)
            rw [HLL.out] at P
            exact P
      · obtain ⟨i0, hi, hz0, hz1, hz2⟩ := info_parts info_string
        have hli : (0 : Int) < (L.length : Int) := by omega
        have hln : 0 < L.length := hl1
        have hne1 : g ≠ w.heap.size := by omega
        have hne2 : g ≠ w.heap.size + 1 := by omega
        have hne3 : w.heap.size ≠ w2.heap.size := by omega
        go_wp2
        go_region_law (refine step_append_lies _ (by rfl) _ _ 23 (by rfl) base 9 i0 _ 1 16 Try.underlying23 hi hz0 hz1 hz2 rfl (by decide) _ L.length (scells L) (by rfl) (World.ownsRow.alloc (show _ from R2.out) _) ⟨w2.heap.size, 0, none⟩ 1 1 [.string y] (by rfl) rfl (by intro j u hu; match j, hu with | 0, hu => (simp at hu; subst hu; simp [Addr.add])) (by intro u hu; simp at hu; subst hu; rfl) (by decide) (by unfold maxLen; omega) (by omega) (by simp; omega) (w2.heap.size + 1) (by simp) ?_; intro g' cap w3 hown hgrow hat hlt; have o3 : Only w2 w3 (fun k => k = g) := Only.trans (Only.new (S := fun k => k = g) (by go_grown)) ((Only.of_grown hgrow).mono (T := fun k => k = g) (fun x _ e => OB.out _ _ x e.symm)) (fun _ _ h => h); have X3 := Lib.hid (X2.out.only o3 (by omega)); have Y3 := Lib.hid (Y2.out.only o3 (by omega)); have RD3 := Lib.hid (RD2.out.only o3 (fun k hk => by omega)); have O3 := Lib.hid (O2'.out.trans o3 (fun x hx e => Or.inr (by rw [e]; rfl))); have z3 := o3.size; have HO := Lib.hid hown; have HA : Hid (g' = g ∨ g' = w2.heap.size + 1) := hat.elim (fun e => Or.inl (OB.out _ _ _ e)) Or.inr; clear hgrow o3 hown hat; obtain ⟨⟨dd0, dd1, dd2⟩, gg0, gg1, gg2⟩ := X3.out; obtain ⟨⟨ee0, ee1, ee2⟩, ff0, ff1, ff2⟩ := Y3.out)
        all_goals
          have hg1 : g' ≠ w.heap.size := by have := HA.out; omega
          have hg2' : g' ≠ w.heap.size + 1 := by have := HA.out; omega
          have OB' : Hid (∀ (n c k : Nat), (Value.slice (some ⟨g', 0, none⟩) n c).ownBlock = some k → k = g') := fun n c k hk => by simpa [Value.ownBlock] using hk.symm
          have RW : SRow w3 base (.slice (some ⟨g', 0, none⟩) (L ++ [y]).length cap) (L ++ [y]) := by
            unfold SRow
            rw [scells_append, List.length_append]
            exact HO.out
          have sP := Only.set w3 ⟨w.heap.size, 2, none⟩ (.slice (some ⟨g', 0, none⟩) (L.length + 1) cap) (S := fun k => k = w.heap.size) rfl
          have RP := Lib.hid (RW.only sP (fun k hk => by have := OB'.out _ _ k hk; omega))
          have RDP := Lib.hid (RD3.out.only sP (fun k hk => by omega))
          have OP := Lib.hid (O3.out.trans sP (fun x hx e => by omega))
          have SM : Hid (SmallS 30 (L ++ [y])) := fun x hx => by
            rcases List.mem_append.1 hx with h' | h'
            · exact HSW.out x h'
            · rw [List.mem_singleton.1 h']; omega
          have HW : Hid ((Value.slice (some ⟨g', 0, none⟩) (L ++ [y]).length cap).ownBlock = (Value.slice (some ⟨g, 0, none⟩) L.length c).ownBlock ∨ ∃ k, (Value.slice (some ⟨g', 0, none⟩) (L ++ [y]).length cap).ownBlock = some k ∧ w.heap.size ≤ k) :=
            HA.out.elim (fun e => Or.inl (by rw [e]; rfl)) (fun e => Or.inr ⟨g', rfl, by omega⟩)
          have hll : Hid ((L ++ [y]).length = L.length + 1) := by unfold Hid; simp
          clear sP RW d0 d1 d2 g0 g1 g2 e0 e1 e2 f0 f1 f2 p0 p1 q0
          go_wp2
          refine bodyPost_ret (v := .agg #[.int .i64 b, .int .i64 p, .slice (some ⟨g', 0, none⟩) (L.length + 1) cap]) (by simp [results, Try.results53, go_sem, ee0, ee1, ee2]) rfl ?_
          have P := planBad_end (w := w) (N := N) (y := w.heap.size + 1) (b := b) (p := p) (row := (Value.slice (some ⟨g, 0, none⟩) L.length c).ownBlock) (by omega) hr RP.out (RDP.out.mono (by omega) (by omega)) OP.out (fun k hk => by have := OB'.out _ _ k hk; omega) hb0 (by omega) (by simp; omega) SM.out HW.out (.int .i64 b) (.int .i64 p) (.slice (some ⟨g', 0, none⟩) (L.length + 1) cap)
          rw [hll.out] at P
          exact P
    · go_wp2_with fail
      refine (num_sg _ [0, 5, 4, 1] w2.heap.size _ r _ (Sg.start (RD2.out.below (below_alloc0 w2 _))) (by omega) (by decide) (by decide) (by omega) (cells_int [0, 5, 4, 1] _ w2)).mono ?_
      rintro e w3 ⟨q, rfl, hm, sg3⟩
      have hq := (show ∀ x ∈ [(0 : Int), 5, 4, 1], 0 ≤ x ∧ x ≤ 5 from by decide) q hm
      have o23 : Only w2 w3 (fun k => k = r) := (Only.new (below_alloc0 w2 _)).trans sg3.only (fun _ _ h => h)
      have R3 := R2.out.only o23 (fun k hk => by have := OB.out _ _ k hk; omega)
      have X3 := Lib.hid (X2.out.only o23 (by omega))
      have Y3 := Lib.hid (Y2.out.only o23 (by omega))
      have z3 := o23.size
      have O3 := O2'.out.trans o23 (fun x hx e => Or.inl e)
      have s3 := Only.set w3 ⟨w.heap.size, 1, none⟩ (.int .i64 q) (S := fun k => k = w.heap.size) rfl
      have R4 := Lib.hid (R3.only s3 (fun k hk => by have := OB.out _ _ k hk; omega))
      have RD4 := Lib.hid (sg3.1.only s3 (fun k hk => by omega))
      have O4 := Lib.hid (O3.trans s3 (fun x hx e => by omega))
      clear o23 sg3 R3 O3 s3 hm d0 d1 d2 g0 g1 g2 e0 e1 e2 f0 f1 f2 p0 p1
      obtain ⟨⟨d0, d1, d2⟩, g0, g1, g2⟩ := X3.out
      obtain ⟨⟨e0, e1, e2⟩, f0, f1, f2⟩ := Y3.out
      have ltx := X3.out.lt
      have lty := Y3.out.lt
      go_wp2
      refine bodyPost_ret (v := .agg #[.int .i64 b, .int .i64 q, .slice (some ⟨g, 0, none⟩) L.length c]) (by simp [results, Try.results53, go_sem, e0, e1, e2]) rfl ?_
      exact planBad_end (by omega) hr R4.out (RD4.out.mono (by omega) (by omega)) O4.out (fun k hk => by have := OB.out _ _ k hk; omega) hb0 hq (by omega) HSW.out (Or.inl rfl) _ _ _
  · go_wp2_with fail
    refine (num_sg _ [1, 17, 16, -1, 9223372036854775807] w2.heap.size _ r _ (Sg.start (RD2.out.below (below_alloc0 w2 _))) (by omega) (by decide) (by decide) (by omega) (cells_int [1, 17, 16, -1, 9223372036854775807] _ w2)).mono ?_
    rintro e w3 ⟨q, rfl, hm, sg3⟩
    have hq := (show ∀ x ∈ [(1 : Int), 17, 16, -1, 9223372036854775807], -9223372036854775808 ≤ x ∧ x ≤ 9223372036854775807 from by decide) q hm
    have o23 : Only w2 w3 (fun k => k = r) := (Only.new (below_alloc0 w2 _)).trans sg3.only (fun _ _ h => h)
    have R3 := R2.out.only o23 (fun k hk => by have := OB.out _ _ k hk; omega)
    have X3 := Lib.hid (X2.out.only o23 (by omega))
    have Y3 := Lib.hid (Y2.out.only o23 (by omega))
    have z3 := o23.size
    have O3 := O2'.out.trans o23 (fun x hx e => Or.inl e)
    have s3 := Only.set w3 ⟨w.heap.size, 0, none⟩ (.int .i64 q) (S := fun k => k = w.heap.size) rfl
    have R4 := Lib.hid (R3.only s3 (fun k hk => by have := OB.out _ _ k hk; omega))
    have RD4 := Lib.hid (sg3.1.only s3 (fun k hk => by omega))
    have O4 := Lib.hid (O3.trans s3 (fun x hx e => by omega))
    clear o23 sg3 R3 O3 s3 hm d0 d1 d2 g0 g1 g2 e0 e1 e2 f0 f1 f2 p0 p1
    obtain ⟨⟨d0, d1, d2⟩, g0, g1, g2⟩ := X3.out
    obtain ⟨⟨e0, e1, e2⟩, f0, f1, f2⟩ := Y3.out
    have ltx := X3.out.lt
    have lty := Y3.out.lt
    go_wp2
    refine bodyPost_ret (v := .agg #[.int .i64 q, .int .i64 p, .slice (some ⟨g, 0, none⟩) L.length c]) (by simp [results, Try.results53, go_sem, e0, e1, e2]) rfl ?_
    exact planBad_end (by omega) hr R4.out (RD4.out.mono (by omega) (by omega)) O4.out (fun k hk => by have := OB.out _ _ k hk; omega) hq (by omega) (by omega) HSW.out (Or.inl rfl) _ _ _
end Go.Proofs.Ytbcoklognedffaa

/-
  Drawn letters that are sometimes no batch.
-/
namespace Go.Proofs.Ytbcoklognedffaa
open Go.RowKit

theorem lcells_code (L : List (Int × ByteArray)) (j : Nat) (hj : j < L.length) (s : ByteArray) : (lcells L).set (j * 2 + 1) (.string s) = lcells (L.set j (L[j].1, s)) := by
  rw [← lcells_set L j L[j].1 s]
  congr 1
  apply List.ext_getElem?
  intro i
  rw [List.getElem?_set]
  split
  · next e => subst e; rw [(lcells_at L j hj).1]; split
              · rfl
              · next h => exact absurd (by rw [lcells_length]; omega) h
  · rfl
theorem lcells_id (L : List (Int × ByteArray)) (j : Nat) (hj : j < L.length) (x : Int) : (lcells L).set (j * 2) (.int .i64 x) = lcells (L.set j (x, L[j].2)) := by
  rw [← lcells_set L j x L[j].2]
  apply List.ext_getElem?
  intro i
  rw [List.getElem?_set (i := j * 2 + 1)]
  split
  · next e => subst e; rw [List.getElem?_set_ne (by omega), (lcells_at L j hj).2]; split
              · rfl
              · next h => exact absurd (by simp [lcells_length]; omega) h
  · rfl
theorem Row.code {w : World} {base g c : Nat} {L : List (Int × ByteArray)} (h : Row w base (.slice (some ⟨g, 0, none⟩) L.length c) L) (j : Nat) (hj : j < L.length) (s : ByteArray) :
    Row (w.setCell ⟨g, j * 2 + 1, none⟩ (.string s)) base (.slice (some ⟨g, 0, none⟩) L.length c) (L.set j (L[j].1, s)) ∧ w.grownBy (w.setCell ⟨g, j * 2 + 1, none⟩ (.string s)) (some g) := by
  have hs := World.ownsRow.stored h (j * 2 + 1) (.string s)
  rw [lcells_code L j hj s] at hs
  exact ⟨by unfold Row; rw [List.length_set]; exact hs.1, hs.2⟩
theorem Row.id {w : World} {base g c : Nat} {L : List (Int × ByteArray)} (h : Row w base (.slice (some ⟨g, 0, none⟩) L.length c) L) (j : Nat) (hj : j < L.length) (x : Int) :
    Row (w.setCell ⟨g, j * 2, none⟩ (.int .i64 x)) base (.slice (some ⟨g, 0, none⟩) L.length c) (L.set j (x, L[j].2)) ∧ w.grownBy (w.setCell ⟨g, j * 2, none⟩ (.int .i64 x)) (some g) := by
  have hs := World.ownsRow.stored h (j * 2) (.int .i64 x)
  rw [lcells_id L j hj x] at hs
  exact ⟨by unfold Row; rw [List.length_set]; exact hs.1, hs.2⟩
theorem Row.cells {w : World} {base g c : Nat} {L : List (Int × ByteArray)} (h : Row w base (.slice (some ⟨g, 0, none⟩) L.length c) L) (j : Nat) (hj : j < L.length) :
    w.cell? ⟨g, j * 2, none⟩ = some (.int .i64 L[j].1) ∧ w.cell? ⟨g, j * 2 + 1, none⟩ = some (.string L[j].2) ∧ w.frozen? ⟨g, j * 2, none⟩ = false ∧ w.frozen? ⟨g, j * 2 + 1, none⟩ = false :=
  ⟨by rw [World.ownsRow.cellAt h (j * 2) (by omega)]; exact (lcells_at L j hj).1, by rw [World.ownsRow.cellAt h (j * 2 + 1) (by omega)]; exact (lcells_at L j hj).2, World.ownsRow.frozenAt h _, World.ownsRow.frozenAt h _⟩
theorem Small.set {z : Nat} {L : List (Int × ByteArray)} (h : Small z L) (j : Nat) (y : Int × ByteArray) {z' : Nat} (hz : z ≤ z') (hy : (-1 ≤ y.1 ∧ y.1 ≤ 100000) ∧ y.2.size ≤ z') : Small z' (L.set j y) := fun x hx => by
  rcases List.mem_or_eq_of_mem_set hx with h' | rfl
  · have := h x h'; exact ⟨this.1, by omega⟩
  · exact hy
theorem Small.mono {z z' : Nat} {L : List (Int × ByteArray)} (h : Small z L) (hz : z ≤ z') : Small z' L := fun x hx => ⟨(h x hx).1, Nat.le_trans (h x hx).2 hz⟩
theorem Small.at {z : Nat} {L : List (Int × ByteArray)} (h : Small z L) (j : Nat) (hj : j < L.length) : (-1 ≤ L[j].1 ∧ L[j].1 ≤ 100000) ∧ L[j].2.size ≤ z := h _ (List.getElem_mem hj)
def lenOf : Value → Nat
  | .slice _ n _ => n
  | _ => 0
theorem below_alloc' (w : World) (o : Obj) : Below w.heap.size w (w.alloc o) := (Below.refl _ _).alloc (Nat.le_refl _) _
def RowBad (w : World) (base r N : Nat) (e : Ending) (w' : World) : Prop := ∃ (v' : Value) (L' : List (Int × ByteArray)), e = .returned v' ∧ Row w' base v' L' ∧ L'.length ≤ 61 ∧ Small 30 L' ∧ Rd w' r (N + 20) ∧ Below r w w'
theorem Sg.below_r {w w' : World} {r N : Nat} (h : Sg w w' r N) (hr : r < w.heap.size) : Below r w w' := ⟨h.2.os, h.2.tape, h.2.output, h.2.size, fun k hk => h.2.block k (by omega) (by intro e; injection e with e; omega)⟩
theorem grown_r {w w' : World} {r : Nat} {row : Option Nat} (h : w.grownBy w' row) (hr : ∀ j, row = some j → r ≤ j) (hs : r ≤ w.heap.size) : Below r w w' := ⟨h.os, h.tape, h.output, h.size, fun k hk => h.block k (by omega) (by intro e; have := hr k e.symm; omega)⟩
set_option maxHeartbeats 2000000 in
theorem l2Bad_any (w : World) (r N base : Nat) (v : Value) (L : List (Int × ByteArray)) (h : Rd w r N) (hN : N ≤ 80000) (hrow : Row w base v L) (hrb : r < base) (hl : L.length ≤ 40) (hs : Small 7 L) :
    Calls Try.prog 54 #[.pointer (some ⟨r, 0, none⟩), v] w (RowBad w base r N) := by
  have hr := h.lt
  have HS := Lib.hid hs
  have HSW := Lib.hid (hs.mono (z' := 30) (by omega))
  by_cases h0 : L.length = 0
  · obtain ⟨a, c, rfl, _, _⟩ := hrow.form
    rw [h0]
    rw [h0] at hrow
    have HR := Lib.hid hrow
    have RD := Lib.hid h
    clear hrow h hs
    go_enter Try.func54, Try.ntmps54
    go_wp2
    go_ret
    exact ⟨_, L, rfl, HR, by omega, HSW, RD.out.mono (by omega) (by omega), Below.refl _ _⟩
  rcases hrow.cases with ⟨rfl, rfl⟩ | ⟨g, c, rfl, hbg, hgl⟩
  · exact absurd rfl h0
  have HR := Lib.hid hrow
  have SG := Lib.hid (Sg.start h)
  have hz : ((L.length : Int) == 0) = false := by rw [beq_eq_false_iff_ne]; omega
  clear hrow h hs
  go_enter Try.func54, Try.ntmps54
  go_wp2_with fail
  refine (pick_sg _ _ _ r _ SG.out (by omega) (by omega) (by omega)).mono ?_
  rintro e w1 ⟨j, rfl, j0, j1, sg1⟩
  obtain ⟨j, rfl⟩ := Int.eq_ofNat_of_zero_le j0
  have hj : j < L.length := by omega
  clear SG
  have SG := Lib.hid sg1
  clear sg1
  go_wp2_with fail
  refine (pick_sg _ _ _ r _ SG.out (by omega) (by omega) (by omega)).mono ?_
  rintro e w2 ⟨t, rfl, t0, t1, sg2⟩
  have SG2 := Lib.hid sg2
  have R2 := Lib.hid (HR.out.sg sg2 hrb)
  have hr2 := sg2.1.lt
  have hs2 := sg2.2.size
  clear sg2 SG
  cases c0 : (t == 0)
  · cases c1 : (t == 1)
    · cases c2 : (t == 2)
      · go_wp2
        go_ret
        exact ⟨_, L, rfl, R2.out, by omega, HSW, SG2.out.1.mono (by omega) (by omega), SG2.out.below_r hr⟩
      · have RD := Lib.hid SG2.out.1
        have BL := Lib.hid (SG2.out.below_r hr)
        clear SG2 HR
        go_wp2
        go_loopw [1] (fun u wr => ∃ (L' : List (Int × ByteArray)), L'.length ≤ 61 ∧ Hid (Small 30 L') ∧ Hid (Row wr base u L') ∧ Hid (Rd wr r (N + 1 + 1)) ∧ Hid (Below r w wr) ∧ w2.heap.size ≤ wr.heap.size) (fun u _ => 61 - lenOf u)
        case atStart => exact ⟨L, by omega, HSW, R2, RD, BL, Nat.le_refl _⟩
        case round =>
          obtain ⟨L', hl', hsm, hrow, hrd, hbl, hsz⟩ := hrel
          obtain ⟨a, c', rfl, hlc, _⟩ := hrow.out.form
          by_cases hlt : L'.length < 61
          · have sk : IntKind.i64.wrap (1000 + (L'.length : Int)) = 1000 + (L'.length : Int) := IntWalk.i64_in _ (by omega)
            have hli : (L'.length : Int) < 61 := by omega
            go_wp2_with (at_builtin; refine wpList_append_letter _ rfl _ _ rfl base _ _ rfl (hrow.out.alloc _) _ (1000 + (L'.length : Int)) ⟨#[49, 50, 48, 48, 49, 48, 49]⟩ rfl ?_ (by omega) (by simp; omega) ?_)
            · simp [go_sem]
            · intro v' w4 hr4 hg4 ho4
              have hbl4 : Hid (Below r w w4) := (hbl.out.alloc (Nat.le_trans (by omega) hbl.out.size) _).trans (grown_r hg4 (fun j e => Nat.le_trans (Nat.le_of_lt hrb) (hrow.out.lt j e).1) (by simp; omega))
              have RD4 := Lib.hid ((hrd.out.below (below_alloc' _ _)).grown (hrow.out.alloc _) hrb hg4)
              have hz4 := hg4.size
              have R4 := Lib.hid hr4
              clear hr4 hg4 ho4
              go_wp2
              go_roundw
              case rel => exact ⟨L' ++ [(1000 + (L'.length : Int), ⟨#[49, 50, 48, 48, 49, 48, 49]⟩)], by simp; omega, (fun y hy => by
                rcases List.mem_append.1 hy with h | h
                · exact hsm.out y h
                · rw [List.mem_singleton.1 h]; exact ⟨⟨by simp; omega, by simp; omega⟩, by show (⟨#[49, 50, 48, 48, 49, 48, 49]⟩ : ByteArray).size ≤ 30; decide⟩), R4, RD4, hbl4, by simp at hz4; omega⟩
              case measure =>
                obtain ⟨a', c'', e, _⟩ := R4.out.form
                rw [e]
                simp [lenOf]
                omega
          · have hli : ¬ (L'.length : Int) < 61 := by omega
            go_wp2
            go_ret
            exact ⟨_, L', rfl, hrow, hl', hsm.out, hrd.out.mono (by omega) (by omega), hbl⟩
    · have p0 : w2.cell? ⟨g, 0, none⟩ = some (.int .i64 L[0].1) := (R2.out.cells 0 (by omega)).1
      obtain ⟨⟨y0, y1⟩, _⟩ := HS.out.at 0 (by omega)
      generalize L[0].1 = y at p0 y0 y1
      have RD := Lib.hid (SG2.out.1.below (below_alloc' w2 (.cells #[.int .i64 0, .int .i64 10000, .int .i64 9999, .int .i64 (-1), .int .i64 y] 3)))
      go_wp2_with fail
      refine (num_sg _ [0, 10000, 9999, -1, y] w2.heap.size _ r _ (Sg.start RD.out) (by omega) (by simp) (by simp) (by omega) (cells_int [0, 10000, 9999, -1, y] _ w2)).mono ?_
      rintro e w3 ⟨q, rfl, hm, sg3⟩
      have hq : -1 ≤ q ∧ q ≤ 100000 := by simp at hm; omega
      have R3 := Lib.hid ((R2.out.alloc _).sg sg3 hrb)
      have BL := Lib.hid (((SG2.out.below_r hr).alloc (by omega) _).trans (sg3.below_r (by simp; omega)))
      have RD3 := Lib.hid sg3.1
      have hz3 := sg3.2.size
      simp at hz3
      clear sg3 hm RD p0
      obtain ⟨p0, p1, p2, p3⟩ := R3.out.cells j hj
      obtain ⟨q1, q2⟩ := R3.out.id j hj q
      have hx2 := (HS.out.at j hj).2
      have Q1 := Lib.hid q1
      have Q2 := Lib.hid q2
      have RD4 := Lib.hid (RD3.out.grown R3.out hrb q2)
      have BL4 := Lib.hid (BL.out.trans (grown_r q2 (fun j e => by injection e with e; omega) (by omega)))
      have SM := Lib.hid (HS.out.set j (q, L[j].2) (z' := 30) (by omega) ⟨hq, by show L[j].2.size ≤ 30; omega⟩)
      clear q1 q2
      go_wp2
      go_ret
      exact ⟨_, _, rfl, Q1, by simp; omega, SM, RD4.out.mono (by omega) (by omega), BL4⟩
  · obtain ⟨p0, p1, p2, p3⟩ := R2.out.cells j hj
    obtain ⟨⟨y0, y1⟩, y2⟩ := HS.out.at j hj
    have hcs : (L[j].2 ++ (⟨#[49]⟩ : ByteArray)).size = L[j].2.size + 1 := by rw [ByteArray.size_append]; rfl
    go_wp2_with fail
    refine (l1Bad_sg _ _ r _ _ (Sg.start SG2.out.1) (by omega) (by omega) (by omega)).mono ?_
    rintro e w3 ⟨s, rfl, s0, s1, sg3⟩
    have R3 := Lib.hid (R2.out.sg sg3 hrb)
    have BL := Lib.hid ((SG2.out.below_r hr).trans (sg3.below_r hr2))
    have RD3 := Lib.hid sg3.1
    have hz3 := sg3.2.size
    clear sg3 p0 p1 p2 p3
    obtain ⟨p0, p1, p2, p3⟩ := R3.out.cells j hj
    obtain ⟨q1, q2⟩ := R3.out.code j hj s
    have Q1 := Lib.hid q1
    have RD4 := Lib.hid (RD3.out.grown R3.out hrb q2)
    have BL4 := Lib.hid (BL.out.trans (grown_r q2 (fun j e => by injection e with e; omega) (by omega)))
    have SM := Lib.hid (HS.out.set j (L[j].1, s) (z' := 30) (by omega) ⟨⟨y0, y1⟩, by show s.size ≤ 30; omega⟩)
    clear q1 q2
    go_wp2
    go_ret
    exact ⟨_, _, rfl, Q1, by simp; omega, SM, RD4.out.mono (by omega) (by omega), BL4⟩
def RowOpen (w : World) (r N : Nat) (e : Ending) (w' : World) : Prop := ∃ (base : Nat) (v' : Value) (L' : List (Int × ByteArray)), e = .returned v' ∧ r < base ∧ Row w' base v' L' ∧ L'.length ≤ 61 ∧ Small 30 L' ∧ Rd w' r N ∧ Below r w w'
/-- Drawn letters, and a number. -/
def Lets (w w' : World) (v : Value) : Prop := ∃ (a : Option Addr) (n c : Nat) (I : Nat → Int) (C : Nat → ByteArray), v = .slice a n c ∧ Lts w' a n I C ∧ Fits n I C ∧ n ≤ 61 ∧ Below w.heap.size w w'
theorem lets_of {w w' : World} {base : Nat} {v : Value} {L : List (Int × ByteArray)} (h : Row w' base v L) (hl : L.length ≤ 61) (hs : Small 30 L) (hb : Below w.heap.size w w') : Lets w w' v := by
  obtain ⟨a, c, rfl, _, hL⟩ := h.form
  refine ⟨a, _, c, _, _, rfl, hL, fun i hi => ?_, hl, hb⟩
  have := hs.at i hi
  rw [nI_at hi, nC_at hi]
  exact ⟨by omega, by unfold maxLen; omega⟩
def LetsNum (w : World) (e : Ending) (w' : World) : Prop := ∃ (v : Value) (x : Int), e = .returned (.tuple #[v, .int .i64 x]) ∧ Lets w w' v
def LetsStr (w : World) (e : Ending) (w' : World) : Prop := ∃ (v : Value) (s : ByteArray), e = .returned (.tuple #[v, .string s]) ∧ s.size ≤ 30 ∧ Lets w w' v
end Go.Proofs.Ytbcoklognedffaa

/-
  Letters that are sometimes no batch: what is written beside them.
-/
namespace Go.Proofs.Ytbcoklognedffaa
open Go.RowKit
set_option linter.unusedVariables false

/-- Letters behind l2Bad: only the reader's block and their own are written. -/
def RowBadO (w : World) (base r N : Nat) (row : Option Nat) (e : Ending) (w' : World) : Prop := ∃ (v' : Value) (L' : List (Int × ByteArray)), e = .returned v' ∧ Row w' base v' L' ∧ L'.length ≤ 61 ∧ Small 30 L' ∧ Rd w' r (N + 20) ∧ Only w w' (fun k => k = r ∨ row = some k) ∧ (v'.ownBlock = row ∨ ∃ k, v'.ownBlock = some k ∧ w.heap.size ≤ k)
set_option maxHeartbeats 2000000 in
theorem l2Bad_only (w : World) (r N base : Nat) (v : Value) (L : List (Int × ByteArray)) (h : Rd w r N) (hN : N ≤ 80000) (hrow : Row w base v L) (hrb : r < base) (hl : L.length ≤ 40) (hs : Small 7 L) :
    Calls Try.prog 54 #[.pointer (some ⟨r, 0, none⟩), v] w (RowBadO w base r N v.ownBlock) := by
  have hr := h.lt
  have HS := Lib.hid hs
  have HSW := Lib.hid (hs.mono (z' := 30) (by omega))
  by_cases h0 : L.length = 0
  · obtain ⟨a, c, rfl, _, _⟩ := hrow.form
    rw [h0]
    rw [h0] at hrow
    have HR := Lib.hid hrow
    have RD := Lib.hid h
    clear hrow h hs
    go_enter Try.func54, Try.ntmps54
    go_wp2
    go_ret
    exact ⟨_, L, rfl, HR, by omega, HSW, RD.out.mono (by omega) (by omega), Only.refl _ _, Or.inl rfl⟩
  rcases hrow.cases with ⟨rfl, rfl⟩ | ⟨g, c, rfl, hbg, hgl⟩
  · exact absurd rfl h0
  have HR := Lib.hid hrow
  have SG := Lib.hid (Sg.start h)
  have hz : ((L.length : Int) == 0) = false := by rw [beq_eq_false_iff_ne]; omega
  have hown : (Value.slice (some ⟨g, 0, none⟩) L.length c).ownBlock = some g := rfl
  rw [hown]
  clear hrow h hs hown
  go_enter Try.func54, Try.ntmps54
  go_wp2_with fail
  refine (pick_sg _ _ _ r _ SG.out (by omega) (by omega) (by omega)).mono ?_
  rintro e w1 ⟨j, rfl, j0, j1, sg1⟩
  obtain ⟨j, rfl⟩ := Int.eq_ofNat_of_zero_le j0
  have hj : j < L.length := by omega
  clear SG
  have SG := Lib.hid sg1
  clear sg1
  go_wp2_with fail
  refine (pick_sg _ _ _ r _ SG.out (by omega) (by omega) (by omega)).mono ?_
  rintro e w2 ⟨t, rfl, t0, t1, sg2⟩
  have RD2 := Lib.hid sg2.1
  have O2 : Hid (Only w w2 (fun k => k = r ∨ some g = some k)) := sg2.only.mono fun x _ h => Or.inl h
  have R2 := Lib.hid (HR.out.sg sg2 hrb)
  have hr2 := sg2.1.lt
  have hs2 := sg2.2.size
  clear sg2 SG HR
  cases c0 : (t == 0)
  · cases c1 : (t == 1)
    · cases c2 : (t == 2)
      · go_wp2
        go_ret
        exact ⟨_, L, rfl, R2.out, by omega, HSW, RD2.out.mono (by omega) (by omega), O2.out, Or.inl rfl⟩
      · go_wp2
        go_loopw [1] (fun u wr => ∃ (L' : List (Int × ByteArray)), L'.length ≤ 61 ∧ Hid (Small 30 L') ∧ Hid (Row wr base u L') ∧ Hid (Rd wr r (N + 1 + 1)) ∧ Hid (Only w wr (fun k => k = r ∨ some g = some k)) ∧ Hid (u.ownBlock = some g ∨ ∃ k, u.ownBlock = some k ∧ w.heap.size ≤ k) ∧ w2.heap.size ≤ wr.heap.size) (fun u _ => 61 - lenOf u)
        case atStart => exact ⟨L, by omega, HSW, R2, RD2, O2, Or.inl rfl, Nat.le_refl _⟩
        case round =>
          obtain ⟨L', hl', hsm, hrow, hrd, hbl, hown, hsz⟩ := hrel
          obtain ⟨a, c', rfl, hlc, _⟩ := hrow.out.form
          by_cases hlt : L'.length < 61
          · have sk : IntKind.i64.wrap (1000 + (L'.length : Int)) = 1000 + (L'.length : Int) := IntWalk.i64_in _ (by omega)
            have hli : (L'.length : Int) < 61 := by omega
            go_wp2_with (at_builtin; refine wpList_append_letter _ rfl _ _ rfl base _ _ rfl (hrow.out.alloc _) _ (1000 + (L'.length : Int)) ⟨#[49, 50, 48, 48, 49, 48, 49]⟩ rfl ?_ (by omega) (by simp; omega) ?_)
            · simp [go_sem]
            · intro v' w4 hr4 hg4 ho4
              have o4 : Only wr w4 (fun k => some k = (Value.slice a L'.length c').ownBlock) := (Only.new (S := fun k => some k = (Value.slice a L'.length c').ownBlock) (below_alloc' wr _)).trans (Only.of_grown hg4) (fun _ _ h => h)
              have O4 : Hid (Only w w4 (fun k => k = r ∨ some g = some k)) := hbl.out.trans o4 (fun x hx e => by
                rcases hown.out with h | ⟨k, h, hk⟩
                · exact Or.inr (by rw [← h, e])
                · rw [h] at e; injection e with e; omega)
              have H4 : Hid (v'.ownBlock = some g ∨ ∃ k, v'.ownBlock = some k ∧ w.heap.size ≤ k) := by
                rcases ho4 with e | e
                · rw [Hid, e]; exact hown.out
                · exact Or.inr ⟨_, e, by have := hbl.out.size; first | omega | (simp; omega)⟩
              have RD4 := Lib.hid ((hrd.out.below (below_alloc' _ _)).grown (hrow.out.alloc _) hrb hg4)
              have hz4 := hg4.size
              have R4 := Lib.hid hr4
              clear hr4 hg4 ho4 o4
              go_wp2
              go_roundw
              case rel => exact ⟨L' ++ [(1000 + (L'.length : Int), ⟨#[49, 50, 48, 48, 49, 48, 49]⟩)], by simp; omega, (fun y hy => by
                rcases List.mem_append.1 hy with h | h
                · exact hsm.out y h
                · rw [List.mem_singleton.1 h]; exact ⟨⟨by simp; omega, by simp; omega⟩, by show (⟨#[49, 50, 48, 48, 49, 48, 49]⟩ : ByteArray).size ≤ 30; decide⟩), R4, RD4, O4, H4, by simp at hz4; omega⟩
              case measure =>
                obtain ⟨a', c'', e, _⟩ := R4.out.form
                rw [e]
                simp [lenOf]
                omega
          · have hli : ¬ (L'.length : Int) < 61 := by omega
            go_wp2
            go_ret
            exact ⟨_, L', rfl, hrow, hl', hsm.out, hrd.out.mono (by omega) (by omega), hbl, hown.out⟩
    · have p0 : w2.cell? ⟨g, 0, none⟩ = some (.int .i64 L[0].1) := (R2.out.cells 0 (by omega)).1
      obtain ⟨⟨y0, y1⟩, _⟩ := HS.out.at 0 (by omega)
      generalize L[0].1 = y at p0 y0 y1
      have RD := Lib.hid (RD2.out.below (below_alloc' w2 (.cells #[.int .i64 0, .int .i64 10000, .int .i64 9999, .int .i64 (-1), .int .i64 y] 3)))
      go_wp2_with fail
      refine (num_sg _ [0, 10000, 9999, -1, y] w2.heap.size _ r _ (Sg.start RD.out) (by omega) (by simp) (by simp) (by omega) (cells_int [0, 10000, 9999, -1, y] _ w2)).mono ?_
      rintro e w3 ⟨q, rfl, hm, sg3⟩
      have hq : -1 ≤ q ∧ q ≤ 100000 := by simp at hm; omega
      have R3 := Lib.hid ((R2.out.alloc _).sg sg3 hrb)
      have o23 : Only w2 w3 (fun k => k = r) := (Only.new (below_alloc' w2 _)).trans sg3.only (fun _ _ h => h)
      have O3 := Lib.hid (O2.out.trans o23 (fun x hx e => Or.inl e))
      have RD3 := Lib.hid sg3.1
      have hz3 := sg3.2.size
      simp at hz3
      clear sg3 hm RD p0 o23
      obtain ⟨p0, p1, p2, p3⟩ := R3.out.cells j hj
      obtain ⟨q1, q2⟩ := R3.out.id j hj q
      have hx2 := (HS.out.at j hj).2
      have Q1 := Lib.hid q1
      have RD4 := Lib.hid (RD3.out.grown R3.out hrb q2)
      have O4 := Lib.hid (O3.out.trans (Only.of_grown q2) (fun x hx e => Or.inr e.symm))
      have SM := Lib.hid (HS.out.set j (q, L[j].2) (z' := 30) (by omega) ⟨hq, by show L[j].2.size ≤ 30; omega⟩)
      clear q1 q2
      go_wp2
      go_ret
      exact ⟨_, _, rfl, Q1, by simp; omega, SM, RD4.out.mono (by omega) (by omega), O4, Or.inl rfl⟩
  · obtain ⟨p0, p1, p2, p3⟩ := R2.out.cells j hj
    obtain ⟨⟨y0, y1⟩, y2⟩ := HS.out.at j hj
    have hcs : (L[j].2 ++ (⟨#[49]⟩ : ByteArray)).size = L[j].2.size + 1 := by rw [ByteArray.size_append]; rfl
    go_wp2_with fail
    refine (l1Bad_sg _ _ r _ _ (Sg.start RD2.out) (by omega) (by omega) (by omega)).mono ?_
    rintro e w3 ⟨s, rfl, s0, s1, sg3⟩
    have R3 := Lib.hid (R2.out.sg sg3 hrb)
    have O3 := Lib.hid (O2.out.trans sg3.only (fun x hx e => Or.inl e))
    have RD3 := Lib.hid sg3.1
    have hz3 := sg3.2.size
    clear sg3 p0 p1 p2 p3
    obtain ⟨p0, p1, p2, p3⟩ := R3.out.cells j hj
    obtain ⟨q1, q2⟩ := R3.out.code j hj s
    have Q1 := Lib.hid q1
    have RD4 := Lib.hid (RD3.out.grown R3.out hrb q2)
    have O4 := Lib.hid (O3.out.trans (Only.of_grown q2) (fun x hx e => Or.inr e.symm))
    have SM := Lib.hid (HS.out.set j (L[j].1, s) (z' := 30) (by omega) ⟨⟨y0, y1⟩, by show s.size ≤ 30; omega⟩)
    clear q1 q2
    go_wp2
    go_ret
    exact ⟨_, _, rfl, Q1, by simp; omega, SM, RD4.out.mono (by omega) (by omega), O4, Or.inl rfl⟩
end Go.Proofs.Ytbcoklognedffaa

/-
  Drawn arguments of PlanRank and PlanBin.
-/
namespace Go.Proofs.Ytbcoklognedffaa
open Go.RowKit

theorem IsRow.below {k : IntKind} {w w' : World} {a : Option Addr} {l c : Nat} {z : List Int} (h : IsRow k w a l c z) (hb : Below w.heap.size w w') : IsRow k w' a l c z := by
  rcases h with h | ⟨x, hx, q1, q2, q3, q4, q5⟩
  · exact Or.inl h
  · exact Or.inr ⟨x, hx, q1, q2, q3, fun i hi => (hb.cell (p := x.add i) (World.block_lt_of_cell? _ _ (q4 i hi))).trans (q4 i hi), q5⟩
theorem SmallS.fits {z : Nat} {L : List ByteArray} (h : SmallS z L) (hz : z ≤ 1000) : SFits L.length (sC L) := fun i hi => by
  rw [sC_at hi]
  have := h _ (List.getElem_mem hi)
  unfold maxLen; omega
theorem SRow.strs' {w : World} {base : Nat} {a : Option Addr} {c : Nat} {L : List ByteArray} (h : SRow w base (.slice a L.length c) L) : Strs w a L.length (sC L) := by
  obtain ⟨a', c', e, _, hl⟩ := h.form
  injection e with e1 _ _
  subst e1
  exact hl
/-- A drawn plan and a string. -/
def PlanStr (w : World) (e : Ending) (w' : World) : Prop := ∃ (b p : Int) (a : Option Addr) (n c : Nat) (S : Nat → ByteArray) (s : ByteArray), e = .returned (.tuple #[.agg #[.int .i64 b, .int .i64 p, .slice a n c], .string s]) ∧ (-9223372036854775808 ≤ b ∧ b ≤ 9223372036854775807) ∧ (0 ≤ p ∧ p ≤ 5) ∧ Strs w' a n S ∧ SFits n S ∧ n ≤ 13 ∧ s.size ≤ 30 ∧ (∀ b o, a = some ⟨b, o, none⟩ → 0 < n → w.heap.size ≤ b) ∧ Below w.heap.size w w'

end Go.Proofs.Ytbcoklognedffaa
