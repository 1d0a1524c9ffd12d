/-
  Drawn plans, and plans that are sometimes none.
-/
import Derived.Test.YthnaglnmmgpiaaaDrawG
import Derived.Test.YthnaglnmmgpiaaaRank
import Derived.Test.YthnaglnmmgpiaaaMgN3
import Derived.Deep.AppendLies
import Derived.Deep.RegionLaw
import Derived.WalkLawsBesides
namespace Go.Proofs.Ythnaglnmmgpiaaa
open Go.RowKit

def SmallS (z : Nat) (L : List ByteArray) : Prop := ∀ x ∈ L, x.size ≤ z
theorem SRow.sg {w w' : World} {base r N : Nat} {v : Value} {L : List ByteArray} (h : SRow w base v L) (hs : Sg w w' r N) (hr : r < base) : SRow w' base v L :=
  h.kept hs.2 (fun b hb e => by have := (h.lt b hb).1; injection e with e; omega)
theorem Rd.sgrown {w w' : World} {base r N : Nat} {v : Value} {L : List ByteArray} (h : Rd w r N) (hr : SRow w base v L) (hrb : r < base) (hg : w.grownBy w' v.ownBlock) : Rd w' r N := by
  have hlt := h.lt
  have hne : ∀ b, b ≤ r → some b ≠ v.ownBlock := fun b hb e => by have := (hr.lt b e.symm).1; omega
  obtain ⟨p, a, l, k, hp, hN, h0, h1, hf, hlk, hk, hl, hB⟩ := h
  refine ⟨p, a, l, k, hp, hN, hg.cell h0 (hne r (Nat.le_refl _)), hg.cell h1 (hne r (Nat.le_refl _)), (World.frozen?_of_block (a := ⟨r, 1, none⟩) (hg.block r hlt (hne r (Nat.le_refl _)))).trans hf, hlk, hk, hl, ?_⟩
  rcases hB with hB | ⟨b, off, rfl, hbr, hB⟩
  · exact Or.inl hB
  · refine Or.inr ⟨b, off, rfl, hbr, fun i hi => ?_⟩
    obtain ⟨x, hx, x0, x1⟩ := hB i hi
    exact ⟨x, hg.cell hx (hne b (by omega)), x0, x1⟩
theorem Sg.sgrown {W w w' : World} {base r N : Nat} {v : Value} {L : List ByteArray} (h : Sg W w r N) (hr : SRow w base v L) (hb : W.heap.size ≤ base) (hrb : r < base) (hg : w.grownBy w' v.ownBlock) : Sg W w' r N :=
  ⟨h.1.sgrown hr hrb hg, h.2.andThen hg fun j e => Or.inl (Nat.le_trans hb (hr.lt j e).1)⟩
def SRowSg (W : World) (base m r N : Nat) (e : Ending) (w' : World) : Prop := ∃ (v : Value) (L : List ByteArray), e = .returned v ∧ SRow w' base v L ∧ 1 ≤ L.length ∧ L.length ≤ m ∧ SmallS 7 L ∧ Sg W w' r N
set_option maxHeartbeats 2000000 in
theorem l3Order_any (w : World) (r N : Nat) (h : Rd w r N) (hN : N ≤ 80000) :
    Calls Try.prog 47 #[.pointer (some ⟨r, 0, none⟩), .int .i64 12] w (SRowSg w w.heap.size 12 r (N + 200)) := by
  have hr := h.lt
  have SE := Lib.hid (sone_empty w)
  have SG := Lib.hid ((Sg.start h).alloc (.cells #[] 9))
  have RD := Lib.hid SG.out.1
  clear h
  go_enter Try.func47, Try.ntmps47
  go_wp2_with fail
  refine (pick_sg _ _ _ r _ (Sg.start RD.out) (by omega) (by omega) (by omega)).mono ?_
  rintro e w1 ⟨n, rfl, n0, n1, sg1⟩
  obtain ⟨n, rfl⟩ := Int.eq_ofNat_of_zero_le n0
  have hn : n < 12 := by omega
  have R1 := Lib.hid (SE.out.sg sg1 hr)
  have S1 := Lib.hid (SG.out.trans sg1)
  clear sg1 SE SG RD
  go_wp2
  go_loopw [5, 6] (fun u i wr => ∃ (k : Nat) (L : List ByteArray), i = .int .i64 k ∧ L.length + k ≤ 12 ∧ (L.length = 0 → 0 < k) ∧ k ≤ n + 1 ∧ Hid (SmallS 7 L) ∧ Hid (SRow wr w.heap.size u L) ∧ Hid (Sg w wr r (N + 1 + 10 * (n + 1 - k)))) (fun _ i _ => (intOf i).toNat)
  case atStart => exact ⟨n + 1, [], by simp; omega, by simp; omega, fun _ => by omega, Nat.le_refl _, (fun _ h => by cases h), R1, by rw [show n + 1 - (n + 1) = 0 from by omega]; exact S1.out⟩
  case round =>
    obtain ⟨k, L, rfl, hk, hz, hkn, hsm, hrow, hsg⟩ := hrel
    by_cases h0 : 0 < k
    · have hk0 : (0 : Int) < (k : Int) := by omega
      obtain ⟨a, c, hv, hlc, _⟩ := hrow.out.form
      cases hv
      go_wp2_with fail
      refine (l1Some_sg _ _ r _ (Sg.start hsg.out.1) (by omega)).mono ?_
      rintro e w3 ⟨s, rfl, s0, s1, sg3⟩
      have R3 := Lib.hid (hrow.out.sg sg3 hr)
      have S3 := Lib.hid (hsg.out.trans sg3)
      clear sg3 hsg
      obtain ⟨a', c', hv', _, hst⟩ := R3.out.form
      cases hv'
      have hrk := M.rank_bd (sC L) s L.length
      have hSR := Lib.hid (spec_l3Rank w3 a L.length c (sC L) hst (by omega) s)
      obtain ⟨q, hq⟩ : ∃ q, M.rankTo (sC L) s L.length = q := ⟨_, rfl⟩
      have HQ := Lib.hid hq
      rw [hq] at hrk hSR
      clear hq hst
      by_cases hneg : q < 0
      · go_wp2_with (first
          | (go_at_call 61; refine (hSR.out).mono ?_; rintro e w5 ⟨rfl, rfl⟩)
          | (at_builtin; refine wpList_append_string _ rfl _ _ rfl w.heap.size _ _ rfl (R3.out.alloc _) _ s rfl ?_ (by omega) (by have := S3.out.2.size; simp; omega) ?_))
        · simp [go_sem]
        · intro v' w4 hr4 hg4 ho4
          have S4 := Lib.hid ((S3.out.alloc _).sgrown (R3.out.alloc _) (Nat.le_refl _) hr hg4)
          have R4 := Lib.hid hr4
          clear hr4 hg4 ho4 R3 S3
          go_wp2
          go_roundw
          case rel => exact ⟨k - 1, L ++ [s], by go_num, by simp; omega, (fun h => by simp at h), by omega, (fun y hy => by
            rcases List.mem_append.1 hy with h | h
            · exact hsm.out y h
            · rw [List.mem_singleton.1 h]; omega), R4, S4.out.mono (by omega) (by omega)⟩
          case measure => simp [intOf]; omega
      · have hL0 : L.length ≠ 0 := by
          intro e
          have : q = -1 := by rw [← HQ.out, e]; rfl
          omega
        go_wp2_with fail
        refine (hSR.out).mono ?_
        rintro e w5 ⟨rfl, rfl⟩
        go_wp2
        go_roundw
        case rel => exact ⟨k - 1, L, by go_num, by omega, (fun h => absurd h hL0), by omega, hsm, R3, S3.out.mono (by omega) (by omega)⟩
        case measure => simp [intOf]; omega
    · obtain rfl : k = 0 := by omega
      go_wp2
      go_ret
      exact ⟨_, _, rfl, hrow, by omega, by omega, hsm.out, hsg.out.mono (by omega) (by omega)⟩

/-- A plan by value whose codes nobody but the call knows. -/
def PlanSg (W : World) (base r N : Nat) (e : Ending) (w' : World) : Prop := ∃ (b p : Int) (v : Value) (L : List ByteArray), e = .returned (.agg #[.int .i64 b, .int .i64 p, v]) ∧ (2 ≤ b ∧ b ≤ 10) ∧ (1 ≤ p ∧ p ≤ 4) ∧ SRow w' base v L ∧ 1 ≤ L.length ∧ L.length ≤ 12 ∧ SmallS 7 L ∧ Sg W w' r N
theorem max_one (q : Int) (h : q ≤ 4) : 1 ≤ max q 1 ∧ max q 1 ≤ 4 := by omega
theorem Tri.sg {w w' : World} {r N b : Nat} {x y z : Value} (h : Tri w b x y z) (hs : Sg w w' r N) (hr : r ≠ b) : Tri w' b x y z := by
  have hlt := h.lt
  obtain ⟨⟨h0, h1, h2⟩, f0, f1, f2⟩ := h
  have hb := hs.2.block b hlt (by intro e; injection e with e; exact hr e.symm)
  have k : ∀ o, w'.cell? ⟨b, o, none⟩ = w.cell? ⟨b, o, none⟩ := fun o => World.cell?_of_block hb
  have q : ∀ o, w'.frozen? ⟨b, o, none⟩ = w.frozen? ⟨b, o, none⟩ := fun o => World.frozen?_of_block hb
  exact ⟨⟨by rw [k]; exact h0, by rw [k]; exact h1, by rw [k]; exact h2⟩, by rw [q]; exact f0, by rw [q]; exact f1, by rw [q]; exact f2⟩
theorem Tri.setOther {w : World} {b : Nat} {x y z : Value} (h : Tri w b x y z) {p : Addr} (hc : b ≠ p.block) (v : Value) : Tri (w.setCell p v) b x y z := by
  obtain ⟨⟨h0, h1, h2⟩, f0, f1, f2⟩ := h
  have hb := Below.heap_setCell w p v b hc
  have k : ∀ i, (w.setCell p v).cell? ⟨b, i, none⟩ = w.cell? ⟨b, i, none⟩ := fun i => World.cell?_of_block hb
  have q : ∀ i, (w.setCell p v).frozen? ⟨b, i, none⟩ = w.frozen? ⟨b, i, none⟩ := fun i => World.frozen?_of_block hb
  exact ⟨⟨by rw [k]; exact h0, by rw [k]; exact h1, by rw [k]; exact h2⟩, by rw [q]; exact f0, by rw [q]; exact f1, by rw [q]; exact f2⟩
theorem Tri.stored {w : World} {b : Nat} {x y z : Value} (h : Tri w b x y z) (p q r : Value) : Tri (((w.setCell ⟨b, 0, none⟩ p).setCell ⟨b, 1, none⟩ q).setCell ⟨b, 2, none⟩ r) b p q r := by
  obtain ⟨⟨h0, h1, h2⟩, f0, f1, f2⟩ := h
  exact ⟨⟨by simp [go_sem, h0], by simp [go_sem, h1], by simp [go_sem, h2]⟩, by simp [go_sem, f0], by simp [go_sem, f1], by simp [go_sem, f2]⟩
theorem Sg.set {W w : World} {r N : Nat} (h : Sg W w r N) {p : Addr} (hp : W.heap.size ≤ p.block) (hr : r < p.block) (u : Value) : Sg W (w.setCell p u) r N := by
  refine ⟨?_, h.2.andThen (grown_set w p u) fun j e => Or.inl (by injection e with e; omega)⟩
  have hlt := h.1.lt
  obtain ⟨q, a, l, k, hq, hN, h0, h1, hf, hlk, hk, hl, hB⟩ := h.1
  have hg := grown_set w p u
  have hne : ∀ b, b ≤ r → some b ≠ some p.block := fun b hb e => by injection e with e; omega
  refine ⟨q, a, l, k, hq, hN, hg.cell h0 (hne r (Nat.le_refl _)), hg.cell h1 (hne r (Nat.le_refl _)), (World.frozen?_of_block (a := ⟨r, 1, none⟩) (hg.block r hlt (hne r (Nat.le_refl _)))).trans hf, hlk, hk, hl, ?_⟩
  rcases hB with hB | ⟨b, off, rfl, hbr, hB⟩
  · exact Or.inl hB
  · refine Or.inr ⟨b, off, rfl, hbr, fun i hi => ?_⟩
    obtain ⟨x, hx, x0, x1⟩ := hB i hi
    exact ⟨x, hg.cell hx (hne b (by omega)), x0, x1⟩
theorem Sg.three {W w : World} {r N b : Nat} (h : Sg W w r N) (hp : W.heap.size ≤ b) (hr : r < b) (x y z : Value) : Sg W (((w.setCell ⟨b, 0, none⟩ x).setCell ⟨b, 1, none⟩ y).setCell ⟨b, 2, none⟩ z) r N :=
  ((h.set (p := ⟨b, 0, none⟩) hp hr x).set (p := ⟨b, 1, none⟩) hp hr y).set (p := ⟨b, 2, none⟩) hp hr z
theorem SRow.three {w : World} {base b : Nat} {v : Value} {L : List ByteArray} (h : SRow w base v L) (hb : ∀ k, v.ownBlock = some k → k ≠ b) (x y z : Value) : SRow (((w.setCell ⟨b, 0, none⟩ x).setCell ⟨b, 1, none⟩ y).setCell ⟨b, 2, none⟩ z) base v L :=
  ((h.set (p := ⟨b, 0, none⟩) hb x).set (p := ⟨b, 1, none⟩) hb y).set (p := ⟨b, 2, none⟩) hb z

set_option maxHeartbeats 2000000 in
theorem l3Some_any (w : World) (r N : Nat) (h : Rd w r N) (hN : N ≤ 70000) :
    Calls Try.prog 28 #[.pointer (some ⟨r, 0, none⟩)] w (PlanSg w (w.heap.size + 1) r (N + 300)) := by
  have hr := h.lt
  have SG := Lib.hid (((Sg.start h).alloc (.cells #[.int .i64 0, .int .i64 0, .slice none 0 0] 25)).alloc (.cells #[.int .i64 4, .int .i64 3, .int .i64 5, .int .i64 2, .int .i64 10] 3))
  have BX := Lib.hid ((tri_made w (.int .i64 0) (.int .i64 0) (.slice none 0 0) 25).alloc (.cells #[.int .i64 4, .int .i64 3, .int .i64 5, .int .i64 2, .int .i64 10] 3))
  have hc := cells_int [4, 3, 5, 2, 10] 3 (w.alloc (.cells #[.int .i64 0, .int .i64 0, .slice none 0 0] 25))
  simp only [World.size_alloc] at hc
  have HC := Lib.hid hc
  clear h hc
  go_enter Try.func28, Try.ntmps28
  go_wp2_with fail
  refine (num_sg _ [4, 3, 5, 2, 10] (w.heap.size + 1) _ r _ (Sg.start SG.out.1) (by omega) (by decide) (by decide) (by omega) HC.out).mono ?_
  rintro e w1 ⟨b, rfl, hm, sg1⟩
  have hv := (show ∀ x ∈ [(4 : Int), 3, 5, 2, 10], 2 ≤ x ∧ x ≤ 10 from by decide) b hm
  have S1 := Lib.hid (SG.out.trans sg1)
  have B1 := Lib.hid (BX.out.sg sg1 (by omega))
  have z1 := sg1.2.size
  simp only [World.size_alloc] at z1
  clear hm sg1 SG BX HC
  go_wp2_with fail
  refine (l3Order_any _ r _ S1.out.1 (by omega)).mono ?_
  rintro e w2 ⟨v, L, rfl, hrow, l1, l2, hsm, sg2⟩
  have S2 := Lib.hid (S1.out.trans sg2)
  have B2 := Lib.hid (B1.out.sg sg2 (by omega))
  have R2 := Lib.hid hrow
  clear sg2 S1 B1 hrow
  obtain ⟨a, c, hvv, _, _⟩ := R2.out.form
  cases hvv
  have hlp := M.leastPasses_bd (L.length : Int) b
  obtain ⟨q, hq⟩ : ∃ q, M.leastPasses (L.length : Int) b = q := ⟨_, rfl⟩
  have HQ := Lib.hid hq
  rw [hq] at hlp
  clear hq
  go_wp2_with fail
  refine (spec_LeastPasses _ (L.length : Int) b).mono ?_
  rw [HQ.out]
  rintro e w3 ⟨rfl, rfl⟩
  have hlt := B2.out.lt
  obtain ⟨⟨d0, d1, d2⟩, g0, g1, g2⟩ := B2.out
  by_cases hq1 : q < 1
  · go_wp2
    refine bodyPost_ret (v := .agg #[.int .i64 b, .int .i64 1, .slice a L.length c]) (by simp [results, Try.results28, go_sem, d0, d1, d2]) rfl ?_
    refine ⟨b, 1, _, L, rfl, hv, by omega, ?_, l1, l2, hsm, (S2.out.three (Nat.le_refl _) hr _ _ _).mono (by omega) (by omega)⟩
    exact (SRow.three R2.out (fun k hk => by have := (R2.out.lt k hk).1; omega) _ _ _).base (by omega)
  · go_wp2
    refine bodyPost_ret (v := .agg #[.int .i64 b, .int .i64 q, .slice a L.length c]) (by simp [results, Try.results28, go_sem, d0, d1, d2]) rfl ?_
    refine ⟨b, q, _, L, rfl, hv, by omega, ?_, l1, l2, hsm, (S2.out.three (Nat.le_refl _) hr _ _ _).mono (by omega) (by omega)⟩
    exact (SRow.three R2.out (fun k hk => by have := (R2.out.lt k hk).1; omega) _ _ _).base (by omega)

theorem Tri.only {w w' : World} {b : Nat} {x y z : Value} {S : Nat → Prop} (h : Tri w b x y z) (ho : Only w w' S) (hn : ¬ S b) : Tri w' b x y z := by
  have hlt := h.lt
  obtain ⟨⟨h0, h1, h2⟩, f0, f1, f2⟩ := h
  have hb := ho.block b hlt hn
  have k : ∀ i, w'.cell? ⟨b, i, none⟩ = w.cell? ⟨b, i, none⟩ := fun i => World.cell?_of_block hb
  have q : ∀ i, w'.frozen? ⟨b, i, none⟩ = w.frozen? ⟨b, i, none⟩ := fun i => World.frozen?_of_block hb
  exact ⟨⟨by rw [k]; exact h0, by rw [k]; exact h1, by rw [k]; exact h2⟩, by rw [q]; exact f0, by rw [q]; exact f1, by rw [q]; exact f2⟩
theorem Rd.only {w w' : World} {r N : Nat} {S : Nat → Prop} (h : Rd w r N) (ho : Only w w' S) (hn : ∀ k, k ≤ r → ¬ S k) : Rd w' r N := by
  have hlt := h.lt
  obtain ⟨q, a, l, k, hq, hN, h0, h1, hf, hlk, hk, hl, hB⟩ := h
  have hc : ∀ b o, b ≤ r → w'.cell? ⟨b, o, none⟩ = w.cell? ⟨b, o, none⟩ := fun b o hb => World.cell?_of_block (ho.block b (by omega) (hn b hb))
  refine ⟨q, a, l, k, hq, hN, (hc r 0 (Nat.le_refl _)).trans h0, (hc r 1 (Nat.le_refl _)).trans h1, (World.frozen?_of_block (a := ⟨r, 1, none⟩) (ho.block r hlt (hn r (Nat.le_refl _)))).trans hf, hlk, hk, hl, ?_⟩
  rcases hB with hB | ⟨b, off, rfl, hbr, hB⟩
  · exact Or.inl hB
  · refine Or.inr ⟨b, off, rfl, hbr, fun i hi => ?_⟩
    obtain ⟨x, hx, x0, x1⟩ := hB i hi
    exact ⟨x, (hc b _ (by omega)).trans hx, x0, x1⟩
theorem Sg.only {W w : World} {r N : Nat} (h : Sg W w r N) : Only W w (fun k => k = r) := (Only.of_grown h.2).mono fun x _ e => by injection e
/-- Behind l3Bad: a plan by value, whose codes lie where they lay or in new memory. -/
def PlanBad (w : World) (base r N : Nat) (row : Option Nat) (e : Ending) (w' : World) : Prop := ∃ (b p : Int) (a : Option Addr) (c : Nat) (L : List ByteArray), e = .returned (.agg #[.int .i64 b, .int .i64 p, .slice a L.length c]) ∧ (-9223372036854775808 ≤ b ∧ b ≤ 9223372036854775807) ∧ (0 ≤ p ∧ p ≤ 5) ∧ SRow w' base (.slice a L.length c) L ∧ L.length ≤ 13 ∧ SmallS 30 L ∧ Rd w' r (N + 20) ∧ Only w w' (fun k => k = r ∨ row = some k) ∧ ((Value.slice a L.length c).ownBlock = row ∨ ∃ g, (Value.slice a L.length c).ownBlock = some g ∧ w.heap.size ≤ g)
end Go.Proofs.Ythnaglnmmgpiaaa
