/-
  Drawn arguments of PlanRank and PlanBin.
-/
import Derived.Test.YtajinjfpgoieaaaDrawQ
namespace Go.Proofs.Ytajinjfpgoieaaa
open Go.RowKit

theorem IsRow.below {k : IntKind} {w w' : World} {a : Option Addr} {l c : Nat} {z : List Int} (h : IsRow k w a l c z) (hb : Below w.heap.size w w') : IsRow k w' a l c z := by
  rcases h with h | ⟨x, hx, q1, q2, q3, q4, q5⟩
  · exact Or.inl h
  · exact Or.inr ⟨x, hx, q1, q2, q3, fun i hi => (hb.cell (p := x.add i) (World.block_lt_of_cell? _ _ (q4 i hi))).trans (q4 i hi), q5⟩
theorem SmallS.fits {z : Nat} {L : List ByteArray} (h : SmallS z L) (hz : z ≤ 1000) : SFits L.length (sC L) := fun i hi => by
  rw [sC_at hi]
  have := h _ (List.getElem_mem hi)
  unfold maxLen; omega
theorem SRow.strs' {w : World} {base : Nat} {a : Option Addr} {c : Nat} {L : List ByteArray} (h : SRow w base (.slice a L.length c) L) : Strs w a L.length (sC L) := by
  obtain ⟨a', c', e, _, hl⟩ := h.form
  injection e with e1 _ _
  subst e1
  exact hl
/-- A drawn plan and a string. -/
def PlanStr (w : World) (e : Ending) (w' : World) : Prop := ∃ (b p : Int) (a : Option Addr) (n c : Nat) (S : Nat → ByteArray) (s : ByteArray), e = .returned (.tuple #[.agg #[.int .i64 b, .int .i64 p, .slice a n c], .string s]) ∧ (-9223372036854775808 ≤ b ∧ b ≤ 9223372036854775807) ∧ (0 ≤ p ∧ p ≤ 5) ∧ Strs w' a n S ∧ SFits n S ∧ n ≤ 13 ∧ s.size ≤ 30 ∧ (∀ b o, a = some ⟨b, o, none⟩ → 0 < n → w.heap.size ≤ b) ∧ Below w.heap.size w w'

set_option maxHeartbeats 4000000 in
theorem DrawPlanRank_any (a : Option Addr) (l k : Nat) (z : List Int) (w : World) (h : IsRow .u8 w a l k z) :
    Calls Try.prog 37 #[.slice a l k] w (PlanStr w) := by
  have h' := Lib.hid (h.below (below_alloc0 w (.cells #[.int .i64 0, .int .i64 0, .slice none 0 0] 27)))
  have BY0 := Lib.hid (tri_made w (.int .i64 0) (.int .i64 0) (.slice none 0 0) 27)
  clear h
  go_enter Try.func37, Try.ntmps37
  go_wp2_with fail
  refine (open_any _ _ _ _ _ h'.out).mono ?_
  rintro e w1 ⟨r, rfl, rd1, bl1, hr1⟩
  have BY1 := Lib.hid (BY0.out.on bl1)
  have B1 : Hid (Below w.heap.size w w1) := sstep (below_alloc0 w _) bl1
  have hrw : w.heap.size < r := by simp at hr1; omega
  have RD1 := Lib.hid rd1
  have hrl := rd1.lt
  clear BY0 h' rd1 bl1 hr1
  go_wp2_with fail
  refine (l3Some_any _ r _ RD1.out (by omega)).mono ?_
  rintro e w2 ⟨b, p, v, L, rfl, hb, hp, hrow, l1, l2, hsm, sg2⟩
  obtain ⟨a2, c2, hv, _, _⟩ := hrow.form
  cases hv
  rcases hrow.cases with ⟨e1, e2⟩ | ⟨g, c', e1, hbg, hgl, hlc⟩
  · rw [e2] at l1; simp at l1
  cases e1
  have z2 := sg2.2.size
  have o2 : Only w1 w2 (fun k => k = r) := sg2.only
  have B2 := Lib.hid (B1.out.trans (o2.below (B := w.heap.size) (fun k hk hk2 => by omega) (by have := B1.out.size; omega)))
  have BY2 := Lib.hid (BY1.out.only o2 (by omega))
  -- the box of the plan
  have ba := below_alloc0 w2 (.cells #[.int .i64 b, .int .i64 p, .slice (some ⟨g, 0, none⟩) L.length c2] 27)
  have X3 := Lib.hid (tri_made w2 (.int .i64 b) (.int .i64 p) (.slice (some ⟨g, 0, none⟩) L.length c2) 27)
  have R3 := Lib.hid (hrow.below ba)
  have Y3 := Lib.hid (BY2.out.on ba)
  have RD3 := Lib.hid (sg2.1.below ba)
  have B3 := Lib.hid (sstep B2.out ba)
  have HSM := Lib.hid hsm
  obtain ⟨W3, hW3⟩ : ∃ W3, w2.alloc (.cells #[.int .i64 b, .int .i64 p, .slice (some ⟨g, 0, none⟩) L.length c2] 27) = W3 := ⟨_, rfl⟩
  have zW : W3.heap.size = w2.heap.size + 1 := by rw [← hW3]; simp
  rw [hW3] at X3 R3 Y3 RD3 B3
  have HW3 := Lib.hid hW3
  clear hW3 hrow hsm sg2 o2 ba BY1 BY2 B1 B2 RD1
  have hyw : w.heap.size < w2.heap.size := by omega
  obtain ⟨⟨d0, d1, d2⟩, g0, g1, g2⟩ := X3.out
  obtain ⟨⟨e0, e1, e2⟩, f0, f1, f2⟩ := Y3.out
  have hli : (0 : Int) < (L.length : Int) := by omega
  have OB : Hid (∀ (n c k : Nat), (Value.slice (some ⟨g, 0, none⟩) n c).ownBlock = some k → k = g) := fun n c k hk => by simpa [Value.ownBlock] using hk.symm
  have hgr : r < g := by omega
  go_wp2
  rw [HW3.out]
  go_region_with (go_at_call 68; refine (pick_sg _ _ _ r 300 (Sg.start (Rd.below RD3.out (by go_grown))) (by omega) (by omega) (by omega)).mono ?_; rintro e w4 ⟨j, rfl, j0, j1, sg4⟩; have o4 : Only W3 w4 (fun k => k = r) := (by first | exact sg4.only | exact (Only.new (by go_grown)).trans sg4.only (fun _ _ h => h)); have R4 := Lib.hid (R3.out.only o4 (fun k hk => by have := OB.out _ _ k hk; omega)); have X4 := Lib.hid (X3.out.only o4 (by omega)); have Y4 := Lib.hid (Y3.out.only o4 (by omega)); have RD4 := Lib.hid sg4.1; have z4 := o4.size; have B4 := Lib.hid (B3.out.trans (o4.below (B := w.heap.size) (fun k hk hk2 => by omega) (by omega))); clear o4 sg4; obtain ⟨⟨dd0, dd1, dd2⟩, gg0, gg1, gg2⟩ := X4.out; obtain ⟨⟨ee0, ee1, ee2⟩, ff0, ff1, ff2⟩ := Y4.out; obtain ⟨j, rfl⟩ := Int.eq_ofNat_of_zero_le j0; have hj : j < L.length := (by omega); have c4 := (R4.out.cellAt j hj).1; have hs4 := HSM.out _ (List.getElem_mem hj); obtain ⟨y, hy⟩ : ∃ y, L[j] = y := ⟨_, rfl⟩; rw [hy] at c4 hs4; clear hy)
  all_goals
    clear R3 X3 Y3 RD3 B3 d0 d1 d2 g0 g1 g2 e0 e1 e2 f0 f1 f2 dd0 dd1 dd2 gg0 gg1 gg2 ee0 ee1 ee2 ff0 ff1 ff2 c4
    go_wp2_with fail
    refine (pick_sg _ _ _ r (300 + 1) (Sg.start (Rd.below RD4.out (by go_grown))) (by omega) (by omega) (by omega)).mono ?_
    rintro e w5 ⟨t, rfl, t0, t1, sg5⟩
    have o5 : Only w4 w5 (fun k => k = r) := (by first | exact sg5.only | exact (Only.new (by go_grown)).trans sg5.only (fun _ _ h => h))
    have R5 := Lib.hid (R4.out.only o5 (fun k hk => by have := OB.out _ _ k hk; omega))
    have X5 := Lib.hid (X4.out.only o5 (by omega))
    have Y5 := Lib.hid (Y4.out.only o5 (by omega))
    have RD5 := Lib.hid sg5.1
    have z5 := o5.size
    have B5 := Lib.hid (B4.out.trans (o5.below (B := w.heap.size) (fun k hk hk2 => by omega) (by omega)))
    clear o5 sg5 R4 X4 Y4 RD4 B4
    cases ct : (t == 0)
    · obtain ⟨⟨dd0, dd1, dd2⟩, gg0, gg1, gg2⟩ := X5.out
      go_wp2_with fail
      refine (l3Bad_any _ r (300 + 1 + 1) (w1.heap.size + 1) b p _ c2 L RD5.out (by omega) R5.out (by omega) l1 l2 HSM.out (by omega) hp).mono ?_
      rintro e w9 ⟨b', p', a', c', L', rfl, hb', hp', R9, l9, S9, rd9, o9, _⟩
      have Y9 := Lib.hid (Y5.out.only o9 (fun e => by rcases e with e | e; (omega); have := OB.out _ _ _ e; omega))
      have B9 := Lib.hid (B5.out.trans (o9.below (B := w.heap.size) (fun k hk hk2 e => by rcases e with e | e; (omega); have := OB.out _ _ _ e; omega) (by omega)))
      have R9' := Lib.hid R9
      have z9 := o9.size
      clear o9 rd9 R9 Y5 B5 X5 R5 RD5 dd0 dd1 dd2 gg0 gg1 gg2
      obtain ⟨⟨ee0, ee1, ee2⟩, ff0, ff1, ff2⟩ := Y9.out
      have lty := Y9.out.lt
      have hown : Hid (∀ k, (Value.slice a' L'.length c').ownBlock = some k → k ≠ w.heap.size) := fun k hk => by have := (R9'.out.lt k hk).1; omega
      go_wp2
      refine bodyPost_ret (v := .tuple #[.agg #[.int .i64 b', .int .i64 p', .slice a' L'.length c'], .string y]) (by simp [results, Try.results37, go_sem, ee0, ee1, ee2]) rfl ?_
      exact ⟨b', p', a', L'.length, c', sC L', y, rfl, hb', hp', (R9'.out.three hown.out _ _ _).strs', S9.fits (by omega), l9, by omega, (fun k o e _ => by have := (R9'.out.lt k (by rw [e]; rfl)).1; omega), ((B9.out.setCell (Nat.le_refl _) _).setCell (Nat.le_refl _) _).setCell (Nat.le_refl _) _⟩
    · go_wp2_with fail
      refine (l1Some_sg _ _ r (300 + 1 + 1) (Sg.start RD5.out) (by omega)).mono ?_
      rintro e w6 ⟨s6, rfl, s60, s61, sg6⟩
      have o6 : Only w5 w6 (fun k => k = r) := (by first | exact sg6.only | exact (Only.new (by go_grown)).trans sg6.only (fun _ _ h => h))
      have R6 := Lib.hid (R5.out.only o6 (fun k hk => by have := OB.out _ _ k hk; omega))
      have X6 := Lib.hid (X5.out.only o6 (by omega))
      have Y6 := Lib.hid (Y5.out.only o6 (by omega))
      have RD6 := Lib.hid sg6.1
      have z6 := o6.size
      have B6 := Lib.hid (B5.out.trans (o6.below (B := w.heap.size) (fun k hk hk2 => by omega) (by omega)))
      clear o6 sg6 R5 X5 Y5 RD5 B5
      go_wp2_with fail
      refine (l1Bad_sg _ _ r (300 + 1 + 1 + 10) s6 (Sg.start RD6.out) (by omega) (by omega) (by omega)).mono ?_
      rintro e w7 ⟨s7, rfl, s70, s71, sg7⟩
      have o7 : Only w6 w7 (fun k => k = r) := (by first | exact sg7.only | exact (Only.new (by go_grown)).trans sg7.only (fun _ _ h => h))
      have R7 := Lib.hid (R6.out.only o7 (fun k hk => by have := OB.out _ _ k hk; omega))
      have X7 := Lib.hid (X6.out.only o7 (by omega))
      have Y7 := Lib.hid (Y6.out.only o7 (by omega))
      have RD7 := Lib.hid sg7.1
      have z7 := o7.size
      have B7 := Lib.hid (B6.out.trans (o7.below (B := w.heap.size) (fun k hk hk2 => by omega) (by omega)))
      clear o7 sg7 R6 X6 Y6 RD6 B6
      obtain ⟨⟨dd0, dd1, dd2⟩, gg0, gg1, gg2⟩ := X7.out
      go_wp2_with fail
      refine (l3Bad_any _ r (300 + 1 + 1 + 10 + 10) (w1.heap.size + 1) b p _ c2 L RD7.out (by omega) R7.out (by omega) l1 l2 HSM.out (by omega) hp).mono ?_
      rintro e w9 ⟨b', p', a', c', L', rfl, hb', hp', R9, l9, S9, rd9, o9, _⟩
      have Y9 := Lib.hid (Y7.out.only o9 (fun e => by rcases e with e | e; (omega); have := OB.out _ _ _ e; omega))
      have B9 := Lib.hid (B7.out.trans (o9.below (B := w.heap.size) (fun k hk hk2 e => by rcases e with e | e; (omega); have := OB.out _ _ _ e; omega) (by omega)))
      have R9' := Lib.hid R9
      have z9 := o9.size
      clear o9 rd9 R9 Y7 B7 X7 R7 RD7 dd0 dd1 dd2 gg0 gg1 gg2
      obtain ⟨⟨ee0, ee1, ee2⟩, ff0, ff1, ff2⟩ := Y9.out
      have lty := Y9.out.lt
      have hown : Hid (∀ k, (Value.slice a' L'.length c').ownBlock = some k → k ≠ w.heap.size) := fun k hk => by have := (R9'.out.lt k hk).1; omega
      go_wp2
      refine bodyPost_ret (v := .tuple #[.agg #[.int .i64 b', .int .i64 p', .slice a' L'.length c'], .string s7]) (by simp [results, Try.results37, go_sem, ee0, ee1, ee2]) rfl ?_
      exact ⟨b', p', a', L'.length, c', sC L', s7, rfl, hb', hp', (R9'.out.three hown.out _ _ _).strs', S9.fits (by omega), l9, by omega, (fun k o e _ => by have := (R9'.out.lt k (by rw [e]; rfl)).1; omega), ((B9.out.setCell (Nat.le_refl _) _).setCell (Nat.le_refl _) _).setCell (Nat.le_refl _) _⟩
end Go.Proofs.Ytajinjfpgoieaaa
