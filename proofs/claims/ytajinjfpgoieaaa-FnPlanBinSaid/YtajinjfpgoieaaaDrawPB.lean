/-
  Drawn arguments of PlanBin.
-/
import Derived.Test.YtajinjfpgoieaaaDrawR
import Derived.Deep.RegionHeld3
namespace Go.Proofs.Ytajinjfpgoieaaa
open Go.RowKit

def PlanStrNum (w : World) (e : Ending) (w' : World) : Prop := ∃ (b p : Int) (a : Option Addr) (n c : Nat) (S : Nat → ByteArray) (s : ByteArray) (x : Int), e = .returned (.tuple #[.agg #[.int .i64 b, .int .i64 p, .slice a n c], .string s, .int .i64 x]) ∧ (-9223372036854775808 ≤ b ∧ b ≤ 9223372036854775807) ∧ (0 ≤ p ∧ p ≤ 5) ∧ Strs w' a n S ∧ SFits n S ∧ n ≤ 13 ∧ s.size ≤ 30 ∧ (-1 ≤ x ∧ x ≤ 9223372036854775807) ∧ Below w.heap.size w w'
theorem Strs.only {w w' : World} {a : Option Addr} {n : Nat} {S : Nat → ByteArray} {T : Nat → Prop} (h : Strs w a n S) (ho : Only w w' T) (hn : ∀ b o, a = some ⟨b, o, none⟩ → 0 < n → ¬ T b) : Strs w' a n S := by
  intro i hi
  obtain ⟨b, o, e, h1⟩ := h i hi
  have hl := h.lt e (by omega)
  exact ⟨b, o, e, (World.cell?_of_block (ho.block b hl (hn b o e (by omega)))).trans h1⟩

set_option maxHeartbeats 4000000 in
theorem DrawPlanBin_any (a : Option Addr) (l k : Nat) (z : List Int) (w : World) (h : IsRow .u8 w a l k z) :
    Calls Try.prog 38 #[.slice a l k] w (PlanStrNum w) := by
  have h0 := h.below (below_alloc0 w (.cells #[.int .i64 0, .int .i64 0, .slice none 0 0] 27))
  have h' := Lib.hid h0
  have BY0 := Lib.hid (tri_made w (.int .i64 0) (.int .i64 0) (.slice none 0 0) 27)
  clear h h0
  go_enter Try.func38, Try.ntmps38
  go_wp2_with fail
  refine (open_any _ _ _ _ _ h'.out).mono ?_
  rintro e w1 ⟨r, rfl, rd1, bl1, hr1⟩
  have h1 := Lib.hid (h'.out.below bl1)
  have BY1 := Lib.hid (BY0.out.on bl1)
  have B1 : Hid (Below w.heap.size w w1) := sstep (below_alloc0 w _) bl1
  have hrw : w.heap.size < r := by simp at hr1; omega
  have RD1 := Lib.hid rd1
  have hrl := rd1.lt
  clear BY0 h' rd1 bl1 hr1
  go_wp2_with fail
  refine (DrawPlanRank_any _ _ _ _ _ h1.out).mono ?_
  rintro e w2 ⟨b, p, a2, n, c, S, s, rfl, hb, hp, hst, hsf, hn, hs, hnew, bl2⟩
  have ba := below_alloc0 w2 (.cells #[.int .i64 b, .int .i64 p, .slice a2 n c] 27)
  have X3 := Lib.hid (tri_made w2 (.int .i64 b) (.int .i64 p) (.slice a2 n c) 27)
  have Y3 := Lib.hid ((BY1.out.on bl2).on ba)
  have RD3 := Lib.hid ((RD1.out.below bl2).below ba)
  have S3 := Lib.hid (hst.on ba)
  have B3 := Lib.hid (sstep (sstep B1.out bl2) ba)
  have z2 := bl2.size
  obtain ⟨W3, hW3⟩ : ∃ W3, w2.alloc (.cells #[.int .i64 b, .int .i64 p, .slice a2 n c] 27) = W3 := ⟨_, rfl⟩
  have zW : W3.heap.size = w2.heap.size + 1 := by rw [← hW3]; simp
  rw [hW3] at X3 Y3 RD3 S3 B3
  have HW3 := Lib.hid hW3
  have HN : Hid (∀ b o, a2 = some ⟨b, o, none⟩ → 0 < n → w1.heap.size ≤ b) := hnew
  clear hW3 hst bl2 ba BY1 B1 RD1 h1 hnew
  have hyw : w.heap.size < w2.heap.size := by omega
  have hne1 : w2.heap.size ≠ w.heap.size := by omega
  have hne2 : w.heap.size ≠ w2.heap.size := by omega
  obtain ⟨⟨d0, d1, d2⟩, g0, g1, g2⟩ := X3.out
  obtain ⟨⟨e0, e1, e2⟩, f0, f1, f2⟩ := Y3.out
  go_wp2_with fail
  rw [HW3.out]
  refine (pick_sg _ _ _ r 0 (Sg.start RD3.out) (by omega) (by omega) (by omega)).mono ?_
  rintro e w5 ⟨t, rfl, t0, t1, sg5⟩
  have o5 := sg5.only
  replace Y3 := Lib.hid (Y3.out.only o5 (by omega))
  replace X3 := Lib.hid (X3.out.only o5 (by omega))
  replace S3 := Lib.hid (S3.out.only o5 (fun b' o' e h0 hbad => by have := HN.out b' o' e h0; omega))
  have RD5 := Lib.hid sg5.1
  have z5 := o5.size
  replace B3 := Lib.hid (B3.out.trans (o5.below (B := w.heap.size) (fun k hk hk2 => by omega) (by omega)))
  clear o5 sg5 RD3 d0 d1 d2 g0 g1 g2 e0 e1 e2 f0 f1 f2
  obtain ⟨⟨d0, d1, d2⟩, g0, g1, g2⟩ := X3.out
  obtain ⟨⟨e0, e1, e2⟩, f0, f1, f2⟩ := Y3.out
  have ltx := X3.out.lt
  have lty := Y3.out.lt
  cases ct : (t == 0)
  · by_cases q1 : p < 1
    · have q2 : p < 4 := by omega
      go_wp2
      go_region_held3 (fun w' => w'.cell? ⟨w2.heap.size, 0, none⟩ = some (.int .i64 b) ∧ w'.cell? ⟨w2.heap.size, 1, none⟩ = some (.int .i64 p) ∧ w'.cell? ⟨w2.heap.size, 2, none⟩ = some (.slice a2 n c)) (go_keep) (first | (go_at_call 68; refine (pick_sg _ _ _ r 1 (Sg.start (Rd.below RD5.out (by go_grown))) (by omega) (by omega) (by omega)).mono ?_; rintro e w4 ⟨x, rfl, x0, x1, sg4⟩; have o4 : Only w5 w4 (fun k => k = r) := (by first | exact (Only.new (by go_grown)).trans sg4.only (fun _ _ h => h) | exact sg4.only); have Y4 := Lib.hid (Y3.out.only o4 (by omega)); have S4 := Lib.hid (S3.out.only o4 (fun b' o' e h0 hbad => by have := HN.out b' o' e h0; omega)); have X4 := Lib.hid (X3.out.only o4 (by omega)); have z4 := o4.size; have B4 := Lib.hid (B3.out.trans (o4.below (B := w.heap.size) (fun k hk hk2 => by omega) (by omega))); clear o4 sg4; obtain ⟨⟨dd0, dd1, dd2⟩, gg0, gg1, gg2⟩ := X4.out; obtain ⟨⟨ee0, ee1, ee2⟩, ff0, ff1, ff2⟩ := Y4.out; have lty4 := Y4.out.lt))
      all_goals
        have XB : -1 ≤ x ∧ x ≤ 9223372036854775807 := by omega
        clear d0 d1 d2 g0 g1 g2 e0 e1 e2 f0 f1 f2
        go_wp2
        refine bodyPost_ret (v := .tuple #[.agg #[.int .i64 b, .int .i64 p, .slice a2 n c], .string s, .int .i64 x]) (by simp [results, Try.results38, go_sem, ee0, ee1, ee2]) rfl ?_
        refine ⟨b, p, a2, n, c, S, s, x, rfl, hb, hp, ?_, hsf, hn, hs, XB, ((B4.out.setCell (Nat.le_refl _) _).setCell (Nat.le_refl _) _).setCell (Nat.le_refl _) _⟩
        refine S4.out.only (((Only.set w4 ⟨w.heap.size, 0, none⟩ _ (S := fun k => k = w.heap.size) rfl).trans (Only.set _ ⟨w.heap.size, 1, none⟩ _ (S := fun k => k = w.heap.size) rfl) (fun _ _ h => h)).trans (Only.set _ ⟨w.heap.size, 2, none⟩ _ (S := fun k => k = w.heap.size) rfl) (fun _ _ h => h)) (fun b' o' e h0 hbad => by have := HN.out b' o' e h0; omega)
    by_cases q2 : p < 4
    · have q3 : ¬ p < 1 := q1
      go_wp2
      go_region_held3 (fun w' => w'.cell? ⟨w2.heap.size, 0, none⟩ = some (.int .i64 b) ∧ w'.cell? ⟨w2.heap.size, 1, none⟩ = some (.int .i64 p) ∧ w'.cell? ⟨w2.heap.size, 2, none⟩ = some (.slice a2 n c)) (go_keep) (first | (go_at_call 68; refine (pick_sg _ _ _ r 1 (Sg.start (Rd.below RD5.out (by go_grown))) (by omega) (by omega) (by omega)).mono ?_; rintro e w4 ⟨x, rfl, x0, x1, sg4⟩; have o4 : Only w5 w4 (fun k => k = r) := (by first | exact (Only.new (by go_grown)).trans sg4.only (fun _ _ h => h) | exact sg4.only); have Y4 := Lib.hid (Y3.out.only o4 (by omega)); have S4 := Lib.hid (S3.out.only o4 (fun b' o' e h0 hbad => by have := HN.out b' o' e h0; omega)); have X4 := Lib.hid (X3.out.only o4 (by omega)); have z4 := o4.size; have B4 := Lib.hid (B3.out.trans (o4.below (B := w.heap.size) (fun k hk hk2 => by omega) (by omega))); clear o4 sg4; obtain ⟨⟨dd0, dd1, dd2⟩, gg0, gg1, gg2⟩ := X4.out; obtain ⟨⟨ee0, ee1, ee2⟩, ff0, ff1, ff2⟩ := Y4.out; have lty4 := Y4.out.lt))
      all_goals
        have XB : -1 ≤ x ∧ x ≤ 9223372036854775807 := by omega
        clear d0 d1 d2 g0 g1 g2 e0 e1 e2 f0 f1 f2
        go_wp2
        refine bodyPost_ret (v := .tuple #[.agg #[.int .i64 b, .int .i64 p, .slice a2 n c], .string s, .int .i64 x]) (by simp [results, Try.results38, go_sem, ee0, ee1, ee2]) rfl ?_
        refine ⟨b, p, a2, n, c, S, s, x, rfl, hb, hp, ?_, hsf, hn, hs, XB, ((B4.out.setCell (Nat.le_refl _) _).setCell (Nat.le_refl _) _).setCell (Nat.le_refl _) _⟩
        refine S4.out.only (((Only.set w4 ⟨w.heap.size, 0, none⟩ _ (S := fun k => k = w.heap.size) rfl).trans (Only.set _ ⟨w.heap.size, 1, none⟩ _ (S := fun k => k = w.heap.size) rfl) (fun _ _ h => h)).trans (Only.set _ ⟨w.heap.size, 2, none⟩ _ (S := fun k => k = w.heap.size) rfl) (fun _ _ h => h)) (fun b' o' e h0 hbad => by have := HN.out b' o' e h0; omega)
    · obtain q4 | q5 : p = 4 ∨ 4 < p := by omega
      · subst q4
        go_wp2
        go_region_held3 (fun w' => w'.cell? ⟨w2.heap.size, 0, none⟩ = some (.int .i64 b) ∧ w'.cell? ⟨w2.heap.size, 1, none⟩ = some (.int .i64 4) ∧ w'.cell? ⟨w2.heap.size, 2, none⟩ = some (.slice a2 n c)) (go_keep) (first | (go_at_call 68; refine (pick_sg _ _ _ r 1 (Sg.start (Rd.below RD5.out (by go_grown))) (by omega) (by omega) (by omega)).mono ?_; rintro e w4 ⟨x, rfl, x0, x1, sg4⟩; have o4 : Only w5 w4 (fun k => k = r) := (by first | exact (Only.new (by go_grown)).trans sg4.only (fun _ _ h => h) | exact sg4.only); have Y4 := Lib.hid (Y3.out.only o4 (by omega)); have S4 := Lib.hid (S3.out.only o4 (fun b' o' e h0 hbad => by have := HN.out b' o' e h0; omega)); have X4 := Lib.hid (X3.out.only o4 (by omega)); have z4 := o4.size; have B4 := Lib.hid (B3.out.trans (o4.below (B := w.heap.size) (fun k hk hk2 => by omega) (by omega))); clear o4 sg4; obtain ⟨⟨dd0, dd1, dd2⟩, gg0, gg1, gg2⟩ := X4.out; obtain ⟨⟨ee0, ee1, ee2⟩, ff0, ff1, ff2⟩ := Y4.out; have lty4 := Y4.out.lt))
        all_goals
          have XB : -1 ≤ x ∧ x ≤ 9223372036854775807 := by omega
          clear d0 d1 d2 g0 g1 g2 e0 e1 e2 f0 f1 f2
          go_wp2
          refine bodyPost_ret (v := .tuple #[.agg #[.int .i64 b, .int .i64 4, .slice a2 n c], .string s, .int .i64 x]) (by simp [results, Try.results38, go_sem, ee0, ee1, ee2]) rfl ?_
          refine ⟨b, 4, a2, n, c, S, s, x, rfl, hb, hp, ?_, hsf, hn, hs, XB, ((B4.out.setCell (Nat.le_refl _) _).setCell (Nat.le_refl _) _).setCell (Nat.le_refl _) _⟩
          refine S4.out.only (((Only.set w4 ⟨w.heap.size, 0, none⟩ _ (S := fun k => k = w.heap.size) rfl).trans (Only.set _ ⟨w.heap.size, 1, none⟩ _ (S := fun k => k = w.heap.size) rfl) (fun _ _ h => h)).trans (Only.set _ ⟨w.heap.size, 2, none⟩ _ (S := fun k => k = w.heap.size) rfl) (fun _ _ h => h)) (fun b' o' e h0 hbad => by have := HN.out b' o' e h0; omega)
      · have q3 : ¬ p < 1 := q1
        go_wp2
        go_region_held3 (fun w' => w'.cell? ⟨w2.heap.size, 0, none⟩ = some (.int .i64 b) ∧ w'.cell? ⟨w2.heap.size, 1, none⟩ = some (.int .i64 p) ∧ w'.cell? ⟨w2.heap.size, 2, none⟩ = some (.slice a2 n c)) (go_keep) (first | (go_at_call 68; refine (pick_sg _ _ _ r 1 (Sg.start (Rd.below RD5.out (by go_grown))) (by omega) (by omega) (by omega)).mono ?_; rintro e w4 ⟨x, rfl, x0, x1, sg4⟩; have o4 : Only w5 w4 (fun k => k = r) := (by first | exact (Only.new (by go_grown)).trans sg4.only (fun _ _ h => h) | exact sg4.only); have Y4 := Lib.hid (Y3.out.only o4 (by omega)); have S4 := Lib.hid (S3.out.only o4 (fun b' o' e h0 hbad => by have := HN.out b' o' e h0; omega)); have X4 := Lib.hid (X3.out.only o4 (by omega)); have z4 := o4.size; have B4 := Lib.hid (B3.out.trans (o4.below (B := w.heap.size) (fun k hk hk2 => by omega) (by omega))); clear o4 sg4; obtain ⟨⟨dd0, dd1, dd2⟩, gg0, gg1, gg2⟩ := X4.out; obtain ⟨⟨ee0, ee1, ee2⟩, ff0, ff1, ff2⟩ := Y4.out; have lty4 := Y4.out.lt))
        all_goals
          have XB : -1 ≤ x ∧ x ≤ 9223372036854775807 := by omega
          clear d0 d1 d2 g0 g1 g2 e0 e1 e2 f0 f1 f2
          go_wp2
          refine bodyPost_ret (v := .tuple #[.agg #[.int .i64 b, .int .i64 p, .slice a2 n c], .string s, .int .i64 x]) (by simp [results, Try.results38, go_sem, ee0, ee1, ee2]) rfl ?_
          refine ⟨b, p, a2, n, c, S, s, x, rfl, hb, hp, ?_, hsf, hn, hs, XB, ((B4.out.setCell (Nat.le_refl _) _).setCell (Nat.le_refl _) _).setCell (Nat.le_refl _) _⟩
          refine S4.out.only (((Only.set w4 ⟨w.heap.size, 0, none⟩ _ (S := fun k => k = w.heap.size) rfl).trans (Only.set _ ⟨w.heap.size, 1, none⟩ _ (S := fun k => k = w.heap.size) rfl) (fun _ _ h => h)).trans (Only.set _ ⟨w.heap.size, 2, none⟩ _ (S := fun k => k = w.heap.size) rfl) (fun _ _ h => h)) (fun b' o' e h0 hbad => by have := HN.out b' o' e h0; omega)
  · have hc := cells_int [-1, 4, 9223372036854775807] 3
    have HC := Lib.hid hc
    clear hc
    go_wp2
    go_region_held3 (fun w' => w'.cell? ⟨w2.heap.size, 0, none⟩ = some (.int .i64 b) ∧ w'.cell? ⟨w2.heap.size, 1, none⟩ = some (.int .i64 p) ∧ w'.cell? ⟨w2.heap.size, 2, none⟩ = some (.slice a2 n c)) (go_keep) (first | (go_at_call 72; refine (num_sg _ [-1, 4, 9223372036854775807] _ _ r 1 (Sg.start (Rd.below RD5.out (by go_grown))) (by omega) (by decide) (by decide) (by first | omega | (simp; omega)) (by first | exact HC.out _ | exact HC.out w5.drew | exact HC.out w5)).mono ?_; rintro e w4 ⟨x, rfl, xm, sg4⟩; have o4 : Only w5 w4 (fun k => k = r) := (by first | exact (Only.new (by go_grown)).trans sg4.only (fun _ _ h => h) | exact sg4.only); have Y4 := Lib.hid (Y3.out.only o4 (by omega)); have S4 := Lib.hid (S3.out.only o4 (fun b' o' e h0 hbad => by have := HN.out b' o' e h0; omega)); have X4 := Lib.hid (X3.out.only o4 (by omega)); have z4 := o4.size; have B4 := Lib.hid (B3.out.trans (o4.below (B := w.heap.size) (fun k hk hk2 => by omega) (by omega))); clear o4 sg4; obtain ⟨⟨dd0, dd1, dd2⟩, gg0, gg1, gg2⟩ := X4.out; obtain ⟨⟨ee0, ee1, ee2⟩, ff0, ff1, ff2⟩ := Y4.out; have lty4 := Y4.out.lt))
    all_goals
      have XB := (show ∀ x ∈ [(-1 : Int), 4, 9223372036854775807], -1 ≤ x ∧ x ≤ 9223372036854775807 from by decide) x xm
      clear xm d0 d1 d2 g0 g1 g2 e0 e1 e2 f0 f1 f2
      go_wp2
      refine bodyPost_ret (v := .tuple #[.agg #[.int .i64 b, .int .i64 p, .slice a2 n c], .string s, .int .i64 x]) (by simp [results, Try.results38, go_sem, ee0, ee1, ee2]) rfl ?_
      refine ⟨b, p, a2, n, c, S, s, x, rfl, hb, hp, ?_, hsf, hn, hs, XB, ((B4.out.setCell (Nat.le_refl _) _).setCell (Nat.le_refl _) _).setCell (Nat.le_refl _) _⟩
      refine S4.out.only (((Only.set w4 ⟨w.heap.size, 0, none⟩ _ (S := fun k => k = w.heap.size) rfl).trans (Only.set _ ⟨w.heap.size, 1, none⟩ _ (S := fun k => k = w.heap.size) rfl) (fun _ _ h => h)).trans (Only.set _ ⟨w.heap.size, 2, none⟩ _ (S := fun k => k = w.heap.size) rfl) (fun _ _ h => h)) (fun b' o' e h0 hbad => by have := HN.out b' o' e h0; omega)
end Go.Proofs.Ytajinjfpgoieaaa
