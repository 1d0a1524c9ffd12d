/-
  Where an address leads: the end of a chain, or a ring.
-/
import Derived.Test.YtekkajgifgnklaaMgA4
import Derived.ScopeJumps
namespace Go.Proofs.Ytekkajgifgnklaa
open Go.RowKit Go.Maps
set_option linter.unusedVariables false

/-- The next address, in memory. -/
theorem Book.next {w : World} {base g n : Nat} {f : ByteArray → Option Nat} {nx : ByteArray → Option ByteArray} (h : Book w base g n f nx) {c d : ByteArray} {b : Nat} (hb : f c = some b) (hn : nx c = some d) : ∃ b', f d = some b' ∧ w.cell? ⟨b, 1, none⟩ = some (.pointer (some ⟨b', 0, none⟩)) := by
  obtain ⟨_, _, c1, _, _⟩ := h.node hb
  obtain ⟨b', hd⟩ := Option.isSome_iff_exists.1 (h.2.2.2 c d hn).2
  rw [hn] at c1
  refine ⟨b', hd, c1.trans ?_⟩
  show some (ptrOf (f d)) = _
  rw [hd]; rfl
theorem Book.last {w : World} {base g n : Nat} {f : ByteArray → Option Nat} {nx : ByteArray → Option ByteArray} (h : Book w base g n f nx) {c : ByteArray} {b : Nat} (hb : f c = some b) (hn : nx c = none) : w.cell? ⟨b, 1, none⟩ = some (.pointer none) := by
  obtain ⟨_, _, c1, _, _⟩ := h.node hb
  rw [hn] at c1
  exact c1
theorem iter_next {nx : ByteArray → Option ByteArray} {i : Nat} {c x y : ByteArray} (h : M.iter nx i c = some x) (hn : nx x = some y) : M.iter nx (i + 1) c = some y := by
  show (M.iter nx i c).bind nx = some y
  rw [h]; exact hn
theorem iter_more {nx : ByteArray → Option ByteArray} {i : Nat} {c x : ByteArray} (h : M.iter nx i c = some x) (hs : (M.iter nx (i + 1) c).isSome = true) : ∃ y, nx x = some y ∧ M.iter nx (i + 1) c = some y := by
  obtain ⟨y, hy⟩ := Option.isSome_iff_exists.1 hs
  have : (M.iter nx i c).bind nx = some y := hy
  rw [h] at this
  exact ⟨y, this, hy⟩

set_option maxHeartbeats 2000000 in
set_option maxRecDepth 100000 in
theorem end_yes (w : World) (base g n : Nat) (f : ByteArray → Option Nat) (nx : ByteArray → Option ByteArray) (h : Book w base g n f nx) (c : ByteArray) (b : Nat) (hb : f c = some b) (t : Nat) (d : ByteArray) (hit : M.iter nx t c = some d) (hd : nx d = none) (ht : t ≤ 5000) :
    Calls Try.prog 45 #[.pointer (some ⟨b, 0, none⟩)] w fun e w' => e = .returned (.tuple #[ptrOf (f d), .int .i64 t]) ∧ w = w' := by
  have HK := Lib.hid h
  have HB := Lib.hid hb
  have HI := Lib.hid hit
  have HD := Lib.hid hd
  clear h hb hit hd
  go_enter Try.func45, Try.ntmps45
  go_wp2
  apply wp_scope_straight
  go_wp2
  go_loop [0, 4, 5] (fun p i q => ∃ (k : Nat) (x y : ByteArray) (bx by_ : Nat), k ≤ t ∧ i = .int .i64 k ∧ p = .pointer (some ⟨bx, 0, none⟩) ∧ q = .pointer (some ⟨by_, 0, none⟩) ∧ Hid (M.iter nx k c = some x) ∧ Hid (M.iter nx (k / 2) c = some y) ∧ Hid (f x = some bx) ∧ Hid (f y = some by_)) (fun _ i _ => t - (intOf i).toNat)
  case atStart => exact ⟨0, c, c, b, b, Nat.zero_le _, rfl, rfl, rfl, rfl, rfl, HB.out, HB.out⟩
  case round =>
    obtain ⟨k, x, y, bx, by_, hk, rfl, rfl, rfl, hx, hy, hfx, hfy⟩ := hrel
    by_cases hlt : k < t
    · obtain ⟨x1, hn1, hx1⟩ := iter_more hx.out (M.iter_le (t := t) (by omega) (by rw [HI.out]; rfl))
      obtain ⟨bx1, hfx1, cx⟩ := HK.out.next hfx.out hn1
      obtain ⟨y1, hny, hy1⟩ := iter_more hy.out (M.iter_le (t := t) (by omega) (by rw [HI.out]; rfl))
      obtain ⟨by1, hfy1, cy⟩ := HK.out.next hfy.out hny
      have hne : bx1 ≠ by_ := fun e => by
        have e2 := HK.out.inj (c := x1) (d := y) (b := by_) (by rw [← e]; exact hfx1) hfy.out
        exact M.iter_apart HI.out HD.out (a := k / 2) (b := k + 1) (by omega) (by omega) (by rw [hx1, hy.out, e2])
      have hcmp := eql_ptr bx1 by_ w (HK.out.node hfx1).2.2.2.2 (HK.out.node hfy.out).2.2.2.2
      rw [decide_eq_false hne] at hcmp
      have X1 := Lib.hid hx1
      have Y1 := Lib.hid hy1
      have FX1 := Lib.hid hfx1
      have FY1 := Lib.hid hfy1
      have lx := World.block_lt_of_cell? _ _ cx
      have ly := World.block_lt_of_cell? _ _ cy
      clear hn1 hx1 hfx1 hny hy1 hfy1
      by_cases hp : (k + 1) % 2 = 0
      · have hpi : ((k : Int) + 1) % 2 = 0 := by omega
        go_wp2
        exact ⟨⟨k + 1, x1, y1, bx1, by1, by omega, by go_num, rfl, rfl, X1, by rw [show (k + 1) / 2 = k / 2 + 1 by omega]; exact Y1, FX1, FY1⟩, by simp [intOf]; omega⟩
      · have hpi : ((k : Int) + 1) % 2 = 1 := by omega
        go_wp2
        exact ⟨⟨k + 1, x1, y, bx1, by_, by omega, by go_num, rfl, rfl, X1, by rw [show (k + 1) / 2 = k / 2 by omega]; exact hy, FX1, hfy⟩, by simp [intOf]; omega⟩
    · obtain rfl : k = t := by omega
      have hxd : x = d := Option.some.inj (hx.out.symm.trans HI.out)
      subst hxd
      have hl := HK.out.last (hfx.out) HD.out
      have hfd : Hid (Value.pointer (some ⟨bx, 0, none⟩) = ptrOf (f x)) := by rw [hfx.out]; rfl
      go_wp2
      go_ret2
      exact ⟨congrArg (fun v => Ending.returned (.tuple #[v, .int .i64 (k : Int)])) hfd.out, rfl⟩

theorem jump_to {l : Nat} {J : Act → World → Prop} {Q : Exit → Act → World → Prop} {a : Act} {w : World} (h : J a w) : Exit.jump l J Q (.goto l) a w := ⟨rfl, h⟩
set_option maxHeartbeats 2000000 in
set_option maxRecDepth 100000 in
theorem end_no (w : World) (base g n : Nat) (f : ByteArray → Option Nat) (nx : ByteArray → Option ByteArray) (h : Book w base g n f nx) (c : ByteArray) (b : Nat) (hb : f c = some b) (m : Nat) (hmeet : M.iter nx (2 * m + 1) c = M.iter nx m c) (hall : ∀ t, (M.iter nx t c).isSome = true) (hm : m ≤ 5000) :
    Calls Try.prog 45 #[.pointer (some ⟨b, 0, none⟩)] w fun e w' => e = .returned (.tuple #[.pointer none, .int .i64 0]) ∧ w = w' := by
  have HK := Lib.hid h
  have HB := Lib.hid hb
  have HM := Lib.hid hmeet
  have HA := Lib.hid hall
  clear h hb hmeet hall
  go_enter Try.func45, Try.ntmps45
  go_wp2
  refine wp_scope_jumps 0 (fun a' w' => w = w' ∧ ∃ u0 u1 u2 u3 u4 u5 u6 u7 u8 u9 u10 u11 u12 u13 u14 u15 u16 u17 u18 u19 u20 u21 u22 u23 u24 u25 u26 u27 u28 u29, a' = { tmps := #[u0, u1, u2, u3, u4, u5, u6, u7, u8, u9, u10, u11, u12, u13, u14, u15, u16, u17, u18, u19, u20, u21, u22, u23, u24, u25, u26, u27, u28, u29], defers := [] }) (fun _ _ => 0) rfl ?_ ?_
  · go_wp2
    go_loop [0, 4, 5] (fun p i q => ∃ (k : Nat) (x y : ByteArray) (bx by_ : Nat), k ≤ 2 * m ∧ i = .int .i64 k ∧ p = .pointer (some ⟨bx, 0, none⟩) ∧ q = .pointer (some ⟨by_, 0, none⟩) ∧ Hid (M.iter nx k c = some x) ∧ Hid (M.iter nx (k / 2) c = some y) ∧ Hid (f x = some bx) ∧ Hid (f y = some by_) ∧ Hid (∀ t, t < k → M.iter nx (t + 1) c ≠ M.iter nx (t / 2) c)) (fun _ i _ => 2 * m + 1 - (intOf i).toNat)
    case atStart => exact ⟨0, c, c, b, b, Nat.zero_le _, rfl, rfl, rfl, rfl, rfl, HB.out, HB.out, fun t ht => absurd ht (by omega)⟩
    case round =>
      obtain ⟨k, x, y, bx, by_, hk, rfl, rfl, rfl, hx, hy, hfx, hfy, hno⟩ := hrel
      obtain ⟨x1, hn1, hx1⟩ := iter_more hx.out (HA.out _)
      obtain ⟨bx1, hfx1, cx⟩ := HK.out.next hfx.out hn1
      obtain ⟨y1, hny, hy1⟩ := iter_more hy.out (HA.out _)
      obtain ⟨by1, hfy1, cy⟩ := HK.out.next hfy.out hny
      have hcmp := eql_ptr bx1 by_ w (HK.out.node hfx1).2.2.2.2 (HK.out.node hfy.out).2.2.2.2
      have lx := World.block_lt_of_cell? _ _ cx
      have ly := World.block_lt_of_cell? _ _ cy
      by_cases he : bx1 = by_
      · rw [decide_eq_true he] at hcmp
        clear he hn1 hx1 hfx1 hny hy1 hfy1
        go_wp2
        refine wp_goto ?_
        exact jump_to (Q := fun _ _ _ => True) (J := (fun a' w' => w = w' ∧ ∃ u0 u1 u2 u3 u4 u5 u6 u7 u8 u9 u10 u11 u12 u13 u14 u15 u16 u17 u18 u19 u20 u21 u22 u23 u24 u25 u26 u27 u28 u29, a' = { tmps := #[u0, u1, u2, u3, u4, u5, u6, u7, u8, u9, u10, u11, u12, u13, u14, u15, u16, u17, u18, u19, u20, u21, u22, u23, u24, u25, u26, u27, u28, u29], defers := [] })) ⟨rfl, _, _, _, _, _, _, _, _, _, _, _, _, _, _, _, _, _, _, _, _, _, _, _, _, _, _, _, _, _, _, rfl⟩
      · have hne : M.iter nx (k + 1) c ≠ M.iter nx (k / 2) c := fun e => he (by
          rw [hx1, hy.out] at e
          have e2 := Option.some.inj e
          subst e2
          have := hfx1.symm.trans hfy.out
          exact Option.some.inj this)
        have hlt : k < 2 * m := by
          by_cases e : k = 2 * m
          · exfalso
            subst e
            rw [show 2 * m / 2 = m by omega] at hne
            exact hne HM.out
          · omega
        rw [decide_eq_false he] at hcmp
        have X1 := Lib.hid hx1
        have Y1 := Lib.hid hy1
        have FX1 := Lib.hid hfx1
        have FY1 := Lib.hid hfy1
        have NE : Hid (∀ t, t < k + 1 → M.iter nx (t + 1) c ≠ M.iter nx (t / 2) c) := fun t ht => by
          by_cases e : t = k
          · subst e; exact hne
          · exact hno.out t (by omega)
        clear he hn1 hx1 hfx1 hny hy1 hfy1 hne
        by_cases hp : (k + 1) % 2 = 0
        · have hpi : ((k : Int) + 1) % 2 = 0 := by omega
          go_wp2
          exact ⟨⟨k + 1, x1, y1, bx1, by1, by omega, by go_num, rfl, rfl, X1, by rw [show (k + 1) / 2 = k / 2 + 1 by omega]; exact Y1, FX1, FY1, NE⟩, by simp [intOf]; omega⟩
        · have hpi : ((k : Int) + 1) % 2 = 1 := by omega
          go_wp2
          exact ⟨⟨k + 1, x1, y, bx1, by_, by omega, by go_num, rfl, rfl, X1, by rw [show (k + 1) / 2 = k / 2 by omega]; exact hy, FX1, hfy, NE⟩, by simp [intOf]; omega⟩
  · rintro a' w' ⟨rfl, u0, u1, u2, u3, u4, u5, u6, u7, u8, u9, u10, u11, u12, u13, u14, u15, u16, u17, u18, u19, u20, u21, u22, u23, u24, u25, u26, u27, u28, u29, rfl⟩
    go_wp2
    simp only [Exit.jump]
    go_ret2
    exact ⟨rfl, rfl⟩
end Go.Proofs.Ytekkajgifgnklaa
