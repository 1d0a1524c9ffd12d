/-
  Missorts in memory: where their numbers and bins lie. And what the functions of the law's own text return: how many they are, their copy, whether two lists of them agree.
-/
import Derived.Test.YtmjgblhihpbbdaaDoorLet
namespace Go.Proofs.YtmjgblhihpbbdaaDoor
open Go.RowKit
open Go.PlainAid (bt get_bt bt_nonneg bt_le)

/-- A slice of n missorts: the numbers I and the codes C. -/
def Mss (w : World) (a : Option Addr) (n : Nat) (I : Nat → Int) (C : Nat → Int) : Prop :=
  ∀ i, i < n → ∃ b o, a = some ⟨b, o, none⟩ ∧ w.cell? ⟨b, o + i * 2, none⟩ = some (.int .i64 (I i)) ∧ w.cell? ⟨b, o + i * 2 + 1, none⟩ = some (.int .i64 (C i))
/-- Of fitting sizes. -/
def MFits (n : Nat) (I : Nat → Int) (C : Nat → Int) : Prop := ∀ i, i < n → (-9223372036854775808 ≤ I i ∧ I i ≤ 9223372036854775807) ∧ (-9223372036854775808 ≤ C i ∧ C i ≤ 9223372036854775807)
theorem Mss.lt {w : World} {a : Option Addr} {n : Nat} {I C : Nat → Int} (h : Mss w a n I C) {b o : Nat} (ha : a = some ⟨b, o, none⟩) (h0 : 0 < n) : b < w.heap.size := by
  obtain ⟨b', o', e, hc, _⟩ := h 0 h0
  rw [ha] at e
  cases e
  exact World.block_lt_of_cell? _ _ hc
theorem Mss.below {w w' : World} {B : Nat} {a : Option Addr} {n : Nat} {I C : Nat → Int} (h : Mss w a n I C) (hb : Below B w w') (hB : ∀ b o, a = some ⟨b, o, none⟩ → 0 < n → b < B) : Mss w' a n I C := by
  intro i hi
  obtain ⟨b, o, e, h1, h2⟩ := h i hi
  have hl := hB b o e (by omega)
  exact ⟨b, o, e, by rw [hb.cell (p := ⟨b, o + i * 2, none⟩) hl]; exact h1, by rw [hb.cell (p := ⟨b, o + i * 2 + 1, none⟩) hl]; exact h2⟩
theorem Mss.on {w w' : World} {a : Option Addr} {n : Nat} {I C : Nat → Int} (h : Mss w a n I C) (hb : Below w.heap.size w w') : Mss w' a n I C :=
  h.below hb fun _ _ e h0 => h.lt e h0
theorem Mss.congr {w : World} {a : Option Addr} {n : Nat} {I J : Nat → Int} {C D : Nat → Int} (h : Mss w a n I C) (e : ∀ i, i < n → I i = J i ∧ C i = D i) : Mss w a n J D := by
  intro i hi
  obtain ⟨b, o, ha, h1, h2⟩ := h i hi
  obtain ⟨e1, e2⟩ := e i hi
  exact ⟨b, o, ha, by rw [← e1]; exact h1, by rw [← e2]; exact h2⟩

set_option maxHeartbeats 400000 in
theorem szMissortS_any (w : World) (a : Option Addr) (n c : Nat) (hn : n ≤ maxLen) (left : Int) (l0 : 0 ≤ left) (l1 : left ≤ 1048576) :
    Calls Tryd.prog 24 #[.slice a n c, .int .i64 left] w fun e w' => ∃ r : Int, e = .returned (.int .i64 r) ∧ (0 ≤ r → (n : Int) ≤ left) ∧ r ≤ 1048576 ∧ Below w.heap.size w w' := by
  have hn' : n ≤ 9223372036854775807 := by unfold maxLen at hn; omega
  clear hn
  by_cases hneg : left - (n : Int) < 0
  · go_enter Tryd.func24, Tryd.ntmps24
    go_wp2
    go_ret
    exact ⟨_, rfl, by omega, by omega, Below.refl _ _⟩
  · go_enter Tryd.func24, Tryd.ntmps24
    go_wp2
    go_ret
    exact ⟨_, rfl, by omega, by omega, Below.refl _ _⟩

/-- A row of cells that holds missorts, nobody's but the call's. -/
def MOwn (w : World) (b n : Nat) (I : Nat → Int) (C : Nat → Int) : Prop :=
  ∃ f, w.rowIs b 79 (n * 2) f ∧ ∀ i, i < n → f (i * 2) = .int .i64 (I i) ∧ f (i * 2 + 1) = .int .i64 (C i)
theorem MOwn.mss {w : World} {b n : Nat} {I C : Nat → Int} (h : MOwn w b n I C) : Mss w (some ⟨b, 0, none⟩) n I C := by
  obtain ⟨f, hr, hf⟩ := h
  intro i hi
  obtain ⟨h1, h2⟩ := hf i hi
  refine ⟨b, 0, rfl, ?_, ?_⟩
  · rw [Nat.zero_add, ← h1]; exact hr.cell (by omega)
  · rw [Nat.zero_add, ← h2]; exact hr.cell (by omega)
theorem make_missorts (n : Nat) (hn : n ≤ 1048576) (w : World) :
    (Instr.makeSlice 50 (.int .i64 (n : Int)) (.int .i64 (n : Int))).run Tryd.prog w = .ok (.slice (some ⟨w.heap.size, 0, none⟩) n n) (w.alloc (.cells (madeCells #[.int .i64 0, .int .i64 0] (n * 2)) 79)) := by
  have hinfo : (Tryd.prog.info? 79).map (fun i => (i.zero, i.size, i.bytes)) = some (some (.agg #[.int .i64 0, .int .i64 0]), 2, 16) := by kernel_rfl
  obtain ⟨i, hi, hzz⟩ := Option.map_eq_some_iff.1 hinfo
  simp only [Prod.mk.injEq] at hzz
  obtain ⟨hz, hs, hb⟩ := hzz
  have hr := run_make (P := Tryd.prog) w 50 79 i _ Tryd.underlying50 hi hz .i64 .i64 n n (by omega) (Int.le_refl _) (by rw [hb]; omega) (by omega)
  simp only [Int.toNat_natCast, hs] at hr
  exact hr
theorem mown_made (w : World) (n : Nat) : ∃ f, (w.alloc (.cells (madeCells #[.int .i64 0, .int .i64 0] (n * 2)) 79)).rowIs w.heap.size 79 (n * 2) f := by
  refine ⟨fun j => (madeCells #[.int .i64 0, .int .i64 0] (n * 2)).getD j undef, ?_⟩
  have := World.rowIs_alloc w (madeCells #[.int .i64 0, .int .i64 0] (n * 2)) 79 (fun j => (madeCells #[.int .i64 0, .int .i64 0] (n * 2)).getD j undef) (fun i hi => by simp [Array.getD, hi])
  rwa [size_madeCells] at this

set_option maxHeartbeats 400000 in
theorem toMissort_any (w : World) (i : Int) (s : Int) :
    Calls Tryd.prog 54 #[.agg #[.int .i64 i, .int .i64 s]] w fun e w' => e = .returned (.agg #[.int .i64 i, .int .i64 s]) ∧ Below w.heap.size w w' := by
  go_enter Tryd.func54, Tryd.ntmps54
  go_wp2
  go_returns
  exact ⟨rfl, by go_grown⟩

theorem mstored {f : Nat → Value} {k : Nat} {I C : Nat → Int} (h : ∀ j, j < k → f (j * 2) = .int .i64 (I j) ∧ f (j * 2 + 1) = .int .i64 (C j)) (j : Nat) (hj : j < k + 1) :
    (fun q => if q = k * 2 + 1 then Value.int .i64 (C k) else if q = k * 2 then .int .i64 (I k) else f q) (j * 2) = .int .i64 (I j) ∧
    (fun q => if q = k * 2 + 1 then Value.int .i64 (C k) else if q = k * 2 then .int .i64 (I k) else f q) (j * 2 + 1) = .int .i64 (C j) := by
  by_cases e : j = k
  · subst e
    constructor
    · show (if j * 2 = j * 2 + 1 then _ else if j * 2 = j * 2 then _ else _) = _
      rw [if_neg (by omega), if_pos rfl]
    · show (if j * 2 + 1 = j * 2 + 1 then _ else _) = _
      rw [if_pos rfl]
  · have := h j (by omega)
    constructor
    · show (if j * 2 = k * 2 + 1 then _ else if j * 2 = k * 2 then _ else _) = _
      rw [if_neg (by omega), if_neg (by omega)]; exact this.1
    · show (if j * 2 + 1 = k * 2 + 1 then _ else if j * 2 + 1 = k * 2 then _ else _) = _
      rw [if_neg (by omega), if_neg (by omega)]; exact this.2

set_option maxHeartbeats 1000000 in
theorem toMissortS_any (w : World) (a : Option Addr) (n c : Nat) (I : Nat → Int) (C : Nat → Int) (h : Mss w a n I C) (hn : n ≤ 1048576) :
    Calls Tryd.prog 27 #[.slice a n c] w fun e w' => ∃ b, e = .returned (.slice (some ⟨b, 0, none⟩) n n) ∧ w.heap.size ≤ b ∧ MOwn w' b n I C ∧ Below w.heap.size w w' := by
  have HL := Lib.hid h
  clear h
  have hmk := make_missorts n hn
  go_enter Tryd.func27, Tryd.ntmps27
  go_wp2
  obtain ⟨f0, hf0⟩ := mown_made w n
  have hb0 : Below w.heap.size w (w.alloc (.cells (madeCells #[.int .i64 0, .int .i64 0] (n * 2)) 79)) := (Below.refl _ _).alloc (Nat.le_refl _) _
  go_loopw [4] (fun i wr => ∃ (k : Nat) (f : Nat → Value), k ≤ n ∧ i = .int .i64 k ∧ wr.rowIs w.heap.size 79 (n * 2) f ∧ (∀ j, j < k → f (j * 2) = .int .i64 (I j) ∧ f (j * 2 + 1) = .int .i64 (C j)) ∧ Below w.heap.size w wr) (fun i _ => n - (intOf i).toNat)
  case atStart => exact ⟨0, f0, Nat.zero_le _, rfl, hf0, fun j hj => absurd hj (by omega), hb0⟩
  case round =>
    obtain ⟨k, f, hk, rfl, hrow, hdone, hb⟩ := hrel
    have hz := hb.size
    have hlt0 := hrow.lt
    by_cases hlt : k < n
    · obtain ⟨b, o, rfl, c0, c1⟩ := (HL.out.on hb) k hlt
      have HR := Lib.hid hrow
      have HD := Lib.hid hdone
      clear hrow hdone
      go_wp2_with (go_at_call 54; refine (toMissort_any _ _ _).mono ?_; rintro e w1 ⟨rfl, hb1⟩; have hr1 := HR.out.of_block (hb1.block _ hlt0); have d0 := hr1.cell (i := k * 2) (by omega); have d1 := hr1.cell (i := k * 2 + 1) (by omega); have g0 := hr1.frozen (k * 2); have g1 := hr1.frozen (k * 2 + 1); replace hr1 := Lib.hid hr1)
      refine ⟨⟨k + 1, _, by omega, by go_num, (hr1.out.set _ _).set _ _, fun j hj => ?_, ((hb.trans (hb1.mono hz)).setCell (Nat.le_refl _) _).setCell (Nat.le_refl _) _⟩, by simp [intOf]; omega⟩
      exact mstored HD.out j hj
    · obtain rfl : k = n := by omega
      go_wp2
      go_ret
      exact ⟨_, rfl, Nat.le_refl _, ⟨f, hrow, hdone⟩, hb⟩

set_option maxHeartbeats 400000 in
theorem eqMissort_same (w : World) (i : Int) (s : Int) :
    Calls Tryd.prog 58 #[.agg #[.int .i64 i, .int .i64 s], .agg #[.int .i64 i, .int .i64 s]] w fun e w' => e = .returned (.bool true) ∧ w' = (w.alloc (.cells #[.int .i64 i, .int .i64 s] 79)).alloc (.cells #[.int .i64 i, .int .i64 s] 79) := by
  go_enter Tryd.func58, Tryd.ntmps58
  go_wp2
  go_returns
  exact ⟨rfl, rfl⟩

set_option maxHeartbeats 1000000 in
theorem eqMissortS_same (w : World) (a a' : Option Addr) (n c c' : Nat) (I : Nat → Int) (C : Nat → Int) (h : Mss w a n I C) (h' : Mss w a' n I C) (hn : n ≤ 1048576) :
    Calls Tryd.prog 29 #[.slice a n c, .slice a' n c'] w fun e w' => e = .returned (.bool true) ∧ Below w.heap.size w w' := by
  have HL := Lib.hid h
  have HL' := Lib.hid h'
  clear h h'
  go_enter Tryd.func29, Tryd.ntmps29
  go_wp2
  go_loopw [5] (fun i wr => ∃ k : Nat, k ≤ n ∧ i = .int .i64 k ∧ Below w.heap.size w wr) (fun i _ => n - (intOf i).toNat)
  case atStart => exact ⟨0, Nat.zero_le _, rfl, Below.refl _ _⟩
  case round =>
    obtain ⟨k, hk, rfl, hb⟩ := hrel
    have hz := hb.size
    by_cases hlt : k < n
    · obtain ⟨b, o, rfl, c0, c1⟩ := (HL.out.on hb) k hlt
      obtain ⟨b', o', rfl, c0', c1'⟩ := (HL'.out.on hb) k hlt
      go_wp2
      go_region_with (go_at_call 58; refine (eqMissort_same _ _ _).mono ?_; rintro e w1 ⟨rfl, rfl⟩)
      all_goals
        go_wp2
        exact ⟨⟨k + 1, by omega, by go_num, by go_grown⟩, by simp [intOf]; omega⟩
    · obtain rfl : k = n := by omega
      go_wp2
      go_ret
      exact ⟨rfl, hb⟩
end Go.Proofs.YtmjgblhihpbbdaaDoor
