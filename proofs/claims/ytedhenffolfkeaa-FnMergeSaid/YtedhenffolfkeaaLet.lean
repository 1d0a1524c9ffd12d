/-
  Letters in memory: where their numbers and codes lie. And what the functions of the law's own text return: the size of letters, their copy, whether two of them agree.
-/
import Derived.Test.YtedhenffolfkeaaChecked
import Derived.Test.YtedhenffolfkeaaLetM
import Derived.Test.YtedhenffolfkeaaDig
import Derived.WalkKit
import Derived.Below
import Derived.Lib.Hide
import Derived.Deep.OwnRows
import Derived.Handy
import Derived.Deep.RegionWith
namespace Go.Proofs.Ytedhenffolfkeaa
open Go.RowKit
open Go.PlainAid (bt get_bt bt_nonneg bt_le)

theorem step {w a b : World} (h : Below w.heap.size w a) (k : Below a.heap.size a b) : Below w.heap.size w b := h.trans (k.mono h.size)
/-- A slice of n letters: the numbers I and the codes C. -/
def Lts (w : World) (a : Option Addr) (n : Nat) (I : Nat → Int) (C : Nat → ByteArray) : Prop :=
  ∀ i, i < n → ∃ b o, a = some ⟨b, o, none⟩ ∧ w.cell? ⟨b, o + i * 2, none⟩ = some (.int .i64 (I i)) ∧ w.cell? ⟨b, o + i * 2 + 1, none⟩ = some (.string (C i))
/-- Of fitting sizes. -/
def Fits (n : Nat) (I : Nat → Int) (C : Nat → ByteArray) : Prop := ∀ i, i < n → (-9223372036854775808 ≤ I i ∧ I i ≤ 9223372036854775807) ∧ (C i).size ≤ maxLen
theorem Lts.lt {w : World} {a : Option Addr} {n : Nat} {I : Nat → Int} {C : Nat → ByteArray} (h : Lts w a n I C) {b o : Nat} (ha : a = some ⟨b, o, none⟩) (h0 : 0 < n) : b < w.heap.size := by
  obtain ⟨b', o', e, hc, _⟩ := h 0 h0
  rw [ha] at e
  cases e
  exact World.block_lt_of_cell? _ _ hc
theorem Lts.below {w w' : World} {B : Nat} {a : Option Addr} {n : Nat} {I : Nat → Int} {C : Nat → ByteArray} (h : Lts w a n I C) (hb : Below B w w') (hB : ∀ b o, a = some ⟨b, o, none⟩ → 0 < n → b < B) : Lts w' a n I C := by
  intro i hi
  obtain ⟨b, o, e, h1, h2⟩ := h i hi
  have hl := hB b o e (by omega)
  exact ⟨b, o, e, by rw [hb.cell (p := ⟨b, o + i * 2, none⟩) hl]; exact h1, by rw [hb.cell (p := ⟨b, o + i * 2 + 1, none⟩) hl]; exact h2⟩
theorem Lts.on {w w' : World} {a : Option Addr} {n : Nat} {I : Nat → Int} {C : Nat → ByteArray} (h : Lts w a n I C) (hb : Below w.heap.size w w') : Lts w' a n I C :=
  h.below hb fun _ _ e h0 => h.lt e h0
theorem Lts.congr {w : World} {a : Option Addr} {n : Nat} {I J : Nat → Int} {C D : Nat → ByteArray} (h : Lts w a n I C) (e : ∀ i, i < n → I i = J i ∧ C i = D i) : Lts w a n J D := by
  intro i hi
  obtain ⟨b, o, ha, h1, h2⟩ := h i hi
  obtain ⟨e1, e2⟩ := e i hi
  exact ⟨b, o, ha, by rw [← e1]; exact h1, by rw [← e2]; exact h2⟩

set_option maxHeartbeats 400000 in
theorem szLetter_any (w : World) (i : Int) (s : ByteArray) (left : Int) (l0 : 0 ≤ left) (l1 : left ≤ 1048576) (hs : s.size ≤ 9223372036854775807) :
    Calls Try.prog 53 #[.agg #[.int .i64 i, .string s], .int .i64 left] w fun e w' => e = .returned (.int .i64 (M.rest left s.size)) ∧ Below w.heap.size w w' := by
  by_cases hneg : left - (s.size : Int) < 0
  · have hi := Lib.hid (M.rest_neg hneg)
    go_enter Try.func53, Try.ntmps53
    go_wp2
    go_ret
    exact ⟨ret_int hi.out.symm, by go_grown⟩
  · have hi := Lib.hid (M.rest_pos hneg)
    go_enter Try.func53, Try.ntmps53
    go_wp2
    go_ret
    exact ⟨ret_int hi.out.symm, by go_grown⟩

set_option maxHeartbeats 1000000 in
theorem szLetterS_any (w : World) (a : Option Addr) (n c : Nat) (I : Nat → Int) (C : Nat → ByteArray) (h : Lts w a n I C) (hf : Fits n I C) (hn : n ≤ maxLen) (left : Int) (l0 : 0 ≤ left) (l1 : left ≤ 1048576) :
    Calls Try.prog 28 #[.slice a n c, .int .i64 left] w fun e w' => ∃ r : Int, e = .returned (.int .i64 r) ∧ (0 ≤ r → (n : Int) ≤ left) ∧ r ≤ 1048576 ∧ Below w.heap.size w w' := by
  have HF := Lib.hid hf
  have HL := Lib.hid h
  clear h hf
  have HN := Lib.hid hn
  have hn' : n ≤ 9223372036854775807 := by unfold maxLen at hn; omega
  clear hn
  go_enter Try.func28, Try.ntmps28
  by_cases hneg : left - (n : Int) < 0
  · go_wp2
    go_ret
    exact ⟨_, rfl, by omega, by omega, Below.refl _ _⟩
  go_wp2
  go_loopw [1, 5] (fun l i wr => ∃ (k : Nat) (v : Int), k ≤ n ∧ i = .int .i64 k ∧ l = .int .i64 v ∧ 0 ≤ v ∧ v ≤ 1048576 ∧ Below w.heap.size w wr) (fun _ i _ => n - (intOf i).toNat)
  case atStart => exact ⟨0, _, Nat.zero_le _, rfl, rfl, by omega, by omega, Below.refl _ _⟩
  case round =>
    obtain ⟨k, v, hk, rfl, rfl, v0, v1, hb⟩ := hrel
    have hz := hb.size
    by_cases hlt : k < n
    · obtain ⟨b, o, rfl, c0, c1⟩ := (HL.out.on hb) k hlt
      obtain ⟨i0, i1⟩ := (HF.out k hlt).1
      have s1 := (HF.out k hlt).2
      have s2 : (C k).size ≤ 9223372036854775807 := by unfold maxLen at s1; omega
      clear s1
      by_cases hn2 : v - ((C k).size : Int) < 0
      · have hi := Lib.hid (M.rest_neg hn2)
        go_wp2_with (go_at_call 53; refine (szLetter_any _ _ _ _ v0 v1 s2).mono ?_; rw [hi.out]; rintro e w1 ⟨rfl, hb1⟩)
        go_ret
        exact ⟨_, rfl, by omega, by omega, hb.trans (hb1.mono hz)⟩
      · have hi := Lib.hid (M.rest_pos hn2)
        go_wp2_with (go_at_call 53; refine (szLetter_any _ _ _ _ v0 v1 s2).mono ?_; rw [hi.out]; rintro e w1 ⟨rfl, hb1⟩)
        go_roundw
        case rel => exact ⟨k + 1, _, by omega, by go_num, rfl, by omega, by omega, hb.trans (hb1.mono hz)⟩
        case measure => simp [intOf]; omega
    · obtain rfl : k = n := by omega
      go_wp2
      go_ret
      exact ⟨v, rfl, by omega, by omega, hb⟩

/-- A row of cells that holds letters, nobody's but the call's. -/
def Own (w : World) (b n : Nat) (I : Nat → Int) (C : Nat → ByteArray) : Prop :=
  ∃ f, w.rowIs b 29 (n * 2) f ∧ ∀ i, i < n → f (i * 2) = .int .i64 (I i) ∧ f (i * 2 + 1) = .string (C i)
theorem Own.lts {w : World} {b n : Nat} {I : Nat → Int} {C : Nat → ByteArray} (h : Own w b n I C) : Lts w (some ⟨b, 0, none⟩) n I C := by
  obtain ⟨f, hr, hf⟩ := h
  intro i hi
  obtain ⟨h1, h2⟩ := hf i hi
  refine ⟨b, 0, rfl, ?_, ?_⟩
  · rw [Nat.zero_add, ← h1]; exact hr.cell (by omega)
  · rw [Nat.zero_add, ← h2]; exact hr.cell (by omega)
theorem make_letters (n : Nat) (hn : n ≤ 1048576) (w : World) :
    (Instr.makeSlice 23 (.int .i64 (n : Int)) (.int .i64 (n : Int))).run Try.prog w = .ok (.slice (some ⟨w.heap.size, 0, none⟩) n n) (w.alloc (.cells (madeCells #[.int .i64 0, .string ⟨#[]⟩] (n * 2)) 29)) := by
  have hinfo : (Try.prog.info? 29).map (fun i => (i.zero, i.size, i.bytes)) = some (some (.agg #[.int .i64 0, .string ⟨#[]⟩]), 2, 24) := by kernel_rfl
  obtain ⟨i, hi, hzz⟩ := Option.map_eq_some_iff.1 hinfo
  simp only [Prod.mk.injEq] at hzz
  obtain ⟨hz, hs, hb⟩ := hzz
  have hr := run_make (P := Try.prog) w 23 29 i _ Try.underlying23 hi hz .i64 .i64 n n (by omega) (Int.le_refl _) (by rw [hb]; omega) (by omega)
  simp only [Int.toNat_natCast, hs] at hr
  exact hr
theorem own_made (w : World) (n : Nat) : ∃ f, (w.alloc (.cells (madeCells #[.int .i64 0, .string ⟨#[]⟩] (n * 2)) 29)).rowIs w.heap.size 29 (n * 2) f := by
  refine ⟨fun j => (madeCells #[.int .i64 0, .string ⟨#[]⟩] (n * 2)).getD j undef, ?_⟩
  have := World.rowIs_alloc w (madeCells #[.int .i64 0, .string ⟨#[]⟩] (n * 2)) 29 (fun j => (madeCells #[.int .i64 0, .string ⟨#[]⟩] (n * 2)).getD j undef) (fun i hi => by simp [Array.getD, hi])
  rwa [size_madeCells] at this

set_option maxHeartbeats 400000 in
theorem toLetter_any (w : World) (i : Int) (s : ByteArray) :
    Calls Try.prog 54 #[.agg #[.int .i64 i, .string s]] w fun e w' => e = .returned (.agg #[.int .i64 i, .string s]) ∧ Below w.heap.size w w' := by
  go_enter Try.func54, Try.ntmps54
  go_wp2
  go_returns
  exact ⟨rfl, by go_grown⟩

theorem stored {f : Nat → Value} {k : Nat} {I : Nat → Int} {C : Nat → ByteArray} (h : ∀ j, j < k → f (j * 2) = .int .i64 (I j) ∧ f (j * 2 + 1) = .string (C j)) (j : Nat) (hj : j < k + 1) :
    (fun q => if q = k * 2 + 1 then Value.string (C k) else if q = k * 2 then .int .i64 (I k) else f q) (j * 2) = .int .i64 (I j) ∧
    (fun q => if q = k * 2 + 1 then Value.string (C k) else if q = k * 2 then .int .i64 (I k) else f q) (j * 2 + 1) = .string (C j) := by
  by_cases e : j = k
  · subst e
    constructor
    · show (if j * 2 = j * 2 + 1 then _ else if j * 2 = j * 2 then _ else _) = _
      rw [if_neg (by omega), if_pos rfl]
    · show (if j * 2 + 1 = j * 2 + 1 then _ else _) = _
      rw [if_pos rfl]
  · have := h j (by omega)
    constructor
    · show (if j * 2 = k * 2 + 1 then _ else if j * 2 = k * 2 then _ else _) = _
      rw [if_neg (by omega), if_neg (by omega)]; exact this.1
    · show (if j * 2 + 1 = k * 2 + 1 then _ else if j * 2 + 1 = k * 2 then _ else _) = _
      rw [if_neg (by omega), if_neg (by omega)]; exact this.2

set_option maxHeartbeats 1000000 in
theorem toLetterS_any (w : World) (a : Option Addr) (n c : Nat) (I : Nat → Int) (C : Nat → ByteArray) (h : Lts w a n I C) (hn : n ≤ 1048576) :
    Calls Try.prog 29 #[.slice a n c] w fun e w' => ∃ b, e = .returned (.slice (some ⟨b, 0, none⟩) n n) ∧ w.heap.size ≤ b ∧ Own w' b n I C ∧ Below w.heap.size w w' := by
  have HL := Lib.hid h
  clear h
  have hmk := make_letters n hn
  go_enter Try.func29, Try.ntmps29
  go_wp2
  obtain ⟨f0, hf0⟩ := own_made w n
  have hb0 : Below w.heap.size w (w.alloc (.cells (madeCells #[.int .i64 0, .string ⟨#[]⟩] (n * 2)) 29)) := (Below.refl _ _).alloc (Nat.le_refl _) _
  go_loopw [4] (fun i wr => ∃ (k : Nat) (f : Nat → Value), k ≤ n ∧ i = .int .i64 k ∧ wr.rowIs w.heap.size 29 (n * 2) f ∧ (∀ j, j < k → f (j * 2) = .int .i64 (I j) ∧ f (j * 2 + 1) = .string (C j)) ∧ Below w.heap.size w wr) (fun i _ => n - (intOf i).toNat)
  case atStart => exact ⟨0, f0, Nat.zero_le _, rfl, hf0, fun j hj => absurd hj (by omega), hb0⟩
  case round =>
    obtain ⟨k, f, hk, rfl, hrow, hdone, hb⟩ := hrel
    have hz := hb.size
    have hlt0 := hrow.lt
    by_cases hlt : k < n
    · obtain ⟨b, o, rfl, c0, c1⟩ := (HL.out.on hb) k hlt
      have HR := Lib.hid hrow
      have HD := Lib.hid hdone
      clear hrow hdone
      go_wp2_with (go_at_call 54; refine (toLetter_any _ _ _).mono ?_; rintro e w1 ⟨rfl, hb1⟩; have hr1 := HR.out.of_block (hb1.block _ hlt0); have d0 := hr1.cell (i := k * 2) (by omega); have d1 := hr1.cell (i := k * 2 + 1) (by omega); have g0 := hr1.frozen (k * 2); have g1 := hr1.frozen (k * 2 + 1); replace hr1 := Lib.hid hr1)
      refine ⟨⟨k + 1, _, by omega, by go_num, (hr1.out.set _ _).set _ _, fun j hj => ?_, ((hb.trans (hb1.mono hz)).setCell (Nat.le_refl _) _).setCell (Nat.le_refl _) _⟩, by simp [intOf]; omega⟩
      exact stored HD.out j hj
    · obtain rfl : k = n := by omega
      go_wp2
      go_ret
      exact ⟨_, rfl, Nat.le_refl _, ⟨f, hrow, hdone⟩, hb⟩

set_option maxHeartbeats 400000 in
theorem eqLetter_same (w : World) (i : Int) (s : ByteArray) :
    Calls Try.prog 55 #[.agg #[.int .i64 i, .string s], .agg #[.int .i64 i, .string s]] w fun e w' => e = .returned (.bool true) ∧ w' = (w.alloc (.cells #[.int .i64 i, .string s] 29)).alloc (.cells #[.int .i64 i, .string s] 29) := by
  go_enter Try.func55, Try.ntmps55
  go_wp2
  go_returns
  exact ⟨rfl, rfl⟩

set_option maxHeartbeats 1000000 in
theorem eqLetterS_same (w : World) (a a' : Option Addr) (n c c' : Nat) (I : Nat → Int) (C : Nat → ByteArray) (h : Lts w a n I C) (h' : Lts w a' n I C) (hn : n ≤ 1048576) :
    Calls Try.prog 30 #[.slice a n c, .slice a' n c'] w fun e w' => e = .returned (.bool true) ∧ Below w.heap.size w w' := by
  have HL := Lib.hid h
  have HL' := Lib.hid h'
  clear h h'
  go_enter Try.func30, Try.ntmps30
  go_wp2
  go_loopw [5] (fun i wr => ∃ k : Nat, k ≤ n ∧ i = .int .i64 k ∧ Below w.heap.size w wr) (fun i _ => n - (intOf i).toNat)
  case atStart => exact ⟨0, Nat.zero_le _, rfl, Below.refl _ _⟩
  case round =>
    obtain ⟨k, hk, rfl, hb⟩ := hrel
    have hz := hb.size
    by_cases hlt : k < n
    · obtain ⟨b, o, rfl, c0, c1⟩ := (HL.out.on hb) k hlt
      obtain ⟨b', o', rfl, c0', c1'⟩ := (HL'.out.on hb) k hlt
      go_wp2
      go_region_with (go_at_call 55; refine (eqLetter_same _ _ _).mono ?_; rintro e w1 ⟨rfl, rfl⟩)
      all_goals
        go_wp2
        exact ⟨⟨k + 1, by omega, by go_num, by go_grown⟩, by simp [intOf]; omega⟩
    · obtain rfl : k = n := by omega
      go_wp2
      go_ret
      exact ⟨rfl, hb⟩
end Go.Proofs.Ytedhenffolfkeaa
