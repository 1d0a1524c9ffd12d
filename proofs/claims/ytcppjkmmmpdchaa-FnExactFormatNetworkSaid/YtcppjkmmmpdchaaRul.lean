/-
  Rules in memory: what XFwd says of orders, said of rules.
-/
import Derived.Test.YtcppjkmmmpdchaaFwd
namespace Go.Proofs.Ytcppjkmmmpdchaa
open Go.RowKit
open Go.PlainAid (bt get_bt bt_nonneg bt_le)

set_option maxHeartbeats 400000 in
theorem szRule_any (w : World) (i s : ByteArray) (left : Int) (l0 : 0 ≤ left) (l1 : left ≤ 1048576) (hi : i.size ≤ 9223372036854775807) (hs : s.size ≤ 9223372036854775807) :
    Calls Try.prog 28 #[.agg #[.string i, .string s], .int .i64 left] w fun e w' => ∃ r : Int, e = .returned (.int .i64 r) ∧ -1 ≤ r ∧ r ≤ left ∧ Below w.heap.size w w' := by
  by_cases h1 : left - (i.size : Int) < 0
  · go_enter Try.func28, Try.ntmps28
    go_wp2
    go_ret
    exact ⟨_, rfl, by omega, by omega, by go_grown⟩
  · by_cases h2 : left - (i.size : Int) - (s.size : Int) < 0
    · go_enter Try.func28, Try.ntmps28
      go_wp2
      go_ret
      exact ⟨_, rfl, by omega, by omega, by go_grown⟩
    · go_enter Try.func28, Try.ntmps28
      go_wp2
      go_ret
      exact ⟨_, rfl, by omega, by omega, by go_grown⟩

set_option maxHeartbeats 1000000 in
theorem szRuleS_any (w : World) (a : Option Addr) (n c : Nat) (I : Nat → ByteArray) (C : Nat → ByteArray) (h : Fws w a n I C) (hf : FFits n I C) (hn : n ≤ maxLen) (left : Int) (l0 : 0 ≤ left) (l1 : left ≤ 1048576) :
    Calls Try.prog 11 #[.slice a n c, .int .i64 left] w fun e w' => ∃ r : Int, e = .returned (.int .i64 r) ∧ (0 ≤ r → (n : Int) ≤ left) ∧ r ≤ 1048576 ∧ Below w.heap.size w w' := by
  have HF := Lib.hid hf
  have HL := Lib.hid h
  clear h hf
  have HN := Lib.hid hn
  have hn' : n ≤ 9223372036854775807 := by unfold maxLen at hn; omega
  clear hn
  go_enter Try.func11, Try.ntmps11
  by_cases hneg : left - (n : Int) < 0
  · go_wp2
    go_ret
    exact ⟨_, rfl, by omega, by omega, Below.refl _ _⟩
  go_wp2
  go_loopw [1, 5] (fun l i wr => ∃ (k : Nat) (v : Int), k ≤ n ∧ i = .int .i64 k ∧ l = .int .i64 v ∧ 0 ≤ v ∧ v ≤ 1048576 ∧ Below w.heap.size w wr) (fun _ i _ => n - (intOf i).toNat)
  case atStart => exact ⟨0, _, Nat.zero_le _, rfl, rfl, by omega, by omega, Below.refl _ _⟩
  case round =>
    obtain ⟨k, v, hk, rfl, rfl, v0, v1, hb⟩ := hrel
    have hz := hb.size
    by_cases hlt : k < n
    · obtain ⟨b, o, rfl, c0, c1⟩ := (HL.out.on hb) k hlt
      have s0 := (HF.out k hlt).1
      have s1 := (HF.out k hlt).2
      have s2 : (C k).size ≤ 9223372036854775807 := by unfold maxLen at s1; omega
      have s3 : (I k).size ≤ 9223372036854775807 := by unfold maxLen at s0; omega
      clear s0 s1
      go_wp2_with fail
      refine (szRule_any _ _ _ _ v0 v1 s3 s2).mono ?_
      rintro e w1 ⟨r, rfl, r0, r1, hb1⟩
      by_cases hr : r < 0
      · go_wp2
        go_ret
        exact ⟨_, rfl, by omega, by omega, hb.trans (hb1.mono hz)⟩
      · go_wp2
        go_roundw
        case rel => exact ⟨k + 1, _, by omega, by go_num, rfl, by omega, by omega, hb.trans (hb1.mono hz)⟩
        case measure => simp [intOf]; omega
    · obtain rfl : k = n := by omega
      go_wp2
      go_ret
      exact ⟨v, rfl, by omega, by omega, hb⟩

/-- A row of cells that holds letters, nobody's but the call's. -/
def ROwn (w : World) (b n : Nat) (I : Nat → ByteArray) (C : Nat → ByteArray) : Prop :=
  ∃ f, w.rowIs b 57 (n * 2) f ∧ ∀ i, i < n → f (i * 2) = .string (I i) ∧ f (i * 2 + 1) = .string (C i)
theorem ROwn.lts {w : World} {b n : Nat} {I : Nat → ByteArray} {C : Nat → ByteArray} (h : ROwn w b n I C) : Fws w (some ⟨b, 0, none⟩) n I C := by
  obtain ⟨f, hr, hf⟩ := h
  intro i hi
  obtain ⟨h1, h2⟩ := hf i hi
  refine ⟨b, 0, rfl, ?_, ?_⟩
  · rw [Nat.zero_add, ← h1]; exact hr.cell (by omega)
  · rw [Nat.zero_add, ← h2]; exact hr.cell (by omega)
theorem make_rules (n : Nat) (hn : n ≤ 1048576) (w : World) :
    (Instr.makeSlice 32 (.int .i64 (n : Int)) (.int .i64 (n : Int))).run Try.prog w = .ok (.slice (some ⟨w.heap.size, 0, none⟩) n n) (w.alloc (.cells (madeCells #[.string ⟨#[]⟩, .string ⟨#[]⟩] (n * 2)) 57)) := by
  have hinfo : (Try.prog.info? 57).map (fun i => (i.zero, i.size, i.bytes)) = some (some (.agg #[.string ⟨#[]⟩, .string ⟨#[]⟩]), 2, 32) := by kernel_rfl
  obtain ⟨i, hi, hzz⟩ := Option.map_eq_some_iff.1 hinfo
  simp only [Prod.mk.injEq] at hzz
  obtain ⟨hz, hs, hb⟩ := hzz
  have hr := run_make (P := Try.prog) w 32 57 i _ Try.underlying32 hi hz .i64 .i64 n n (by omega) (Int.le_refl _) (by rw [hb]; omega) (by omega)
  simp only [Int.toNat_natCast, hs] at hr
  exact hr
theorem rfown_made (w : World) (n : Nat) : ∃ f, (w.alloc (.cells (madeCells #[.string ⟨#[]⟩, .string ⟨#[]⟩] (n * 2)) 57)).rowIs w.heap.size 57 (n * 2) f := by
  refine ⟨fun j => (madeCells #[.string ⟨#[]⟩, .string ⟨#[]⟩] (n * 2)).getD j undef, ?_⟩
  have := World.rowIs_alloc w (madeCells #[.string ⟨#[]⟩, .string ⟨#[]⟩] (n * 2)) 57 (fun j => (madeCells #[.string ⟨#[]⟩, .string ⟨#[]⟩] (n * 2)).getD j undef) (fun i hi => by simp [Array.getD, hi])
  rwa [size_madeCells] at this

set_option maxHeartbeats 400000 in
theorem toRule_any (w : World) (i s : ByteArray) :
    Calls Try.prog 30 #[.agg #[.string i, .string s]] w fun e w' => e = .returned (.agg #[.string i, .string s]) ∧ Below w.heap.size w w' := by
  go_enter Try.func30, Try.ntmps30
  go_wp2
  go_returns
  exact ⟨rfl, by go_grown⟩

set_option maxHeartbeats 1000000 in
theorem toRuleS_any (w : World) (a : Option Addr) (n c : Nat) (I : Nat → ByteArray) (C : Nat → ByteArray) (h : Fws w a n I C) (hn : n ≤ 1048576) :
    Calls Try.prog 13 #[.slice a n c] w fun e w' => ∃ b, e = .returned (.slice (some ⟨b, 0, none⟩) n n) ∧ w.heap.size ≤ b ∧ ROwn w' b n I C ∧ Below w.heap.size w w' := by
  have HL := Lib.hid h
  clear h
  have hmk := make_rules n hn
  go_enter Try.func13, Try.ntmps13
  go_wp2
  obtain ⟨f0, hf0⟩ := rfown_made w n
  have hb0 : Below w.heap.size w (w.alloc (.cells (madeCells #[.string ⟨#[]⟩, .string ⟨#[]⟩] (n * 2)) 57)) := (Below.refl _ _).alloc (Nat.le_refl _) _
  go_loopw [4] (fun i wr => ∃ (k : Nat) (f : Nat → Value), k ≤ n ∧ i = .int .i64 k ∧ wr.rowIs w.heap.size 57 (n * 2) f ∧ (∀ j, j < k → f (j * 2) = .string (I j) ∧ f (j * 2 + 1) = .string (C j)) ∧ Below w.heap.size w wr) (fun i _ => n - (intOf i).toNat)
  case atStart => exact ⟨0, f0, Nat.zero_le _, rfl, hf0, fun j hj => absurd hj (by omega), hb0⟩
  case round =>
    obtain ⟨k, f, hk, rfl, hrow, hdone, hb⟩ := hrel
    have hz := hb.size
    have hlt0 := hrow.lt
    by_cases hlt : k < n
    · obtain ⟨b, o, rfl, c0, c1⟩ := (HL.out.on hb) k hlt
      have HR := Lib.hid hrow
      have HD := Lib.hid hdone
      clear hrow hdone
      go_wp2_with (go_at_call 30; refine (toRule_any _ _ _).mono ?_; rintro e w1 ⟨rfl, hb1⟩; have hr1 := HR.out.of_block (hb1.block _ hlt0); have d0 := hr1.cell (i := k * 2) (by omega); have d1 := hr1.cell (i := k * 2 + 1) (by omega); have g0 := hr1.frozen (k * 2); have g1 := hr1.frozen (k * 2 + 1); replace hr1 := Lib.hid hr1)
      refine ⟨⟨k + 1, _, by omega, by go_num, (hr1.out.set _ _).set _ _, fun j hj => ?_, ((hb.trans (hb1.mono hz)).setCell (Nat.le_refl _) _).setCell (Nat.le_refl _) _⟩, by simp [intOf]; omega⟩
      exact fstored HD.out j hj
    · obtain rfl : k = n := by omega
      go_wp2
      go_ret
      exact ⟨_, rfl, Nat.le_refl _, ⟨f, hrow, hdone⟩, hb⟩

set_option maxHeartbeats 400000 in
theorem eqRule_same (w : World) (i s : ByteArray) :
    Calls Try.prog 32 #[.agg #[.string i, .string s], .agg #[.string i, .string s]] w fun e w' => e = .returned (.bool true) ∧ w' = (w.alloc (.cells #[.string i, .string s] 57)).alloc (.cells #[.string i, .string s] 57) := by
  go_enter Try.func32, Try.ntmps32
  go_wp2
  go_returns
  exact ⟨rfl, rfl⟩

set_option maxHeartbeats 1000000 in
theorem eqRuleS_same (w : World) (a a' : Option Addr) (n c c' : Nat) (I : Nat → ByteArray) (C : Nat → ByteArray) (h : Fws w a n I C) (h' : Fws w a' n I C) (hn : n ≤ 1048576) :
    Calls Try.prog 15 #[.slice a n c, .slice a' n c'] w fun e w' => e = .returned (.bool true) ∧ Below w.heap.size w w' := by
  have HL := Lib.hid h
  have HL' := Lib.hid h'
  clear h h'
  go_enter Try.func15, Try.ntmps15
  go_wp2
  go_loopw [5] (fun i wr => ∃ k : Nat, k ≤ n ∧ i = .int .i64 k ∧ Below w.heap.size w wr) (fun i _ => n - (intOf i).toNat)
  case atStart => exact ⟨0, Nat.zero_le _, rfl, Below.refl _ _⟩
  case round =>
    obtain ⟨k, hk, rfl, hb⟩ := hrel
    have hz := hb.size
    by_cases hlt : k < n
    · obtain ⟨b, o, rfl, c0, c1⟩ := (HL.out.on hb) k hlt
      obtain ⟨b', o', rfl, c0', c1'⟩ := (HL'.out.on hb) k hlt
      go_wp2
      go_region_with (go_at_call 32; refine (eqRule_same _ _ _).mono ?_; rintro e w1 ⟨rfl, rfl⟩)
      all_goals
        go_wp2
        exact ⟨⟨k + 1, by omega, by go_num, by go_grown⟩, by simp [intOf]; omega⟩
    · obtain rfl : k = n := by omega
      go_wp2
      go_ret
      exact ⟨rfl, hb⟩
end Go.Proofs.Ytcppjkmmmpdchaa
