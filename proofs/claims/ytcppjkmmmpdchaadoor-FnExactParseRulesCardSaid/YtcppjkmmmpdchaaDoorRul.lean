/-
  Rules in memory: what XFwd says of orders, said of rules.
-/
import Derived.Test.YtcppjkmmmpdchaaDoorFwd
namespace Go.Proofs.YtcppjkmmmpdchaaDoor
open Go.RowKit
open Go.PlainAid (bt get_bt bt_nonneg bt_le)

/-- A row of cells that holds letters, nobody's but the call's. -/
def ROwn (w : World) (b n : Nat) (I : Nat → ByteArray) (C : Nat → ByteArray) : Prop :=
  ∃ f, w.rowIs b 51 (n * 2) f ∧ ∀ i, i < n → f (i * 2) = .string (I i) ∧ f (i * 2 + 1) = .string (C i)
theorem ROwn.lts {w : World} {b n : Nat} {I : Nat → ByteArray} {C : Nat → ByteArray} (h : ROwn w b n I C) : Fws w (some ⟨b, 0, none⟩) n I C := by
  obtain ⟨f, hr, hf⟩ := h
  intro i hi
  obtain ⟨h1, h2⟩ := hf i hi
  refine ⟨b, 0, rfl, ?_, ?_⟩
  · rw [Nat.zero_add, ← h1]; exact hr.cell (by omega)
  · rw [Nat.zero_add, ← h2]; exact hr.cell (by omega)
theorem make_rules (n : Nat) (hn : n ≤ 1048576) (w : World) :
    (Instr.makeSlice 28 (.int .i64 (n : Int)) (.int .i64 (n : Int))).run Tryd.prog w = .ok (.slice (some ⟨w.heap.size, 0, none⟩) n n) (w.alloc (.cells (madeCells #[.string ⟨#[]⟩, .string ⟨#[]⟩] (n * 2)) 51)) := by
  have hinfo : (Tryd.prog.info? 51).map (fun i => (i.zero, i.size, i.bytes)) = some (some (.agg #[.string ⟨#[]⟩, .string ⟨#[]⟩]), 2, 32) := by kernel_rfl
  obtain ⟨i, hi, hzz⟩ := Option.map_eq_some_iff.1 hinfo
  simp only [Prod.mk.injEq] at hzz
  obtain ⟨hz, hs, hb⟩ := hzz
  have hr := run_make (P := Tryd.prog) w 28 51 i _ Tryd.underlying28 hi hz .i64 .i64 n n (by omega) (Int.le_refl _) (by rw [hb]; omega) (by omega)
  simp only [Int.toNat_natCast, hs] at hr
  exact hr
theorem rfown_made (w : World) (n : Nat) : ∃ f, (w.alloc (.cells (madeCells #[.string ⟨#[]⟩, .string ⟨#[]⟩] (n * 2)) 51)).rowIs w.heap.size 51 (n * 2) f := by
  refine ⟨fun j => (madeCells #[.string ⟨#[]⟩, .string ⟨#[]⟩] (n * 2)).getD j undef, ?_⟩
  have := World.rowIs_alloc w (madeCells #[.string ⟨#[]⟩, .string ⟨#[]⟩] (n * 2)) 51 (fun j => (madeCells #[.string ⟨#[]⟩, .string ⟨#[]⟩] (n * 2)).getD j undef) (fun i hi => by simp [Array.getD, hi])
  rwa [size_madeCells] at this

set_option maxHeartbeats 400000 in
theorem eqRule_same (w : World) (i s : ByteArray) :
    Calls Tryd.prog 31 #[.agg #[.string i, .string s], .agg #[.string i, .string s]] w fun e w' => e = .returned (.bool true) ∧ w' = (w.alloc (.cells #[.string i, .string s] 51)).alloc (.cells #[.string i, .string s] 51) := by
  go_enter Tryd.func31, Tryd.ntmps31
  go_wp2
  go_returns
  exact ⟨rfl, rfl⟩

set_option maxHeartbeats 1000000 in
theorem eqRuleS_same (w : World) (a a' : Option Addr) (n c c' : Nat) (I : Nat → ByteArray) (C : Nat → ByteArray) (h : Fws w a n I C) (h' : Fws w a' n I C) (hn : n ≤ 1048576) :
    Calls Tryd.prog 13 #[.slice a n c, .slice a' n c'] w fun e w' => e = .returned (.bool true) ∧ Below w.heap.size w w' := by
  have HL := Lib.hid h
  have HL' := Lib.hid h'
  clear h h'
  go_enter Tryd.func13, Tryd.ntmps13
  go_wp2
  go_loopw [5] (fun i wr => ∃ k : Nat, k ≤ n ∧ i = .int .i64 k ∧ Below w.heap.size w wr) (fun i _ => n - (intOf i).toNat)
  case atStart => exact ⟨0, Nat.zero_le _, rfl, Below.refl _ _⟩
  case round =>
    obtain ⟨k, hk, rfl, hb⟩ := hrel
    have hz := hb.size
    by_cases hlt : k < n
    · obtain ⟨b, o, rfl, c0, c1⟩ := (HL.out.on hb) k hlt
      obtain ⟨b', o', rfl, c0', c1'⟩ := (HL'.out.on hb) k hlt
      go_wp2
      go_region_with (go_at_call 31; refine (eqRule_same _ _ _).mono ?_; rintro e w1 ⟨rfl, rfl⟩)
      all_goals
        go_wp2
        exact ⟨⟨k + 1, by omega, by go_num, by go_grown⟩, by simp [intOf]; omega⟩
    · obtain rfl : k = n := by omega
      go_wp2
      go_ret
      exact ⟨rfl, hb⟩
end Go.Proofs.YtcppjkmmmpdchaaDoor
