/-
  Rules in memory: what XFwd says of orders, said of rules.
-/
import Derived.Test.YtkbebpadbdhnhaaFwd
namespace Go.Proofs.Ytkbebpadbdhnhaa
open Go.RowKit
open Go.PlainAid (bt get_bt bt_nonneg bt_le)

/-- A row of cells that holds letters, nobody's but the call's. -/
def ROwn (w : World) (b n : Nat) (I : Nat → ByteArray) (C : Nat → ByteArray) : Prop :=
  ∃ f, w.rowIs b 44 (n * 2) f ∧ ∀ i, i < n → f (i * 2) = .string (I i) ∧ f (i * 2 + 1) = .string (C i)
theorem ROwn.lts {w : World} {b n : Nat} {I : Nat → ByteArray} {C : Nat → ByteArray} (h : ROwn w b n I C) : Fws w (some ⟨b, 0, none⟩) n I C := by
  obtain ⟨f, hr, hf⟩ := h
  intro i hi
  obtain ⟨h1, h2⟩ := hf i hi
  refine ⟨b, 0, rfl, ?_, ?_⟩
  · rw [Nat.zero_add, ← h1]; exact hr.cell (by omega)
  · rw [Nat.zero_add, ← h2]; exact hr.cell (by omega)
theorem make_rules (n : Nat) (hn : n ≤ 1048576) (w : World) :
    (Instr.makeSlice 23 (.int .i64 (n : Int)) (.int .i64 (n : Int))).run Try.prog w = .ok (.slice (some ⟨w.heap.size, 0, none⟩) n n) (w.alloc (.cells (madeCells #[.string ⟨#[]⟩, .string ⟨#[]⟩] (n * 2)) 44)) := by
  have hinfo : (Try.prog.info? 44).map (fun i => (i.zero, i.size, i.bytes)) = some (some (.agg #[.string ⟨#[]⟩, .string ⟨#[]⟩]), 2, 32) := by kernel_rfl
  obtain ⟨i, hi, hzz⟩ := Option.map_eq_some_iff.1 hinfo
  simp only [Prod.mk.injEq] at hzz
  obtain ⟨hz, hs, hb⟩ := hzz
  have hr := run_make (P := Try.prog) w 23 44 i _ Try.underlying23 hi hz .i64 .i64 n n (by omega) (Int.le_refl _) (by rw [hb]; omega) (by omega)
  simp only [Int.toNat_natCast, hs] at hr
  exact hr
theorem rfown_made (w : World) (n : Nat) : ∃ f, (w.alloc (.cells (madeCells #[.string ⟨#[]⟩, .string ⟨#[]⟩] (n * 2)) 44)).rowIs w.heap.size 44 (n * 2) f := by
  refine ⟨fun j => (madeCells #[.string ⟨#[]⟩, .string ⟨#[]⟩] (n * 2)).getD j undef, ?_⟩
  have := World.rowIs_alloc w (madeCells #[.string ⟨#[]⟩, .string ⟨#[]⟩] (n * 2)) 44 (fun j => (madeCells #[.string ⟨#[]⟩, .string ⟨#[]⟩] (n * 2)).getD j undef) (fun i hi => by simp [Array.getD, hi])
  rwa [size_madeCells] at this

end Go.Proofs.Ytkbebpadbdhnhaa
