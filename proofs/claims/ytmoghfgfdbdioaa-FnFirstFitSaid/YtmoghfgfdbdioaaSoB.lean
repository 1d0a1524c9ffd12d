/-
  Whether two lists of bins are equal, and two lists of numbers; whether a list has a number.
-/
import Derived.Test.YtmoghfgfdbdioaaSo
import Derived.Test.YtmoghfgfdbdioaaMat
import Derived.Test.YtmoghfgfdbdioaaIntS
import Derived.Test.YtmoghfgfdbdioaaSmpM
import Derived.Deep.RegionHeld3
import Derived.BigQuiet
namespace Go.Proofs.Ytmoghfgfdbdioaa
open Go.RowKit
set_option linter.unusedVariables false

/-- Numbers in a slice of a call's own. -/
theorem IRow.cells {w : World} {base : Nat} {v : Value} {L : List Int} (h : IRow w base v L) : ∃ a c, v = .slice a L.length c ∧ ∀ i (hi : i < L.length), ∃ g, a = some ⟨g, 0, none⟩ ∧ w.cell? ⟨g, i, none⟩ = some (.int .i64 L[i]) := by
  have h2 := h
  rcases h.2 with ⟨rfl, hn⟩ | ⟨g, cap, cur, rfl, _, _, hc, _, _, _⟩
  · exact ⟨none, 0, by rw [hn], fun i hi => absurd hi (by omega)⟩
  · exact ⟨_, _, rfl, fun i hi => ⟨g, rfl, by rw [World.ownsRow.cellAt h2 i (by omega)]; simp [icells, hi]⟩⟩
set_option maxHeartbeats 1000000 in
theorem soInts_same (w : World) (b1 b2 : Nat) (v v' : Value) (L : List Int) (h : IRow w b1 v L) (h' : IRow w b2 v' L) (hn : L.length ≤ 1048576) :
    Calls Try.prog 10 #[v, v'] w fun e w' => e = .returned (.bool true) ∧ Below w.heap.size w w' := by
  obtain ⟨a, c, rfl, hc⟩ := h.cells
  obtain ⟨a', c', rfl, hc'⟩ := h'.cells
  obtain ⟨n, hln⟩ : ∃ n, L.length = n := ⟨_, rfl⟩
  have HN := Lib.hid hln
  have HR := Lib.hid h
  have HR' := Lib.hid h'
  rw [hln] at hn ⊢
  clear h h' hc hc' hln
  go_enter Try.func10, Try.ntmps10
  go_wp2
  go_loopw [5] (fun i wr => ∃ k : Nat, k ≤ n ∧ i = .int .i64 k ∧ Hid (Below w.heap.size w wr)) (fun i _ => n - (intOf i).toNat)
  case atStart => exact ⟨0, Nat.zero_le _, rfl, Below.refl _ _⟩
  case round =>
    obtain ⟨k, hk, rfl, hb⟩ := hrel
    by_cases hlt : k < n
    · have hki : (k : Int) < (n : Int) := by omega
      have hk0 : (0 : Int) ≤ (k : Int) := by omega
      obtain ⟨a1, c1, e1, q1⟩ := (HR.out.on hb.out).cells
      obtain ⟨a2, c2, e2, q2⟩ := (HR'.out.on hb.out).cells
      injection e1 with e11 e12 e13
      injection e2 with e21 e22 e23
      subst e11 e21
      obtain ⟨g, rfl, p1⟩ := q1 k (by rw [HN.out]; exact hlt)
      obtain ⟨g', rfl, p2⟩ := q2 k (by rw [HN.out]; exact hlt)
      generalize L[k]'(by rw [HN.out]; exact hlt) = y at p1 p2
      have hy : (y != y) = false := by simp
      clear q1 q2 e12 e13 e22 e23
      go_wp2
      go_quiet (fail)
      go_wp2
      go_roundw
      case rel => exact ⟨k + 1, by omega, by go_num, below_drewS hb.out _⟩
      case measure => simp [intOf]; omega
    · obtain rfl : k = n := by omega
      go_wp2
      go_ret
      exact ⟨rfl, hb.out⟩
end Go.Proofs.Ytmoghfgfdbdioaa
