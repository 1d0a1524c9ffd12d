/-
  Whether two lists of rules agree.
-/
import Derived.Test.YtkbebpadbdhnhaaRRow
namespace Go.Proofs.Ytkbebpadbdhnhaa
open Go.RowKit
open Go.PlainAid (bt get_bt bt_nonneg bt_le)
set_option linter.unusedVariables false

set_option maxHeartbeats 1000000 in
theorem soRules_same (w : World) (a a' : Option Addr) (n c c' : Nat) (F T : Nat → ByteArray) (h : Fws w a n F T) (h' : Fws w a' n F T) (hn : n ≤ 1048576) :
    Calls Try.prog 7 #[.slice a n c, .slice a' n c'] w fun e w' => e = .returned (.bool true) ∧ Below w.heap.size w w' := by
  have HL := Lib.hid h
  have HL' := Lib.hid h'
  clear h h'
  go_enter Try.func7, Try.ntmps7
  go_wp2
  go_loopw [5] (fun i wr => ∃ k : Nat, k ≤ n ∧ i = .int .i64 k ∧ Below w.heap.size w wr) (fun i _ => n - (intOf i).toNat)
  case atStart => exact ⟨0, Nat.zero_le _, rfl, Below.refl _ _⟩
  case round =>
    obtain ⟨k, hk, rfl, hb⟩ := hrel
    have hz := hb.size
    by_cases hlt : k < n
    · obtain ⟨b, o, rfl, c0, c1⟩ := (HL.out.on hb) k hlt
      obtain ⟨b', o', rfl, c0', c1'⟩ := (HL'.out.on hb) k hlt
      have hd : ((F k).toList == (F k).toList) = true := by simp
      have hd' : ((T k).toList == (T k).toList) = true := by simp
      go_wp2
      go_region
      all_goals
        go_wp2
        exact ⟨⟨k + 1, by omega, by go_num, by first | exact hb | exact hb.drew⟩, by simp [intOf]; omega⟩
    · obtain rfl : k = n := by omega
      go_wp2
      go_ret
      exact ⟨rfl, hb⟩
theorem soRules_row (w : World) (b1 b2 : Nat) (v v' : Value) (L : List (ByteArray × ByteArray)) (h : RRow w b1 v L) (h' : RRow w b2 v' L) (hn : L.length ≤ 1048576) :
    Calls Try.prog 7 #[v, v'] w fun e w' => e = .returned (.bool true) ∧ Below w.heap.size w w' := by
  obtain ⟨a, c, rfl, _, hl⟩ := h.form
  obtain ⟨a', c', rfl, _, hl'⟩ := h'.form
  exact soRules_same w a a' L.length c c' _ _ hl hl' hn
end Go.Proofs.Ytkbebpadbdhnhaa
