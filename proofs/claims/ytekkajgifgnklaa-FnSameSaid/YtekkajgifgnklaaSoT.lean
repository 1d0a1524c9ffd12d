/-
  What the law's own text says of strings and of orders: whether two lists agree, whether one has a string.
-/
import Derived.Test.YtekkajgifgnklaaSCat
import Derived.Test.YtekkajgifgnklaaPlan
import Derived.Test.YtekkajgifgnklaaFRow
import Derived.Test.YtekkajgifgnklaaMgA4
namespace Go.Proofs.Ytekkajgifgnklaa
open Go.RowKit
open Go.PlainAid (bt get_bt bt_nonneg bt_le)
set_option linter.unusedVariables false

set_option maxHeartbeats 1000000 in
theorem soTexts_same (w : World) (a a' : Option Addr) (n c c' : Nat) (S : Nat → ByteArray) (h : Strs w a n S) (h' : Strs w a' n S) (hn : n ≤ 1048576) :
    Calls Try.prog 16 #[.slice a n c, .slice a' n c'] w fun e w' => e = .returned (.bool true) ∧ Below w.heap.size w w' := by
  have HL := Lib.hid h
  have HL' := Lib.hid h'
  clear h h'
  go_enter Try.func16, Try.ntmps16
  go_wp2
  go_loopw [5] (fun i wr => ∃ k : Nat, k ≤ n ∧ i = .int .i64 k ∧ Below w.heap.size w wr) (fun i _ => n - (intOf i).toNat)
  case atStart => exact ⟨0, Nat.zero_le _, rfl, Below.refl _ _⟩
  case round =>
    obtain ⟨k, hk, rfl, hb⟩ := hrel
    have hz := hb.size
    by_cases hlt : k < n
    · obtain ⟨b, o, rfl, c0⟩ := (HL.out.on hb) k hlt
      obtain ⟨b', o', rfl, c0'⟩ := (HL'.out.on hb) k hlt
      have hd : ((S k).toList == (S k).toList) = true := by simp
      go_wp2
      go_region
      all_goals
        go_wp2
        exact ⟨⟨k + 1, by omega, by go_num, by first | exact hb | exact hb.drew⟩, by simp [intOf]; omega⟩
    · obtain rfl : k = n := by omega
      go_wp2
      go_ret
      exact ⟨rfl, hb⟩
theorem soTexts_row (w : World) (b1 b2 : Nat) (v v' : Value) (L : List ByteArray) (h : SRow w b1 v L) (h' : SRow w b2 v' L) (hn : L.length ≤ 1048576) :
    Calls Try.prog 16 #[v, v'] w fun e w' => e = .returned (.bool true) ∧ Below w.heap.size w w' := by
  obtain ⟨a, c, rfl, _, hl⟩ := h.form
  obtain ⟨a', c', rfl, _, hl'⟩ := h'.form
  exact soTexts_same w a a' L.length c c' _ hl hl' hn
end Go.Proofs.Ytekkajgifgnklaa
