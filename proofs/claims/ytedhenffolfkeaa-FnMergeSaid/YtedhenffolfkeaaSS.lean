/-
  Slices of slices of letters that came in: where they lie, their size, their copy.
-/
import Derived.Test.YtedhenffolfkeaaMatL
import Derived.Test.YtedhenffolfkeaaConcat
import Derived.Test.YtedhenffolfkeaaPermM
namespace Go.Proofs.Ytedhenffolfkeaa
open Go.RowKit
set_option linter.unusedVariables false

/-- n slices of letters, in a slice of slices. -/
def Lss (w : World) (a : Option Addr) (n : Nat) (MM : Nat → List (Int × ByteArray)) : Prop :=
  ∀ i, i < n → ∃ b o a' c, a = some ⟨b, o, none⟩ ∧ w.cell? ⟨b, o + i, none⟩ = some (.slice a' (MM i).length c) ∧ Lts w a' (MM i).length (nI (MM i)) (nC (MM i)) ∧ Fits (MM i).length (nI (MM i)) (nC (MM i)) ∧ (MM i).length ≤ maxLen
theorem Lss.on {w w' : World} {a : Option Addr} {n : Nat} {MM : Nat → List (Int × ByteArray)} (h : Lss w a n MM) (hb : Below w.heap.size w w') : Lss w' a n MM := by
  intro i hi
  obtain ⟨b, o, a', c, e, h1, h2, h3, h4⟩ := h i hi
  have hl := World.block_lt_of_cell? _ _ h1
  exact ⟨b, o, a', c, e, (hb.cell (p := ⟨b, o + i, none⟩) hl).trans h1, h2.on hb, h3, h4⟩
theorem tot_flat (MM : Nat → List (Int × ByteArray)) : ∀ n, (M.flat MM n).length = tot MM n
  | 0 => rfl
  | n + 1 => by show (M.flat MM n ++ MM n).length = tot MM n + _; rw [List.length_append, tot_flat MM n]

set_option maxHeartbeats 1000000 in
theorem szLetterS_less (w : World) (a : Option Addr) (n c : Nat) (I : Nat → Int) (C : Nat → ByteArray) (h : Lts w a n I C) (hf : Fits n I C) (hn : n ≤ maxLen) (left : Int) (l0 : 0 ≤ left) (l1 : left ≤ 1048576) :
    Calls Try.prog 28 #[.slice a n c, .int .i64 left] w fun e w' => ∃ r : Int, e = .returned (.int .i64 r) ∧ (0 ≤ r → r + (n : Int) ≤ left) ∧ r ≤ 1048576 ∧ Below w.heap.size w w' := by
  have HF := Lib.hid hf
  have HL := Lib.hid h
  clear h hf
  have HN := Lib.hid hn
  have hn' : n ≤ 9223372036854775807 := by unfold maxLen at hn; omega
  clear hn
  go_enter Try.func28, Try.ntmps28
  by_cases hneg : left - (n : Int) < 0
  · go_wp2
    go_ret
    exact ⟨_, rfl, by omega, by omega, Below.refl _ _⟩
  go_wp2
  go_loopw [1, 5] (fun l i wr => ∃ (k : Nat) (v : Int), k ≤ n ∧ i = .int .i64 k ∧ l = .int .i64 v ∧ 0 ≤ v ∧ v + (n : Int) ≤ left ∧ Below w.heap.size w wr) (fun _ i _ => n - (intOf i).toNat)
  case atStart => exact ⟨0, _, Nat.zero_le _, rfl, rfl, by omega, by omega, Below.refl _ _⟩
  case round =>
    obtain ⟨k, v, hk, rfl, rfl, v0, v1, hb⟩ := hrel
    have hz := hb.size
    have v2 : v ≤ 1048576 := by omega
    by_cases hlt : k < n
    · obtain ⟨b, o, rfl, c0, c1⟩ := (HL.out.on hb) k hlt
      obtain ⟨i0, i1⟩ := (HF.out k hlt).1
      have s1 := (HF.out k hlt).2
      have s2 : (C k).size ≤ 9223372036854775807 := by unfold maxLen at s1; omega
      clear s1
      by_cases hn2 : v - ((C k).size : Int) < 0
      · have hi := Lib.hid (M.rest_neg hn2)
        go_wp2_with (go_at_call 53; refine (szLetter_any _ _ _ _ v0 v2 s2).mono ?_; rw [hi.out]; rintro e w1 ⟨rfl, hb1⟩)
        go_ret
        exact ⟨_, rfl, by omega, by omega, hb.trans (hb1.mono hz)⟩
      · have hi := Lib.hid (M.rest_pos hn2)
        go_wp2_with (go_at_call 53; refine (szLetter_any _ _ _ _ v0 v2 s2).mono ?_; rw [hi.out]; rintro e w1 ⟨rfl, hb1⟩)
        go_roundw
        case rel => exact ⟨k + 1, _, by omega, by go_num, rfl, by omega, by omega, hb.trans (hb1.mono hz)⟩
        case measure => simp [intOf]; omega
    · obtain rfl : k = n := by omega
      go_wp2
      go_ret
      exact ⟨v, rfl, by omega, by omega, hb⟩

theorem upd_if {M : Nat → List (Int × ByteArray)} {k : Nat} : ∀ i, upd (fun i => if i < k then M i else []) k (M k) i = if i < k + 1 then M i else [] := by
  intro i
  show (if i = k then M k else if i < k then M i else []) = _
  by_cases e : i = k
  · subst e; rw [if_pos rfl, if_pos (by omega)]
  · rw [if_neg e]
    by_cases e2 : i < k
    · rw [if_pos e2, if_pos (by omega)]
    · rw [if_neg e2, if_neg (by omega)]

end Go.Proofs.Ytedhenffolfkeaa
