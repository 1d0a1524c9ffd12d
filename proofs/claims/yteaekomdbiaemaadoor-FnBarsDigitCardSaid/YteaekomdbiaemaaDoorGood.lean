/-
  Five bytes are the bars of a digit exactly if two of them are long bars and three are short ones.
-/
import Derived.Test.YteaekomdbiaemaaDoorMath
import Derived.Test.YteaekomdbiaemaaDoorTurn
namespace Go.Proofs.YteaekomdbiaemaaDoor
open Go.PlainAid (bt get_bt)

theorem cnt_both (s : ByteArray) : ∀ k : Nat, M.cnt 124 s k + M.cnt 46 s k ≤ k
  | 0 => by simp [M.cnt]
  | k + 1 => by
    have := cnt_both s k
    by_cases h1 : bt s k = 124
    · rw [M.cnt_yes h1, M.cnt_no (show ¬ bt s k = 46 by omega)]
      omega
    · by_cases h2 : bt s k = 46
      · rw [M.cnt_no h1, M.cnt_yes h2]
        omega
      · rw [M.cnt_no h1, M.cnt_no h2]
        omega

theorem cnt_all {s : ByteArray} : ∀ k : Nat, M.cnt 124 s k + M.cnt 46 s k = k → ∀ i, i < k → bt s i = 124 ∨ bt s i = 46
  | 0, _ => fun i hi => absurd hi (by omega)
  | k + 1, h => by
    have b1 := cnt_both s k
    intro i hi
    by_cases h1 : bt s k = 124
    · rw [M.cnt_yes h1, M.cnt_no (show ¬ bt s k = 46 by omega)] at h
      by_cases e : i = k
      · subst e; exact Or.inl h1
      · exact cnt_all k (by omega) i (by omega)
    · by_cases h2 : bt s k = 46
      · rw [M.cnt_no h1, M.cnt_yes h2] at h
        by_cases e : i = k
        · subst e; exact Or.inr h2
        · exact cnt_all k (by omega) i (by omega)
      · rw [M.cnt_no h1, M.cnt_no h2] at h
        omega
theorem byte124 {c : UInt8} (h : (c.toNat : Int) = 124) : c = 124 := by
  apply UInt8.toNat_inj.1
  have : (124 : UInt8).toNat = 124 := rfl
  omega
theorem byte46 {c : UInt8} (h : (c.toNat : Int) = 46) : c = 46 := by
  apply UInt8.toNat_inj.1
  have : (46 : UInt8).toNat = 46 := rfl
  omega

theorem good_bars {b : ByteArray} (h5 : b.size = 5) (h2 : M.cnt 124 b 5 = 2) (h3 : M.cnt 46 b 5 = 3) : b.data.toList ∈ M.barTable := by
  have ha := cnt_all 5 (by omega : M.cnt 124 b 5 + M.cnt 46 b 5 = ((5 : Nat) : Int))
  obtain ⟨l⟩ := b
  obtain ⟨l⟩ := l
  match l, h5, h2, h3, ha with
  | [c0, c1, c2, c3, c4], _, h2, h3, ha =>
    have a0 : (c0.toNat : Int) = 124 ∨ (c0.toNat : Int) = 46 := ha 0 (by omega)
    have a1 : (c1.toNat : Int) = 124 ∨ (c1.toNat : Int) = 46 := ha 1 (by omega)
    have a2 : (c2.toNat : Int) = 124 ∨ (c2.toNat : Int) = 46 := ha 2 (by omega)
    have a3 : (c3.toNat : Int) = 124 ∨ (c3.toNat : Int) = 46 := ha 3 (by omega)
    have a4 : (c4.toNat : Int) = 124 ∨ (c4.toNat : Int) = 46 := ha 4 (by omega)
    clear ha
    rcases a0 with a0 | a0 <;> rcases a1 with a1 | a1 <;> rcases a2 with a2 | a2 <;> rcases a3 with a3 | a3 <;> rcases a4 with a4 | a4
    all_goals
      first | (obtain rfl := byte124 a0) | (obtain rfl := byte46 a0)
      first | (obtain rfl := byte124 a1) | (obtain rfl := byte46 a1)
      first | (obtain rfl := byte124 a2) | (obtain rfl := byte46 a2)
      first | (obtain rfl := byte124 a3) | (obtain rfl := byte46 a3)
      first | (obtain rfl := byte124 a4) | (obtain rfl := byte46 a4)
      first
        | decide
        | (exfalso; revert h2; decide)

theorem bars_good {d : Int} (h0 : 0 ≤ d) (h9 : d ≤ 9) : M.cnt 46 (M.bar d) 5 = 3 ∧ 0 ≤ M.barDigit (turn (M.bar d)) := by
  rcases M.digit_cases h0 h9 with rfl | rfl | rfl | rfl | rfl | rfl | rfl | rfl | rfl | rfl <;> decide
end Go.Proofs.YteaekomdbiaemaaDoor
