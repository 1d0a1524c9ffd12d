/-
  The longest chain: program and model.
-/
import Derived.Test.YtekkajgifgnklaaNext
namespace Go.Proofs.Ytekkajgifgnklaa
open Go.RowKit Go.Maps
open Go.PlainAid (bt get_bt bt_nonneg bt_le)
set_option linter.unusedVariables false

def M.endS : Option (ByteArray × Nat) → ByteArray
  | none => ⟨#[]⟩
  | some p => p.1
def M.cntOf : Option (ByteArray × Nat) → Nat
  | none => 0
  | some p => p.2
theorem resV_eq : ∀ r : Option (ByteArray × Nat), resV r = .tuple #[.string (M.endS r), .int .i64 (M.cntOf r), .bool r.isSome]
  | none => rfl
  | some (_, _) => rfl
/-- Answers of two and of three values. -/
def Form2 (v : Value) : Prop := ∃ s y, v = .tuple #[.string s, .bool y]
def Form3 (v : Value) : Prop := ∃ (s : ByteArray) (t : Nat) (y : Bool), v = .tuple #[.string s, .int .i64 t, .bool y]
theorem nx_form : ∀ r, Form2 (nxV r)
  | none => ⟨_, _, rfl⟩
  | some _ => ⟨_, _, rfl⟩
theorem res_form : ∀ r, Form3 (resV r)
  | none => ⟨_, 0, _, rfl⟩
  | some (_, _) => ⟨_, _, _, rfl⟩
def M.longTo (F T : Nat → ByteArray) (n : Nat) : Nat → Nat
  | 0 => 0
  | k + 1 => if M.longTo F T n k < M.cntOf (M.res F T n (F k)) then M.cntOf (M.res F T n (F k)) else M.longTo F T n k
def M.longest (F T : Nat → ByteArray) (n : Nat) : Int := if M.fwd n F T then (M.longTo F T n n : Int) else -1
theorem M.longest_no {F T : Nat → ByteArray} {n : Nat} (h : M.fwd n F T = false) : M.longest F T n = -1 := by unfold M.longest; rw [h]; rfl
theorem M.longest_yes {F T : Nat → ByteArray} {n : Nat} (h : M.fwd n F T = true) : M.longest F T n = (M.longTo F T n n : Int) := by unfold M.longest; rw [h]; rfl
theorem M.cnt_le (F T : Nat → ByteArray) (n : Nat) (c : ByteArray) : M.cntOf (M.res F T n c) ≤ n := by
  cases h : M.res F T n c with
  | none => exact Nat.zero_le _
  | some p => exact (M.res_some h).1
theorem M.long_le (F T : Nat → ByteArray) (n : Nat) : ∀ k, M.longTo F T n k ≤ n
  | 0 => Nat.zero_le _
  | k + 1 => by
    unfold M.longTo
    split
    · exact M.cnt_le F T n _
    · exact M.long_le F T n k
theorem M.long_up {F T : Nat → ByteArray} {n k x c : Nat} (h : M.longTo F T n k = x) (hc : M.cntOf (M.res F T n (F k)) = c) (hlt : x < c) : M.longTo F T n (k + 1) = c := by
  subst h hc
  exact if_pos hlt
theorem M.long_on {F T : Nat → ByteArray} {n k x c : Nat} (h : M.longTo F T n k = x) (hc : M.cntOf (M.res F T n (F k)) = c) (hlt : ¬ x < c) : M.longTo F T n (k + 1) = x := by
  subst h hc
  exact if_neg hlt

end Go.Proofs.Ytekkajgifgnklaa
