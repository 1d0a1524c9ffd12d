/-
  How many pairs stand in the wrong order, in the right bit, and which are equal: on paper.
-/
import Derived.Test.YtobmenbhbeflhaaSortM
namespace Go.Proofs.Ytobmenbhbeflhaa.M

/-- How many of the first k. -/
def tally (f : Nat → Bool) : Nat → Nat
  | 0 => 0
  | k + 1 => if f k = true then tally f k + 1 else tally f k
def bit (b : Bool) : Nat := if b = true then 1 else 0
theorem tally_succ (f : Nat → Bool) (k : Nat) : tally f (k + 1) = tally f k + bit (f k) := by
  show (if f k = true then tally f k + 1 else tally f k) = _
  unfold bit
  split <;> rfl
theorem tally_congr {f g : Nat → Bool} : ∀ k, (∀ j, j < k → f j = g j) → tally f k = tally g k
  | 0, _ => rfl
  | k + 1, h => by rw [tally_succ, tally_succ, tally_congr k fun j hj => h j (by omega), h k (by omega)]
theorem tally_shift (f : Nat → Bool) : ∀ k, tally f (k + 1) = bit (f 0) + tally (fun i => f (i + 1)) k
  | 0 => by rw [tally_succ]; show 0 + _ = _ + 0; omega
  | k + 1 => by rw [tally_succ, tally_shift f k, tally_succ]; omega
theorem tally_rev (f : Nat → Bool) : ∀ n, tally (fun i => f (n - 1 - i)) n = tally f n
  | 0 => rfl
  | n + 1 => by
    rw [tally_shift, tally_succ]
    have h := tally_rev f n
    rw [tally_congr (f := fun i => f (n + 1 - 1 - (i + 1))) (g := fun i => f (n - 1 - i)) n fun j hj => by
      show f (n + 1 - 1 - (j + 1)) = f (n - 1 - j)
      congr 1
      omega, h]
    show bit (f (n + 1 - 1 - 0)) + _ = _
    rw [show n + 1 - 1 - 0 = n by omega]
    omega
theorem invAt_tally (C : Nat → ByteArray) (i : Nat) : ∀ k, invAt C i k = tally (fun j => less (C i) (C j)) k
  | 0 => rfl
  | k + 1 => by
    rw [tally_succ, ← invAt_tally C i k]
    cases h : less (C i) (C k)
    · rw [invAt_no h]; rfl
    · rw [invAt_yes h]; rfl
/-- Pairs of which the first comes before the second, and equal ones. -/
def ups (C : Nat → ByteArray) : Nat → Nat
  | 0 => 0
  | i + 1 => ups C i + tally (fun j => less (C j) (C i)) i
def eqs (C : Nat → ByteArray) : Nat → Nat
  | 0 => 0
  | i + 1 => eqs C i + tally (fun j => decide (C j = C i)) i
theorem less_three (x y : ByteArray) : bit (less x y) + bit (less y x) + bit (decide (y = x)) = 1 := by
  have h := bytesLess_other x.toList y.toList
  have e : (x.toList == y.toList) = decide (y = x) := by
    by_cases hxy : y = x
    · subst hxy; simp
    · rw [decide_eq_false hxy, beq_eq_false_iff_ne]
      intro e
      rw [ByteArray.toList_eq, ByteArray.toList_eq] at e
      exact hxy (ByteArray.ext (Array.toList_inj.1 e)).symm
  rw [e] at h
  show bit (Op.bytesLess x.toList y.toList) + bit (Op.bytesLess y.toList x.toList) + _ = 1
  rw [h]
  by_cases hxy : y = x
  · have hx : Op.bytesLess x.toList y.toList = false := by
      cases hb : Op.bytesLess x.toList y.toList
      · rfl
      · subst hxy
        rw [hb] at h
        simp at h
    rw [hx, decide_eq_true hxy]
    decide
  · rw [decide_eq_false hxy]
    cases Op.bytesLess x.toList y.toList <;> decide
theorem tally_three (C : Nat → ByteArray) (i : Nat) : ∀ k, tally (fun j => less (C i) (C j)) k + tally (fun j => less (C j) (C i)) k + tally (fun j => decide (C j = C i)) k = k
  | 0 => rfl
  | k + 1 => by
    rw [tally_succ, tally_succ, tally_succ]
    have h1 := tally_three C i k
    have h2 := less_three (C i) (C k)
    omega
theorem all_pairs (C : Nat → ByteArray) : ∀ n, 2 * (inv C n + ups C n + eqs C n) + n = n * n
  | 0 => rfl
  | n + 1 => by
    have h1 := all_pairs C n
    have h2 := tally_three C n n
    rw [inv_succ, invAt_tally]
    show 2 * (inv C n + tally (fun j => less (C n) (C j)) n + (ups C n + tally (fun j => less (C j) (C n)) n) + (eqs C n + tally (fun j => decide (C j = C n)) n)) + (n + 1) = _
    have e : (n + 1) * (n + 1) = n * n + 2 * n + 1 := by
      rw [Nat.add_mul, Nat.mul_add]
      omega
    rw [e]
    omega
theorem inv_shift (C : Nat → ByteArray) : ∀ n, inv C (n + 1) = inv (fun k => C (k + 1)) n + tally (fun i => less (C (i + 1)) (C 0)) n
  | 0 => rfl
  | n + 1 => by
    rw [inv_succ, inv_shift C n, inv_succ, tally_succ, invAt_tally, invAt_tally, tally_shift]
    omega
/-- Turned round, the pairs in the right order stand in the wrong bit. -/
theorem inv_rev (C : Nat → ByteArray) : ∀ n, inv (fun k => C (n - 1 - k)) n = ups C n
  | 0 => rfl
  | n + 1 => by
    rw [inv_shift]
    have e1 : (fun k => C (n + 1 - 1 - (k + 1))) = fun k => C (n - 1 - k) := by
      funext k
      congr 1
      omega
    have e2 : (fun i => less (C (n + 1 - 1 - (i + 1))) (C (n + 1 - 1 - 0))) = fun i => less (C (n - 1 - i)) (C n) := by
      funext i
      rw [show n + 1 - 1 - (i + 1) = n - 1 - i by omega, show n + 1 - 1 - 0 = n by omega]
    rw [e1, e2, inv_rev C n, tally_rev (fun i => less (C i) (C n)) n]
    rfl
theorem inv_congr {C D : Nat → ByteArray} : ∀ n, (∀ i, i < n → C i = D i) → inv C n = inv D n
  | 0, _ => rfl
  | n + 1, h => by
    rw [inv_succ, inv_succ, inv_congr n fun i hi => h i (by omega), invAt_tally, invAt_tally, h n (by omega)]
    rw [tally_congr n fun j hj => by rw [h j (by omega)]]
end Go.Proofs.Ytobmenbhbeflhaa.M
