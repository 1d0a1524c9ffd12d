/-
  What the law's own text does with slices of letters in a slice: it compares them, marks them, and reads the marks.
-/
import Derived.Test.YtobmenbhbeflhaaMat
import Derived.Test.YtobmenbhbeflhaaMark
import Derived.Test.YtobmenbhbeflhaaMgF1
import Derived.Deep.RegionHeld3
namespace Go.Proofs.Ytobmenbhbeflhaa
open Go.RowKit

/-- How many letters the first n lists have. -/
def tot (M : Nat → List (Int × ByteArray)) : Nat → Nat
  | 0 => 0
  | n + 1 => tot M n + (M n).length
theorem tot_mono (M : Nat → List (Int × ByteArray)) {i : Nat} : ∀ {n : Nat}, i ≤ n → tot M i ≤ tot M n
  | 0, h => by have : i = 0 := by omega
               subst this; exact Nat.le_refl _
  | n + 1, h => by
    by_cases e : i = n + 1
    · subst e; exact Nat.le_refl _
    · have := tot_mono M (i := i) (n := n) (by omega)
      show tot M i ≤ tot M n + (M n).length
      omega
theorem tot_congr {M M' : Nat → List (Int × ByteArray)} : ∀ {n : Nat}, (∀ i, i < n → M i = M' i) → tot M n = tot M' n
  | 0, _ => rfl
  | n + 1, h => by show tot M n + _ = tot M' n + _; rw [tot_congr fun i hi => h i (by omega), h n (by omega)]
theorem tot_add (F : Nat → List (Int × ByteArray)) (d : Nat) (x : Int × ByteArray) : ∀ n, tot (fun i => if i = d then F d ++ [x] else F i) n ≤ tot F n + 1
  | 0 => Nat.zero_le _
  | n + 1 => by
    by_cases e : n = d
    · subst e
      have h1 : tot (fun i => if i = n then F n ++ [x] else F i) n = tot F n := tot_congr fun i hi => if_neg (by omega)
      show tot _ n + (if n = n then F n ++ [x] else F n).length ≤ tot F n + (F n).length + 1
      rw [h1, if_pos rfl, List.length_append]
      exact Nat.le_refl _
    · have := tot_add F d x n
      show tot _ n + (if n = d then F d ++ [x] else F n).length ≤ tot F n + (F n).length + 1
      rw [if_neg e]
      omega
theorem tot_binTo (key : Nat → Option Nat) (I : Nat → Int) (C : Nat → ByteArray) (N : Nat) : ∀ k, tot (M.binTo key I C k) N ≤ k
  | 0 => by
    have : ∀ N, tot (fun _ => ([] : List (Int × ByteArray))) N = 0 := fun N => by
      induction N with
      | zero => rfl
      | succ N ih => show tot _ N + 0 = 0; rw [ih]
    show tot (fun _ => []) N ≤ 0
    rw [this]
    exact Nat.le_refl 0
  | k + 1 => by
    have ih := tot_binTo key I C N k
    cases h : key k with
    | none => rw [M.binTo_none h]; omega
    | some d =>
      rw [M.binTo_some h]
      have := tot_add (M.binTo key I C k) d (I k, C k) N
      omega
abbrev mkRow (k n : Nat) : List (Int × ByteArray) := M.marks k n
theorem mkRow_length (k n : Nat) : (mkRow k n).length = n := M.marks_length k n
def mmarks (k : Nat) (M : Nat → List (Int × ByteArray)) : Nat → List (Int × ByteArray) := fun i => mkRow (k + 2 * tot M i) (M i).length
theorem mmarks_len (k : Nat) (M : Nat → List (Int × ByteArray)) (i : Nat) : (mmarks k M i).length = (M i).length := mkRow_length _ _
def mmTo (k : Nat) (M : Nat → List (Int × ByteArray)) (j : Nat) : Nat → List (Int × ByteArray) := fun i => if i < j then mmarks k M i else M i
theorem Mat.sub {w w' : World} {base n : Nat} {v : Value} {V : Nat → Value} {M : Nat → List (Int × ByteArray)} (h : Mat w base v n V M) {j : Nat} (hj : j < n) {L : List (Int × ByteArray)} (hr : Row w' base (V j) L) (ho : Only w w' (fun k => (V j).ownBlock = some k)) : Mat w' base v n V (upd M j L) := by
  refine ⟨ownsRow_block h.1 fun g hg => ho.block g (h.lt (Or.inl hg)).2 (h.outer hj hg), fun i hi => ?_, h.2.2⟩
  by_cases e : i = j
  · subst e; rw [upd_same]; exact hr
  · rw [upd_other _ _ e]; exact (h.2.1 i hi).only ho fun b hb hk => h.2.2 i j hi hj e b hb hk

end Go.Proofs.Ytobmenbhbeflhaa
