/-
  Orders in slices that the call itself has made: what they hold, append, and the marks that a law writes into them and reads again.
-/
import Derived.Test.YtkbebpadbdhnhaaMark
import Derived.Test.YtkbebpadbdhnhaaMat
import Derived.Test.YtkbebpadbdhnhaaFwd
namespace Go.Proofs.Ytkbebpadbdhnhaa
open Go.RowKit
open Go.PlainAid (bt get_bt bt_nonneg bt_le)

namespace M
/-- The first k orders. -/
def flst (I C : Nat → ByteArray) (k : Nat) : List (ByteArray × ByteArray) := (List.range k).map fun i => (I i, C i)
theorem flst_succ (I C : Nat → ByteArray) (k : Nat) : flst I C (k + 1) = flst I C k ++ [(I k, C k)] := by
  unfold flst
  rw [List.range_succ, List.map_append]
  rfl
theorem flst_length (I C : Nat → ByteArray) (k : Nat) : (flst I C k).length = k := by simp [flst]
end M
/-- Letters as cells. -/
def fcells : List (ByteArray × ByteArray) → List Value
  | [] => []
  | x :: L => .string x.1 :: .string x.2 :: fcells L
theorem fcells_length : ∀ L, (fcells L).length = L.length * 2
  | [] => rfl
  | x :: L => by show (fcells L).length + 1 + 1 = (L.length + 1) * 2; rw [fcells_length L]; omega
theorem fcells_append : ∀ L L', fcells (L ++ L') = fcells L ++ fcells L'
  | [], _ => rfl
  | x :: L, L' => by show _ :: _ :: fcells (L ++ L') = _; rw [fcells_append L L']; rfl
theorem fcells_at : ∀ (L : List (ByteArray × ByteArray)) (i : Nat) (h : i < L.length), (fcells L)[i * 2]? = some (.string (L[i].1)) ∧ (fcells L)[i * 2 + 1]? = some (.string (L[i].2))
  | [], _, h => absurd h (by simp)
  | x :: L, 0, _ => ⟨rfl, rfl⟩
  | x :: L, i + 1, h => by
    have ih := fcells_at L i (by simpa using h)
    have e1 : (i + 1) * 2 = i * 2 + 1 + 1 := by omega
    rw [e1]
    exact ih
def nF (L : List (ByteArray × ByteArray)) (i : Nat) : ByteArray := (L.getD i (⟨#[]⟩, ⟨#[]⟩)).1
def nT (L : List (ByteArray × ByteArray)) (i : Nat) : ByteArray := (L.getD i (⟨#[]⟩, ⟨#[]⟩)).2
theorem nF_at {L : List (ByteArray × ByteArray)} {i : Nat} (h : i < L.length) : nF L i = L[i].1 := by unfold nF; simp [List.getD, h]
theorem nT_at {L : List (ByteArray × ByteArray)} {i : Nat} (h : i < L.length) : nT L i = L[i].2 := by unfold nT; simp [List.getD, h]

namespace M
/-- Marked letters. -/
def fmarks (k n : Nat) : List (ByteArray × ByteArray) := (List.range n).map fun i => (mark (k + 2 * i), mark (k + 2 * i + 1))
theorem fmarks_length (k n : Nat) : (fmarks k n).length = n := by simp [fmarks]
def fmarkTo (L : List (ByteArray × ByteArray)) (k : Nat) : Nat → List (ByteArray × ByteArray)
  | 0 => L
  | j + 1 => (fmarkTo L k j).set j (mark (k + 2 * j), mark (k + 2 * j + 1))
theorem fmarkTo_length (L : List (ByteArray × ByteArray)) (k : Nat) : ∀ j, (fmarkTo L k j).length = L.length
  | 0 => rfl
  | j + 1 => by show ((fmarkTo L k j).set j _).length = _; rw [List.length_set, fmarkTo_length L k j]
theorem fmarkTo_at (L : List (ByteArray × ByteArray)) (k : Nat) : ∀ j i, i < j → i < L.length → (fmarkTo L k j)[i]? = some (mark (k + 2 * i), mark (k + 2 * i + 1))
  | 0, _, h, _ => absurd h (by omega)
  | j + 1, i, h, hl => by
    show ((fmarkTo L k j).set j _)[i]? = _
    by_cases e : i = j
    · subst e
      rw [List.getElem?_set_self (by rw [fmarkTo_length]; exact hl)]
    · rw [List.getElem?_set_ne (by omega)]
      exact fmarkTo_at L k j i (by omega) hl
theorem fmarkTo_end (L : List (ByteArray × ByteArray)) (k : Nat) : fmarkTo L k L.length = fmarks k L.length := by
  apply List.ext_getElem?
  intro i
  by_cases h : i < L.length
  · rw [fmarkTo_at L k _ i h h]
    simp [fmarks, h]
  · rw [List.getElem?_eq_none (by rw [fmarkTo_length]; omega), List.getElem?_eq_none (by rw [fmarks_length]; omega)]
end M
theorem nF_marks {k n i : Nat} (h : i < n) : nF (M.fmarks k n) i = M.mark (k + 2 * i) := by
  rw [nF_at (by rw [M.fmarks_length]; exact h)]; simp [M.fmarks]
theorem nT_marks {k n i : Nat} (h : i < n) : nT (M.fmarks k n) i = M.mark (k + 2 * i + 1) := by
  rw [nT_at (by rw [M.fmarks_length]; exact h)]; simp [M.fmarks]
theorem fcells_set : ∀ (L : List (ByteArray × ByteArray)) (j : Nat) (x s : ByteArray), ((fcells L).set (j * 2) (.string x)).set (j * 2 + 1) (.string s) = fcells (L.set j (x, s))
  | [], _, _, _ => rfl
  | _ :: _, 0, _, _ => rfl
  | y :: L, j + 1, x, s => by
    have ih := fcells_set L j x s
    have e1 : (j + 1) * 2 = j * 2 + 1 + 1 := by omega
    rw [e1]
    show _ :: _ :: (((fcells L).set (j * 2) (.string x)).set (j * 2 + 1) (.string s)) = _ :: _ :: fcells (L.set j (x, s))
    rw [ih]
theorem flst_at {I : Nat → ByteArray} {C : Nat → ByteArray} {n i : Nat} (h : i < n) : nF (M.flst I C n) i = I i ∧ nT (M.flst I C n) i = C i := by
  rw [nF_at (by rw [M.flst_length]; exact h), nT_at (by rw [M.flst_length]; exact h)]
  simp [M.flst]
theorem fcells_lst (I : Nat → ByteArray) (C : Nat → ByteArray) (n : Nat) {i : Nat} (h : i < n) : (fcells (M.flst I C n))[i * 2]? = some (.string (I i)) ∧ (fcells (M.flst I C n))[i * 2 + 1]? = some (.string (C i)) := by
  have hl : i < (M.flst I C n).length := by rw [M.flst_length]; exact h
  have := fcells_at (M.flst I C n) i hl
  rw [← nF_at hl, ← nT_at hl, (flst_at h).1, (flst_at h).2] at this
  exact this
end Go.Proofs.Ytkbebpadbdhnhaa
