/-
  One slice of letters appended to another.
-/
import Derived.Test.YtmoghfgfdbdioaaMat
import Derived.Test.YtmoghfgfdbdioaaPureA
import Derived.Maps.AppendAt
namespace Go.Proofs.Ytmoghfgfdbdioaa
open Go.RowKit

theorem lcells_one : ∀ (L : List (Int × ByteArray)) (u : Value), u ∈ lcells L → u.oneCell' = true
  | [], _, h => by cases h
  | x :: L, u, h => by
    have h' : u ∈ (.int .i64 x.1 : Value) :: .string x.2 :: lcells L := h
    rcases List.mem_cons.1 h' with rfl | h'
    · rfl
    · rcases List.mem_cons.1 h' with rfl | h'
      · rfl
      · exact lcells_one L u h'
theorem lst_len (I : Nat → Int) (C : Nat → ByteArray) (n : Nat) : (M.lst I C n).length = n := by simp [M.lst]
theorem lst_get (I : Nat → Int) (C : Nat → ByteArray) (n i : Nat) (h : i < (M.lst I C n).length) : (M.lst I C n)[i] = (I i, C i) := by simp [M.lst]
theorem lcells_lst' (I : Nat → Int) (C : Nat → ByteArray) (n q : Nat) (h : q < n) : (lcells (M.lst I C n))[q * 2]? = some (.int .i64 (I q)) ∧ (lcells (M.lst I C n))[q * 2 + 1]? = some (.string (C q)) := by
  have hat := lcells_at (M.lst I C n) q (by rw [lst_len]; exact h)
  have e := lst_get I C n q (by rw [lst_len]; exact h)
  rw [e] at hat
  exact hat
theorem append_nil_src {P : Program} (w : World) (base : Nat) (t ty e : TypeId) (i : TypeInfo) (size : Nat) (ht : P.underlying t = some (.slice e)) (hi : P.info? e = some i)
    (v : Value) (n : Nat) (xs : List Value) (hown : w.ownsRow base e size v n xs) (c : Nat) : (Builtin.append_ #[t, t] ty #[v, .slice none 0 c]).run P w = .ok v w := by
  rcases hown.2 with ⟨rfl, rfl⟩ | ⟨g, cap, cur, rfl, _, _, hnc, _⟩
  · simp [Builtin.append_, run_underlying ht, sizeOf, typeInfo, hi, Builtin.lenOf, Builtin.firstCells]
  · simp [Builtin.append_, run_underlying ht, sizeOf, typeInfo, hi, Builtin.lenOf, Builtin.firstCells, hnc, storeCells]
theorem lst_nI (R : List (Int × ByteArray)) : M.lst (nI R) (nC R) R.length = R := by
  apply List.ext_getElem?
  intro i
  by_cases h : i < R.length
  · rw [List.getElem?_eq_getElem (by rw [lst_len]; exact h), lst_get, nI_at h, nC_at h, List.getElem?_eq_getElem h]
  · rw [List.getElem?_eq_none (by rw [lst_len]; omega), List.getElem?_eq_none (by omega)]
end Go.Proofs.Ytmoghfgfdbdioaa
