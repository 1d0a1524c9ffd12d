/-
  One slice of orders appended to another.
-/
import Derived.Test.YtkbebpadbdhnhaaFRow
import Derived.Maps.AppendAt
namespace Go.Proofs.Ytkbebpadbdhnhaa
open Go.RowKit

theorem fcells_one : ∀ (L : List (ByteArray × ByteArray)) (u : Value), u ∈ fcells L → u.oneCell' = true
  | [], _, h => by cases h
  | x :: L, u, h => by
    have h' : u ∈ (.string x.1 : Value) :: .string x.2 :: fcells L := h
    rcases List.mem_cons.1 h' with rfl | h'
    · rfl
    · rcases List.mem_cons.1 h' with rfl | h'
      · rfl
      · exact fcells_one L u h'
theorem flst_len (I : Nat → ByteArray) (C : Nat → ByteArray) (n : Nat) : (M.flst I C n).length = n := by simp [M.flst]
theorem flst_get (I : Nat → ByteArray) (C : Nat → ByteArray) (n i : Nat) (h : i < (M.flst I C n).length) : (M.flst I C n)[i] = (I i, C i) := by simp [M.flst]
theorem fcells_lst' (I : Nat → ByteArray) (C : Nat → ByteArray) (n q : Nat) (h : q < n) : (fcells (M.flst I C n))[q * 2]? = some (.string (I q)) ∧ (fcells (M.flst I C n))[q * 2 + 1]? = some (.string (C q)) := by
  have hat := fcells_at (M.flst I C n) q (by rw [flst_len]; exact h)
  have e := flst_get I C n q (by rw [flst_len]; exact h)
  rw [e] at hat
  exact hat
theorem fappend_nil_src {P : Program} (w : World) (base : Nat) (t ty e : TypeId) (i : TypeInfo) (size : Nat) (ht : P.underlying t = some (.slice e)) (hi : P.info? e = some i)
    (v : Value) (n : Nat) (xs : List Value) (hown : w.ownsRow base e size v n xs) (c : Nat) : (Builtin.append_ #[t, t] ty #[v, .slice none 0 c]).run P w = .ok v w := by
  rcases hown.2 with ⟨rfl, rfl⟩ | ⟨g, cap, cur, rfl, _, _, hnc, _⟩
  · simp [Builtin.append_, run_underlying ht, sizeOf, typeInfo, hi, Builtin.lenOf, Builtin.firstCells]
  · simp [Builtin.append_, run_underlying ht, sizeOf, typeInfo, hi, Builtin.lenOf, Builtin.firstCells, hnc, storeCells]
theorem flst_nI (R : List (ByteArray × ByteArray)) : M.flst (nF R) (nT R) R.length = R := by
  apply List.ext_getElem?
  intro i
  by_cases h : i < R.length
  · rw [List.getElem?_eq_getElem (by rw [flst_len]; exact h), flst_get, nF_at h, nT_at h, List.getElem?_eq_getElem h]
  · rw [List.getElem?_eq_none (by rw [flst_len]; omega), List.getElem?_eq_none (by omega)]
end Go.Proofs.Ytkbebpadbdhnhaa
