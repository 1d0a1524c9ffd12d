/-
  Letters in slices that the call itself has made: what they hold, append, and two of them side by side.
-/
import Derived.Test.YtkbebpadbdhnhaaSortM
import Derived.Test.YtkbebpadbdhnhaaBatch
import Derived.Maps.AppendAt
import Derived.OwnWalk
import Derived.Laws.OwnMore
namespace Go.Proofs.Ytkbebpadbdhnhaa
open Go.RowKit

/-- Letters as cells. -/
def lcells : List (Int × ByteArray) → List Value
  | [] => []
  | x :: L => .int .i64 x.1 :: .string x.2 :: lcells L
theorem lcells_length : ∀ L, (lcells L).length = L.length * 2
  | [] => rfl
  | x :: L => by show (lcells L).length + 1 + 1 = (L.length + 1) * 2; rw [lcells_length L]; omega
theorem lcells_append : ∀ L L', lcells (L ++ L') = lcells L ++ lcells L'
  | [], _ => rfl
  | x :: L, L' => by show _ :: _ :: lcells (L ++ L') = _; rw [lcells_append L L']; rfl
theorem lcells_at : ∀ (L : List (Int × ByteArray)) (i : Nat) (h : i < L.length), (lcells L)[i * 2]? = some (.int .i64 (L[i].1)) ∧ (lcells L)[i * 2 + 1]? = some (.string (L[i].2))
  | [], _, h => absurd h (by simp)
  | x :: L, 0, _ => ⟨rfl, rfl⟩
  | x :: L, i + 1, h => by
    have ih := lcells_at L i (by simpa using h)
    have e1 : (i + 1) * 2 = i * 2 + 1 + 1 := by omega
    rw [e1]
    exact ih
def nI (L : List (Int × ByteArray)) (i : Nat) : Int := (L.getD i (0, ⟨#[]⟩)).1
def nC (L : List (Int × ByteArray)) (i : Nat) : ByteArray := (L.getD i (0, ⟨#[]⟩)).2
theorem nI_at {L : List (Int × ByteArray)} {i : Nat} (h : i < L.length) : nI L i = L[i].1 := by unfold nI; simp [List.getD, h]
theorem nC_at {L : List (Int × ByteArray)} {i : Nat} (h : i < L.length) : nC L i = L[i].2 := by unfold nC; simp [List.getD, h]

theorem grown_of_below {w w' : World} (hb : Below w.heap.size w w') : w.grownBy w' none := ⟨hb.os, hb.tape, hb.output, hb.size, fun k hk _ => hb.block k hk⟩
/-- Two slices in two blocks. -/
def Apart (u v : Value) : Prop := ∀ b, u.ownBlock = some b → v.ownBlock ≠ some b
theorem Apart.symm {u v : Value} (h : Apart u v) : Apart v u := fun b hb e => h b e hb
theorem Apart.nil (v : Value) : Apart (.slice none 0 0) v := fun b hb => by simp [Value.ownBlock] at hb
end Go.Proofs.Ytkbebpadbdhnhaa
