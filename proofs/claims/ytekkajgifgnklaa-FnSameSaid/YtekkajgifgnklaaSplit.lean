/-
  What SplitBatch and CountPrefix return, in the program and in the model of the document.
-/
import Derived.Test.YtekkajgifgnklaaMgA1
import Derived.Test.YtekkajgifgnklaaMgA3
import Derived.WalkLawsBesides
import Derived.BigGuard
namespace Go.Proofs.Ytekkajgifgnklaa
open Go.RowKit
open Go.PlainAid (bt get_bt bt_nonneg bt_le)

theorem prefix_long {p : ByteArray} (h : 7 < p.size) : M.prefixOk p = false := by
  unfold M.prefixOk
  rw [decide_eq_false (show ¬ p.size ≤ 7 by omega), Bool.and_false]
theorem prefix_short {p : ByteArray} (h : p.size ≤ 7) : M.prefixOk p = M.digs p := by
  unfold M.prefixOk
  rw [decide_eq_true h, Bool.and_true]
/-- Two slices of letters of the call's own, apart, and new memory alone. -/
def Split (W : World) (ok : Bool) (L L' : List (Int × ByteArray)) (e : Ending) (w' : World) : Prop :=
  ∃ v v', e = .returned (.tuple #[v, v', .bool ok]) ∧ Row w' W.heap.size v L ∧ Row w' W.heap.size v' L' ∧ Apart v v' ∧ Below W.heap.size W w'

theorem Row.lower0 {w : World} {base base' : Nat} {v : Value} {L : List (Int × ByteArray)} (h : Row w base v L) (hb : base' ≤ base) : Row w base' v L := by
  refine ⟨h.1, ?_⟩
  rcases h.2 with ⟨rfl, hn⟩ | ⟨g, cap, cur, rfl, hbg, rest⟩
  · exact Or.inl ⟨rfl, hn⟩
  · exact Or.inr ⟨g, cap, cur, rfl, Nat.le_trans hb hbg, rest⟩
/-- Two slices of letters of the call's own, apart, and new memory alone. -/
def Two (W : World) (L L' : List (Int × ByteArray)) (e : Ending) (w' : World) : Prop :=
  ∃ v v', e = .returned (.tuple #[v, v']) ∧ Row w' W.heap.size v L ∧ Row w' W.heap.size v' L' ∧ Apart v v' ∧ Below W.heap.size W w'
theorem ret_split {v v' u u' : Value} {b : Bool} (h : v = u) (h' : v' = u') : Ending.returned (.tuple #[v, v', .bool b]) = .returned (.tuple #[u, u', .bool b]) := by rw [h, h']
theorem two_empty (w : World) : Row ((w.alloc (.cells #[] 34)).alloc (.cells #[] 34)) w.heap.size (.slice (some ⟨w.heap.size, 0, none⟩) 0 0) [] ∧
    Row ((w.alloc (.cells #[] 34)).alloc (.cells #[] 34)) w.heap.size (.slice (some ⟨w.heap.size + 1, 0, none⟩) 0 0) [] ∧ Apart (.slice (some ⟨w.heap.size, 0, none⟩) 0 0) (.slice (some ⟨w.heap.size + 1, 0, none⟩) 0 0) := by
  have h1 : Row (w.alloc (.cells #[] 34)) w.heap.size (.slice (some ⟨w.heap.size, 0, none⟩) 0 0) [] := World.ownsRow_lit (base := w.heap.size) (e := 34) (size := 2) w #[] 0 (Nat.le_refl _) (by unfold maxLen; omega) rfl
  refine ⟨h1.alloc _, ?_, fun b hb e => ?_⟩
  · have := World.ownsRow_lit (base := w.heap.size) (e := 34) (size := 2) (w.alloc (.cells #[] 34)) #[] 0 (by simp) (by unfold maxLen; omega) rfl
    simp only [World.size_alloc] at this
    exact this
  · simp [Value.ownBlock] at hb e
    omega
/-- What SplitBatch returns of letters. -/
def inS (n : Nat) (I : Nat → Int) (C : Nat → ByteArray) (p : ByteArray) : List (Int × ByteArray) := if M.splitOk n I C p = true then M.withP p (M.lst I C n) else []
def outS (n : Nat) (I : Nat → Int) (C : Nat → ByteArray) (p : ByteArray) : List (Int × ByteArray) := if M.splitOk n I C p = true then M.sansP p (M.lst I C n) else []
theorem inS_le (n : Nat) (I : Nat → Int) (C : Nat → ByteArray) (p : ByteArray) : (inS n I C p).length ≤ n := by
  unfold inS; split
  · exact M.withP_le p I C n
  · exact Nat.zero_le _
theorem outS_le (n : Nat) (I : Nat → Int) (C : Nat → ByteArray) (p : ByteArray) : (outS n I C p).length ≤ n := by
  unfold outS; split
  · exact M.sansP_le p I C n
  · exact Nat.zero_le _
end Go.Proofs.Ytekkajgifgnklaa
