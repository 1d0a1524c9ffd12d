/-
  What TurnBars returns, in the program and in the model of the document: the bytes in reverse order.
-/
import Derived.Test.YtagbnfccagdlkaaDoorChecked
import Derived.Test.YtagbnfccagdlkaaDoorDig
import Derived.Test.YtagbnfccagdlkaaDoorConv
import Derived.Lib.ConvBytes
import Derived.Laws.IdiomStrings
import Derived.Laws.AppendOwn
import Derived.RegionTactic
import Derived.BigRegion
import Derived.ChangeAlike
import Derived.WalkKit
import Derived.Below
import Derived.Handy
import Derived.Lib.Hide
namespace Go.Proofs.YtagbnfccagdlkaaDoor
open Go.RowKit
open Go.PlainAid (bt get_bt bt_nonneg bt_le)

theorem bt_list (s : ByteArray) (i : Nat) (h : i < s.size) : bt s i = ((s.data.toList.getD i 0).toNat : Int) := by
  rw [← get_bt s i h]
  have hl : i < s.data.toList.length := by simp; exact h
  rw [List.getD_eq_getElem?_getD, List.getElem?_eq_getElem hl]
  rfl
/-- The first n cells of a block hold the numbers f. -/
def Cells (w : World) (g n : Nat) (f : Nat → Int) : Prop := ∀ m, m < n → w.cell? ⟨g, m, none⟩ = some (.int .u8 (f m)) ∧ w.frozen? ⟨g, m, none⟩ = false
/-- The numbers of f, of n of which the first k and the last k have changed places. -/
def rv (f : Nat → Int) (n k : Nat) (m : Nat) : Int := if m < k ∨ n < m + k + 1 then f (n - 1 - m) else f m

theorem cells_set {w : World} {g n : Nat} {f : Nat → Int} (h : Cells w g n f) (a : Nat) (x : Int) (ha : a < n) : Cells (w.setCell ⟨g, a, none⟩ (.int .u8 x)) g n (fun m => if m = a then x else f m) := by
  intro m hm
  obtain ⟨c, fz⟩ := h m hm
  refine ⟨?_, by rw [World.frozen?_setCell]; exact fz⟩
  by_cases e : m = a
  · subst e
    rw [World.cell?_setCell_same (h := c)]
    simp
  · rw [World.cell?_setCell_other (h := by intro h; injection h with _ h2; exact e h2.symm)]
    simp only [if_neg e]
    exact c
theorem cells_congr {w : World} {g n : Nat} {f f' : Nat → Int} (h : Cells w g n f) (e : ∀ m, m < n → f m = f' m) : Cells w g n f' := by
  intro m hm
  rw [← e m hm]
  exact h m hm
theorem grown_set {w wr : World} {g : Nat} (h : w.grownBy wr (some g)) (a : Nat) (u : Value) : w.grownBy (wr.setCell ⟨g, a, none⟩ u) (some g) :=
  ⟨h.os, h.tape, h.output, by rw [World.size_setCell]; exact h.size, fun k hk hne => by
    rw [Below.heap_setCell _ _ _ _ (by intro e; exact hne (by rw [e]))]
    exact h.block k hk hne⟩
theorem grown_drew {w wr : World} {g : Nat} (h : w.grownBy wr (some g)) : w.grownBy wr.drew (some g) := ⟨h.os, h.tape, h.output, h.size, h.block⟩
theorem rv_zero (f : Nat → Int) (n m : Nat) (hm : m < n) : f m = rv f n 0 m := by
  unfold rv
  rw [if_neg (by omega)]
theorem rv_step (f : Nat → Int) (n k j m : Nat) (hj : j + k + 1 = n) (hk : k < j) (hm : m < n) : (if m = j then rv f n k k else if m = k then rv f n k j else rv f n k m) = rv f n (k + 1) m := by
  unfold rv
  by_cases e : m = j
  · subst e
    rw [if_pos rfl, if_neg (by omega), if_pos (by omega)]
    congr 1
    omega
  · by_cases e2 : m = k
    · subst e2
      rw [if_neg e, if_pos rfl, if_neg (by omega), if_pos (by omega)]
      congr 1
      omega
    · rw [if_neg e, if_neg e2]
      by_cases h : m < k ∨ n < m + k + 1
      · rw [if_pos h, if_pos (by omega)]
      · rw [if_neg h, if_neg (by omega)]
theorem rv_end (f : Nat → Int) (n k m : Nat) (hk : ¬ 2 * k + 1 < n) (hm : m < n) (hk2 : 2 * k ≤ n) : rv f n k m = f (n - 1 - m) := by
  unfold rv
  by_cases h : m < k ∨ n < m + k + 1
  · rw [if_pos h]
  · rw [if_neg h]
    congr 1
    omega

/-- The bytes in reverse order. -/
def turn (s : ByteArray) : ByteArray := ⟨s.data.toList.reverse.toArray⟩
theorem turn_size (s : ByteArray) : (turn s).size = s.size := by
  show s.data.toList.reverse.toArray.size = s.data.size
  simp

theorem turn_back (s : ByteArray) (g cap : Nat) (w : World) (f : Nat → Int) (hf : ∀ m, m < s.size → f m = ((s.data.toList.getD m 0).toNat : Int)) (hc : Cells w g s.size (fun m => f (s.size - 1 - m))) :
    (convert 22 9 (.slice (some ⟨g, 0, none⟩) s.size cap)).run Tryd.prog w = .ok (.string (turn s)) w := by
  have hl : s.data.toList.reverse.length = s.size := by simp
  have h := run_convert_bytes_back (P := Tryd.prog) w 22 9 5 ⟨g, 0, none⟩ cap s.data.toList.reverse Tryd.underlying22 Tryd.underlying5 Tryd.underlying9 (by
    intro j hj
    have hj' : j < s.size := by omega
    have ea : (⟨g, 0, none⟩ : Addr).add j = ⟨g, j, none⟩ := by
      by_cases e : j = 0
      · subst e; rfl
      · simp [Addr.add, e]
    have hx : s.size - 1 - j < s.data.toList.length := by simp; omega
    rw [ea, (hc j hj').1]
    dsimp only
    rw [hf _ (by omega), List.getElem_reverse]
    simp only [List.getD_eq_getElem?_getD, List.getElem?_eq_getElem hx, Option.getD_some]
    rfl)
  rw [hl] at h
  exact h

end Go.Proofs.YtagbnfccagdlkaaDoor
