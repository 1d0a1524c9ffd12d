/-
  What TurnBars returns, in the program and in the model of the document: the bytes in reverse order.
-/
import Derived.Test.YthpdcilffbffoaaDoorChecked
import Derived.Test.YthpdcilffbffoaaDoorDig
import Derived.Test.YthpdcilffbffoaaDoorConv
import Derived.Lib.ConvBytes
import Derived.Laws.IdiomStrings
import Derived.Laws.AppendOwn
import Derived.RegionTactic
import Derived.BigRegion
import Derived.ChangeAlike
import Derived.WalkKit
import Derived.Below
import Derived.Handy
import Derived.Lib.Hide
namespace Go.Proofs.YthpdcilffbffoaaDoor
open Go.RowKit
open Go.PlainAid (bt get_bt bt_nonneg bt_le)

theorem bt_list (s : ByteArray) (i : Nat) (h : i < s.size) : bt s i = ((s.data.toList.getD i 0).toNat : Int) := by
  rw [← get_bt s i h]
  have hl : i < s.data.toList.length := by simp; exact h
  rw [List.getD_eq_getElem?_getD, List.getElem?_eq_getElem hl]
  rfl
/-- The first n cells of a block hold the numbers f. -/
def Cells (w : World) (g n : Nat) (f : Nat → Int) : Prop := ∀ m, m < n → w.cell? ⟨g, m, none⟩ = some (.int .u8 (f m)) ∧ w.frozen? ⟨g, m, none⟩ = false
/-- The numbers of f, of n of which the first k and the last k have changed places. -/
def rv (f : Nat → Int) (n k : Nat) (m : Nat) : Int := if m < k ∨ n < m + k + 1 then f (n - 1 - m) else f m

theorem cells_set {w : World} {g n : Nat} {f : Nat → Int} (h : Cells w g n f) (a : Nat) (x : Int) (ha : a < n) : Cells (w.setCell ⟨g, a, none⟩ (.int .u8 x)) g n (fun m => if m = a then x else f m) := by
  intro m hm
  obtain ⟨c, fz⟩ := h m hm
  refine ⟨?_, by rw [World.frozen?_setCell]; exact fz⟩
  by_cases e : m = a
  · subst e
    rw [World.cell?_setCell_same (h := c)]
    simp
  · rw [World.cell?_setCell_other (h := by intro h; injection h with _ h2; exact e h2.symm)]
    simp only [if_neg e]
    exact c
theorem cells_congr {w : World} {g n : Nat} {f f' : Nat → Int} (h : Cells w g n f) (e : ∀ m, m < n → f m = f' m) : Cells w g n f' := by
  intro m hm
  rw [← e m hm]
  exact h m hm
theorem grown_set {w wr : World} {g : Nat} (h : w.grownBy wr (some g)) (a : Nat) (u : Value) : w.grownBy (wr.setCell ⟨g, a, none⟩ u) (some g) :=
  ⟨h.os, h.tape, h.output, by rw [World.size_setCell]; exact h.size, fun k hk hne => by
    rw [Below.heap_setCell _ _ _ _ (by intro e; exact hne (by rw [e]))]
    exact h.block k hk hne⟩
theorem grown_drew {w wr : World} {g : Nat} (h : w.grownBy wr (some g)) : w.grownBy wr.drew (some g) := ⟨h.os, h.tape, h.output, h.size, h.block⟩
theorem rv_zero (f : Nat → Int) (n m : Nat) (hm : m < n) : f m = rv f n 0 m := by
  unfold rv
  rw [if_neg (by omega)]
theorem rv_step (f : Nat → Int) (n k j m : Nat) (hj : j + k + 1 = n) (hk : k < j) (hm : m < n) : (if m = j then rv f n k k else if m = k then rv f n k j else rv f n k m) = rv f n (k + 1) m := by
  unfold rv
  by_cases e : m = j
  · subst e
    rw [if_pos rfl, if_neg (by omega), if_pos (by omega)]
    congr 1
    omega
  · by_cases e2 : m = k
    · subst e2
      rw [if_neg e, if_pos rfl, if_neg (by omega), if_pos (by omega)]
      congr 1
      omega
    · rw [if_neg e, if_neg e2]
      by_cases h : m < k ∨ n < m + k + 1
      · rw [if_pos h, if_pos (by omega)]
      · rw [if_neg h, if_neg (by omega)]
theorem rv_end (f : Nat → Int) (n k m : Nat) (hk : ¬ 2 * k + 1 < n) (hm : m < n) (hk2 : 2 * k ≤ n) : rv f n k m = f (n - 1 - m) := by
  unfold rv
  by_cases h : m < k ∨ n < m + k + 1
  · rw [if_pos h]
  · rw [if_neg h]
    congr 1
    omega

set_option maxHeartbeats 2000000 in
theorem Reverse_any (g n cap : Nat) (f : Nat → Int) (w : World) (hn : n ≤ 4194304) (hc : Cells w g n f) :
    Calls Tryd.prog 38 #[.slice (some ⟨g, 0, none⟩) n cap] w fun e w' => e = .returned (.tuple #[]) ∧ Cells w' g n (fun m => f (n - 1 - m)) ∧ w.grownBy w' (some g) := by
  have HC := Lib.hid hc
  clear hc
  go_enter Tryd.func38, Tryd.ntmps38
  go_wp2
  go_loopw [2, 3] (fun i j wr => ∃ k : Nat, i = .int .i64 k ∧ j = .int .i64 ((n : Int) - 1 - k) ∧ 2 * k ≤ n ∧ Hid (Cells wr g n (rv f n k)) ∧ w.grownBy wr (some g)) (fun i _ _ => n - (intOf i).toNat)
  case atStart => exact ⟨0, rfl, by simp, by omega, cells_congr HC.out (fun m hm => rv_zero f n m hm), ⟨rfl, rfl, rfl, Nat.le_refl _, fun _ _ _ => rfl⟩⟩
  case round =>
    obtain ⟨k, rfl, rfl, hk, hcr, hg⟩ := hrel
    by_cases hlt : 2 * k + 1 < n
    · obtain ⟨j, hj⟩ : ∃ j : Nat, j + k + 1 = n := ⟨n - 1 - k, by omega⟩
      obtain ⟨ci, fi⟩ := hcr.out k (by omega)
      obtain ⟨cj, fj⟩ := hcr.out j (by omega)
      have hj' : ((n : Int) - 1 - k) = (j : Int) := by omega
      rw [hj']
      have hjn : (j : Int) < (n : Int) := by omega
      have hkn : (k : Int) < (n : Int) := by omega
      have hkj : (k : Int) < (j : Int) := by omega
      have hne : k ≠ j := by omega
      have HJ := Lib.hid hj
      clear hj hj'
      have hS := Lib.hid (cells_congr (cells_set (cells_set hcr.out k (rv f n k j) (by omega)) j (rv f n k k) (by omega)) (fun m hm => rv_step f n k j m HJ.out (by omega) hm))
      go_wp2
      go_region
      all_goals
        go_wp2
        refine ⟨⟨k + 1, by go_num, by have := HJ.out; congr 1; omega, by omega, hS.out, ?_⟩, by simp [intOf]; omega⟩
        exact grown_drew (grown_set (grown_set hg _ _) _ _)
    · have hS := Lib.hid (cells_congr hcr.out (fun m hm => rv_end f n k m hlt hm hk))
      have hx : ¬ (k : Int) < (n : Int) - 1 - (k : Int) := by omega
      go_wp2
      go_end0
      exact ⟨rfl, hS.out, hg⟩

/-- The bytes in reverse order. -/
def turn (s : ByteArray) : ByteArray := ⟨s.data.toList.reverse.toArray⟩
theorem turn_size (s : ByteArray) : (turn s).size = s.size := by
  show s.data.toList.reverse.toArray.size = s.data.size
  simp

theorem turn_back (s : ByteArray) (g cap : Nat) (w : World) (f : Nat → Int) (hf : ∀ m, m < s.size → f m = ((s.data.toList.getD m 0).toNat : Int)) (hc : Cells w g s.size (fun m => f (s.size - 1 - m))) :
    (convert 22 9 (.slice (some ⟨g, 0, none⟩) s.size cap)).run Tryd.prog w = .ok (.string (turn s)) w := by
  have hl : s.data.toList.reverse.length = s.size := by simp
  have h := run_convert_bytes_back (P := Tryd.prog) w 22 9 5 ⟨g, 0, none⟩ cap s.data.toList.reverse Tryd.underlying22 Tryd.underlying5 Tryd.underlying9 (by
    intro j hj
    have hj' : j < s.size := by omega
    have ea : (⟨g, 0, none⟩ : Addr).add j = ⟨g, j, none⟩ := by
      by_cases e : j = 0
      · subst e; rfl
      · simp [Addr.add, e]
    have hx : s.size - 1 - j < s.data.toList.length := by simp; omega
    rw [ea, (hc j hj').1]
    dsimp only
    rw [hf _ (by omega), List.getElem_reverse]
    simp only [List.getD_eq_getElem?_getD, List.getElem?_eq_getElem hx, Option.getD_some]
    rfl)
  rw [hl] at h
  exact h

set_option maxHeartbeats 1000000 in
theorem impl_TurnBars (s : ByteArray) (w : World) (hs : s.size ≤ 4194304) :
    Calls Tryd.prog 17 #[.string s] w fun e w' => e = .returned (.string (turn s)) ∧ Below w.heap.size w w' := by
  have hconv := Lib.run_convert_string_bytes (P := Tryd.prog) w 9 22 5 s Tryd.underlying9 Tryd.underlying22 Tryd.underlying5
  obtain ⟨cap, hcap⟩ : ∃ cap, grownCap w s.size 0 5 = cap := ⟨_, rfl⟩
  rw [hcap] at hconv
  have hB := Lib.hid (below_bytesWorld w 5 s)
  have hC : Hid (Cells (Lib.bytesWorld w 5 s) w.heap.size s.size (fun m => ((s.data.toList.getD m 0).toNat : Int))) := fun m hm => ⟨Lib.bytesWorld_cell w _ s m hm, bytesWorld_frozen w _ s m hm⟩
  generalize Lib.bytesWorld w 5 s = w1 at hconv hB hC
  clear hcap
  go_enter Tryd.func17, Tryd.ntmps17
  go_wp2_with fail
  refine (Reverse_any w.heap.size s.size cap _ w1 hs hC.out).mono ?_
  rintro e w2 ⟨rfl, hc2, hg2⟩
  have hback := turn_back s w.heap.size cap w2 (fun m => ((s.data.toList.getD m 0).toNat : Int)) (fun m hm => rfl) hc2
  have hB2 := Lib.hid (hB.out.grown hg2 hB.out.size (fun k hk => by injection hk with e; omega))
  clear hc2 hg2
  go_wp2
  go_ret
  exact ⟨rfl, hB2.out⟩
end Go.Proofs.YthpdcilffbffoaaDoor
