/-
  What the model's TurnBars returns: the bytes in reverse order.
-/
import Derived.Test.YthpdcilffbffoaaDoorTurn
import Derived.Deep.OwnRows
namespace Go.Proofs.YthpdcilffbffoaaDoor
open Go.RowKit
open Go.PlainAid (bt get_bt bt_nonneg bt_le)

theorem cells_made (w : World) (n : Nat) (T : TypeId) : Cells (w.alloc (.cells (madeCells #[.int .u8 0] n) T)) w.heap.size n (fun _ => 0) := by
  intro m hm
  have h : (madeCells #[Value.int .u8 0] n)[m]? = some (.int .u8 0) := by
    have hz : m < (madeCells #[Value.int .u8 0] n).size := by rw [size_madeCells]; exact hm
    rw [Array.getElem?_eq_getElem hz]
    simp [madeCells, Nat.mod_one]
  refine ⟨?_, ?_⟩
  · rw [World.cell?_alloc_mark]
    exact h
  · rw [World.frozen?_alloc_mark]
    simp

/-- The bytes of s, of which the last k stand in front. -/
def half (s : ByteArray) (k m : Nat) : Int := if m < k then bt s (s.size - 1 - m) else 0
theorem half_step (s : ByteArray) (k m : Nat) : (if m = k then bt s (s.size - 1 - k) else half s k m) = half s (k + 1) m := by
  unfold half
  by_cases e : m = k
  · subst e; rw [if_pos rfl, if_pos (by omega)]
  · rw [if_neg e]
    by_cases h : m < k
    · rw [if_pos h, if_pos (by omega)]
    · rw [if_neg h, if_neg (by omega)]

set_option maxHeartbeats 1000000 in
theorem spec_TurnBars (s : ByteArray) (w : World) (hs : s.size ≤ 4194304) :
    Calls Tryd.prog 42 #[.string s] w fun e w' => e = .returned (.string (turn s)) ∧ Below w.heap.size w w' := by
  have hmk := run_make_row' (P := Tryd.prog) 22 5 (.int .u8 0) 1 Tryd.underlying22 (by kernel_rfl) rfl .i64 .i64 s.size (by omega) (by omega) w
  have hC : Hid (Cells (w.alloc (.cells (madeCells #[.int .u8 0] s.size) 5)) w.heap.size s.size (fun _ => 0)) := cells_made w s.size _
  have hB : Hid (Below w.heap.size w (w.alloc (.cells (madeCells #[.int .u8 0] s.size) 5))) := (Below.refl _ _).alloc (Nat.le_refl _) _
  generalize w.alloc (.cells (madeCells #[.int .u8 0] s.size) 5) = w1 at hmk hC hB
  have hbt := get_bt s
  go_enter Tryd.func42, Tryd.ntmps42
  go_wp2
  go_loopw [4] (fun i wr => ∃ k : Nat, k ≤ s.size ∧ i = .int .i64 k ∧ Hid (Cells wr w.heap.size s.size (half s k)) ∧ Below w.heap.size w wr) (fun i _ => s.size - (intOf i).toNat)
  case atStart => exact ⟨0, by omega, rfl, cells_congr hC.out (fun m _ => by unfold half; rw [if_neg (by omega)]), hB.out⟩
  case round =>
    obtain ⟨k, hk, rfl, hcr, hb⟩ := hrel
    by_cases hlt : k < s.size
    · obtain ⟨ck, fk⟩ := hcr.out k hlt
      obtain ⟨j, hj⟩ : ∃ j : Nat, j + k + 1 = s.size := ⟨s.size - 1 - k, by omega⟩
      have hjs : s.size - 1 - k = j := by omega
      have hS := Lib.hid (cells_congr (cells_set hcr.out k (bt s j) hlt) (f' := half s (k + 1)) (fun m _ => by have h := half_step s k m; rw [hjs] at h; exact h))
      have hji : ((s.size : Int) - 1 - (k : Int)) = (j : Int) := by omega
      have hjl : (j : Int) < (s.size : Int) := by omega
      have hkl : (k : Int) < (s.size : Int) := by omega
      have hjn : j < s.size := by omega
      clear hj hjs
      go_wp2
      go_roundw
      case rel => exact ⟨k + 1, by omega, by go_num, hS, hb.setCell (Nat.le_refl _) _⟩
      case measure => simp [intOf]; omega
    · obtain rfl : k = s.size := by omega
      have hback := turn_back s w.heap.size s.size wr (fun m => bt s m) (fun m hm => bt_list s m hm) (cells_congr hcr.out (fun m hm => by unfold half; rw [if_pos hm]))
      clear hcr
      go_wp2
      go_ret
      exact ⟨rfl, hb⟩
end Go.Proofs.YthpdcilffbffoaaDoor
