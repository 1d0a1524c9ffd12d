/-
  Weights, numbers of trucks: what WeightsValid, TruckCount and LeastTrays return, in the program and in the model of the document.
-/
import Derived.Test.YtobmenbhbeflhaaNums
import Derived.WalkLawsBesides
import Derived.BigQuiet
import Derived.Deep.QuietTactic
namespace Go.Proofs.Ytobmenbhbeflhaa
open Go.RowKit

namespace MW
/-- How many trays some letters need. -/
def leastTrays (c s : Int) : Int := if (0 ≤ c ∧ c ≤ 60) ∧ 1 ≤ s ∧ s ≤ 20 then (c + s - 1) / s else -1
end MW

set_option maxHeartbeats 400000 in
theorem spec_l5Size (s : Int) (w : World) :
    Calls Try.prog 39 #[.int .i64 s] w fun e w' => e = .returned (.bool (decide (1 ≤ s ∧ s ≤ 20))) ∧ w = w' := by
  go_enter Try.func39, Try.ntmps39
  go_wp2_with (go_at_call 34; refine (spec_l1In _ _ _ _).mono ?_; rintro e w1 ⟨rfl, rfl⟩)
  go_ret
  exact ⟨ret_bool (by simp), rfl⟩
set_option maxHeartbeats 400000 in
theorem impl_traySize (s : Int) (w : World) :
    Calls Try.prog 23 #[.int .i64 s] w fun e w' => e = .returned (.bool (decide (1 ≤ s ∧ s ≤ 20))) ∧ w = w' := by
  by_cases h1 : 1 ≤ s
  · by_cases h2 : s ≤ 20
    · have hv := Lib.hid (decide_eq_true (show 1 ≤ s ∧ s ≤ 20 from ⟨h1, h2⟩))
      go_enter Try.func23, Try.ntmps23
      go_wp2
      go_ret
      exact ⟨ret_bool hv.out.symm, rfl⟩
    · go_enter Try.func23, Try.ntmps23
      go_wp2
      go_ret
      exact ⟨ret_bool (decide_eq_false (by omega)).symm, rfl⟩
  · go_enter Try.func23, Try.ntmps23
    go_wp2
    go_ret
    exact ⟨ret_bool (by simp; omega), rfl⟩

set_option maxHeartbeats 1000000 in
theorem impl_LeastTrays (c s : Int) (w : World) :
    Calls Try.prog 13 #[.int .i64 c, .int .i64 s] w fun e w' => e = .returned (.int .i64 (MW.leastTrays c s)) ∧ w = w' := by
  unfold MW.leastTrays
  by_cases h1 : 0 ≤ c ∧ c ≤ 60
  · have D1 := Lib.hid (decide_eq_true h1)
    by_cases h2 : 1 ≤ s ∧ s ≤ 20
    · rw [if_pos ⟨h1, h2⟩]
      have D2 := Lib.hid (decide_eq_true h2)
      obtain ⟨a1, a2⟩ := h1
      obtain ⟨a3, a4⟩ := h2
      go_enter Try.func13, Try.ntmps13
      go_wp2_with (first | (go_at_call 24; refine (impl_within _ _ _).mono ?_; rw [D1.out]; rintro e w1 ⟨rfl, rfl⟩) | (go_at_call 23; refine (impl_traySize _ _).mono ?_; rw [D2.out]; rintro e w1 ⟨rfl, rfl⟩))
      go_ret
      exact ⟨rfl, rfl⟩
    · rw [if_neg (fun h => h2 h.2)]
      have D2 := Lib.hid (decide_eq_false h2)
      go_enter Try.func13, Try.ntmps13
      go_wp2_with (first | (go_at_call 24; refine (impl_within _ _ _).mono ?_; rw [D1.out]; rintro e w1 ⟨rfl, rfl⟩) | (go_at_call 23; refine (impl_traySize _ _).mono ?_; rw [D2.out]; rintro e w1 ⟨rfl, rfl⟩))
      go_ret
      exact ⟨rfl, rfl⟩
  · rw [if_neg (fun h => h1 h.1)]
    have D1 := Lib.hid (decide_eq_false h1)
    go_enter Try.func13, Try.ntmps13
    go_wp2_with (go_at_call 24; refine (impl_within _ _ _).mono ?_; rw [D1.out]; rintro e w1 ⟨rfl, rfl⟩)
    go_ret
    exact ⟨rfl, rfl⟩

/-- A weight is refused. -/
def badW (x c : Int) : Bool := decide (¬ (1 ≤ x ∧ x ≤ c))
/-- A function of numbers whose answer is known in all worlds behind w. -/
def Asks (w : World) (f : Nat) (cap : Array Value) (P : Int → Bool) : Prop := ∀ W x, Below w.heap.size w W → Calls Try.prog f (#[.int .i64 x] ++ cap) W fun e W' => e = .returned (.bool (P x)) ∧ Below W.heap.size W W'
/-- The index of the first number that is asked for, or -1. -/
def FirstAt (P : Int → Bool) (L : List Int) (r : Int) : Prop := (r = -1 ∧ ∀ i, i < L.length → P (MW.gz L i) = false) ∨ ∃ k : Nat, r = k ∧ k < L.length ∧ P (MW.gz L k) = true ∧ ∀ i, i < k → P (MW.gz L i) = false
theorem FirstAt.neg {P : Int → Bool} {L : List Int} {r : Int} (h : FirstAt P L r) : decide (0 ≤ r) = L.any P := by
  rcases h with ⟨rfl, h⟩ | ⟨k, rfl, hk, h, _⟩
  · rw [decide_eq_false (by omega)]
    symm
    rw [List.any_eq_false]
    intro x hx
    obtain ⟨i, hi, e⟩ := MW.mem_gz hx
    rw [← e, h i hi]; simp
  · rw [decide_eq_true (by omega)]
    symm
    rw [List.any_eq_true]
    exact ⟨_, MW.gz_mem hk, h⟩
end Go.Proofs.Ytobmenbhbeflhaa
