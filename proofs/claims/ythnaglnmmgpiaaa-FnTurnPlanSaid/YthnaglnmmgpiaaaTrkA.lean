/-
  Weights, numbers of trucks: what WeightsValid, TruckCount and LeastTrays return, in the program and in the model of the document.
-/
import Derived.Test.YthnaglnmmgpiaaaMgN11
import Derived.WalkLawsBesides
import Derived.BigQuiet
import Derived.Deep.QuietTactic
namespace Go.Proofs.Ythnaglnmmgpiaaa
open Go.RowKit

namespace MW
/-- How many trays some letters need. -/
def leastTrays (c s : Int) : Int := if (0 ≤ c ∧ c ≤ 60) ∧ 1 ≤ s ∧ s ≤ 20 then (c + s - 1) / s else -1
end MW

/-- A weight is refused. -/
def badW (x c : Int) : Bool := decide (¬ (1 ≤ x ∧ x ≤ c))
/-- A function of numbers whose answer is known in all worlds behind w. -/
def Asks (w : World) (f : Nat) (cap : Array Value) (P : Int → Bool) : Prop := ∀ W x, Below w.heap.size w W → Calls Try.prog f (#[.int .i64 x] ++ cap) W fun e W' => e = .returned (.bool (P x)) ∧ Below W.heap.size W W'
/-- The index of the first number that is asked for, or -1. -/
def FirstAt (P : Int → Bool) (L : List Int) (r : Int) : Prop := (r = -1 ∧ ∀ i, i < L.length → P (MW.gz L i) = false) ∨ ∃ k : Nat, r = k ∧ k < L.length ∧ P (MW.gz L k) = true ∧ ∀ i, i < k → P (MW.gz L i) = false
theorem FirstAt.neg {P : Int → Bool} {L : List Int} {r : Int} (h : FirstAt P L r) : decide (0 ≤ r) = L.any P := by
  rcases h with ⟨rfl, h⟩ | ⟨k, rfl, hk, h, _⟩
  · rw [decide_eq_false (by omega)]
    symm
    rw [List.any_eq_false]
    intro x hx
    obtain ⟨i, hi, e⟩ := MW.mem_gz hx
    rw [← e, h i hi]; simp
  · rw [decide_eq_true (by omega)]
    symm
    rw [List.any_eq_true]
    exact ⟨_, MW.gz_mem hk, h⟩
end Go.Proofs.Ythnaglnmmgpiaaa
