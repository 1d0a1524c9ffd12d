/-
  Drawn weights and a capacity; what the law of the least number of trucks asks.
-/
import Derived.Test.YtmoghfgfdbdioaaDrawL
import Derived.Test.YtmoghfgfdbdioaaLeastL
namespace Go.Proofs.Ytmoghfgfdbdioaa
open Go.RowKit
set_option linter.unusedVariables false

def WtOut (w : World) (e : Ending) (w' : World) : Prop := ∃ (a : Option Addr) (c : Nat) (W : List Int) (q : Int), e = .returned (.tuple #[.slice a W.length c, .int .i64 q]) ∧ Nums w' a W ∧ W.length ≤ 9 ∧ W.length ≤ c ∧ Below w.heap.size w w'
set_option maxHeartbeats 2000000 in
theorem DrawLeastTrucks_any (a : Option Addr) (l k : Nat) (z : List Int) (w : World) (h : IsRow .u8 w a l k z) :
    Calls Try.prog 26 #[.slice a l k] w (WtOut w) := by
  go_enter Try.func26, Try.ntmps26
  go_wp2_with fail
  refine (open_any a l k z w h).mono ?_
  rintro e w1 ⟨r, rfl, rd1, b1, hwr⟩
  have hr1 := rd1.lt
  go_wp2_with fail
  refine (l5Weights_any _ r _ rd1 (by omega)).mono ?_
  rintro e w2 ⟨v, W, q, rfl, R2, l2, sg2⟩
  obtain ⟨a2, c2, rfl, hc2, _⟩ := R2.form
  have B2 := b1.trans ((sg2.below_r hr1).mono hwr)
  have N2 := Lib.hid R2.nums
  clear b1 rd1 h sg2 R2
  go_wp2
  go_ret2
  exact ⟨_, _, W, _, rfl, N2.out, l2, hc2, B2⟩
theorem sumL_bd : ∀ W : List Int, (∀ x ∈ W, 1 ≤ x ∧ x ≤ 1000) → 0 ≤ MW.sumL W ∧ MW.sumL W ≤ 1000 * W.length
  | [], _ => by simp [MW.sumL]
  | x :: W, h => by
    have ih := sumL_bd W fun y hy => h y (List.mem_cons_of_mem _ hy)
    have := h x (List.mem_cons_self ..)
    show 0 ≤ x + MW.sumL W ∧ x + MW.sumL W ≤ _
    simp only [List.length_cons]
    omega
theorem big_le (c : Int) : ∀ W : List Int, MW.big c W ≤ W.length
  | [] => Nat.le_refl _
  | x :: W => by
    have := big_le c W
    unfold MW.big
    simp only [List.length_cons]
    split <;> omega
theorem drop_step (c : Int) {W : List Int} {j : Nat} (hj : j < W.length) :
    MW.sumL (W.drop j) = MW.sumL (W.drop (j + 1)) + MW.gz W j ∧ MW.big c (W.drop j) = (if c < 2 * MW.gz W j then MW.big c (W.drop (j + 1)) + 1 else MW.big c (W.drop (j + 1))) ∧ (W.drop j).reverse = (W.drop (j + 1)).reverse ++ [MW.gz W j] := by
  rw [MW.gz_at hj, ← List.getElem_cons_drop hj]
  refine ⟨?_, rfl, List.reverse_cons⟩
  show W[j] + _ = _
  omega
theorem least_law {W : List Int} {c : Int} (hw : MW.wOk W c = true) {n : Nat} (hn : MW.leastTrucks W c = n) :
    (1 ≤ c ∧ c ≤ 1000) ∧ W.length ≤ 8 ∧ n ≤ 8 ∧ (∀ i, i < W.length → 1 ≤ MW.gz W i ∧ MW.gz W i ≤ c) ∧ (∀ k, 0 ≤ MW.sumL (W.drop k) ∧ MW.sumL (W.drop k) ≤ 8000) ∧ (∀ k, MW.big c (W.drop k) ≤ 8) ∧
    MW.sumL W ≤ n * c ∧ MW.big c W ≤ n ∧ n ≤ W.length ∧ MW.leastTrucks W.reverse c = n ∧ (0 < W.length → MW.leastTrucks (W.drop 1) c = n ∨ MW.leastTrucks (W.drop 1) c = (n : Int) - 1) := by
  obtain ⟨w1, w2, w3⟩ := (MW.wOk_iff W c).1 hw
  have hb := MW.least_bd hw
  have hl := MW.least_len hw
  have hx : ∀ x ∈ W, 1 ≤ x ∧ x ≤ 1000 := fun x hx => by
    obtain ⟨i, hi, e⟩ := MW.mem_gz hx
    have := w3 i hi
    omega
  refine ⟨w1, w2, by omega, w3, fun k => ?_, fun k => ?_, MW.least_sum hw hn, MW.least_big hw hn, by omega, (MW.least_reverse hw).trans hn, fun h0 => ?_⟩
  · have := sumL_bd (W.drop k) fun x h => hx x (List.mem_of_mem_drop h)
    have hdl := List.length_drop (l := W) (i := k)
    omega
  · have := big_le c (W.drop k)
    have hdl := List.length_drop (l := W) (i := k)
    omega
  · match W, hw, hn, h0 with
    | x :: W, hw, hn, _ =>
      have := MW.least_tail hw
      rw [hn] at this
      exact this
end Go.Proofs.Ytmoghfgfdbdioaa
