/-
  Drawn sizes of trays, and letters with one.
-/
import Derived.Test.YtobmenbhbeflhaaDrawB
namespace Go.Proofs.Ytobmenbhbeflhaa
open Go.RowKit
set_option linter.unusedVariables false

/-- A number that was drawn, and a reader. -/
def SizeSg (W : World) (r N : Nat) (e : Ending) (w' : World) : Prop := ∃ x : Int, e = .returned (.int .i64 x) ∧ (x ∈ [(0 : Int), 20, 21, -1, 9223372036854775807] ∨ (1 ≤ x ∧ x ≤ 6)) ∧ Sg W w' r N
set_option maxHeartbeats 1000000 in
theorem l5Number_any (W w : World) (r N : Nat) (h : Sg W w r N) (hN : N ≤ 90000) :
    Calls Try.prog 20 #[.pointer (some ⟨r, 0, none⟩)] w (SizeSg W r (N + 2)) := by
  have H := Lib.hid h
  clear h
  go_enter Try.func20, Try.ntmps20
  go_wp2_with fail
  refine (pick_sg W _ _ r _ H.out (by omega) (by omega) (by omega)).mono ?_
  rintro e w1 ⟨v, rfl, v0, v1, sg1⟩
  have hr := sg1.1.lt
  have S1 := Lib.hid sg1
  clear sg1 H
  cases hv : (v == 0)
  · go_wp2_with fail
    refine (pick_sg W _ _ r _ S1.out (by omega) (by omega) (by omega)).mono ?_
    rintro e w2 ⟨x, rfl, x0, x1, sg2⟩
    have S2 := Lib.hid sg2
    clear sg2
    go_wp2
    go_ret
    exact ⟨_, rfl, Or.inr (by omega), S2.out⟩
  · go_wp2_with fail
    refine (num_sg W [0, 20, 21, -1, 9223372036854775807] w1.heap.size _ r _ (S1.out.alloc _) (by omega) (by decide) (by decide) (by omega) (cells_int [0, 20, 21, -1, 9223372036854775807] _ w1)).mono ?_
    rintro e w2 ⟨x, rfl, hx, sg2⟩
    have S2 := Lib.hid sg2
    have HX := Lib.hid hx
    clear sg2 hx
    go_wp2
    go_ret
    exact ⟨_, rfl, Or.inl HX.out, S2.out⟩

/-- Drawn letters. -/
def LetsOnly (w : World) (e : Ending) (w' : World) : Prop := ∃ v : Value, e = .returned v ∧ Lets w w' v
/-- Two drawn numbers, and new memory alone. -/
def NumTwo (w : World) (e : Ending) (w' : World) : Prop := ∃ x y : Int, e = .returned (.tuple #[.int .i64 x, .int .i64 y]) ∧ Below w.heap.size w w'
end Go.Proofs.Ytobmenbhbeflhaa
