/-
  WrongLetters of the program.
-/
import Derived.Test.YtmjgblhihpbbdaaDoorMSpec3
import Derived.Deep.RegionHeld3
namespace Go.Proofs.YtmjgblhihpbbdaaDoor
open Go.RowKit
open Go.PlainAid (bt get_bt bt_nonneg bt_le)
set_option linter.unusedVariables false

/-- The boxes that WrongLetters' literal holds. -/
structure WBox (w : World) (b p : Int) (a : Option Addr) (n c : Nat) (x : Int) (v : Value) (P0 X0 B0 V0 : Nat) (u : Value) : Prop where
  pp : Tri w P0 (.int .i64 b) (.int .i64 p) (.slice a n c)
  xx : w.cell? ⟨X0, 0, none⟩ = some (.int .i64 x)
  bb : w.cell? ⟨B0, 0, none⟩ = some v
  vv : w.cell? ⟨V0, 0, none⟩ = some u
  vf : w.frozen? ⟨V0, 0, none⟩ = false
theorem WBox.on {w w' : World} {b p : Int} {a : Option Addr} {n c : Nat} {x : Int} {v : Value} {P0 X0 B0 V0 : Nat} {u : Value} (h : WBox w b p a n c x v P0 X0 B0 V0 u) (hb : Below w.heap.size w w') : WBox w' b p a n c x v P0 X0 B0 V0 u := by
  have k : ∀ {q : Nat} {y : Value}, w.cell? ⟨q, 0, none⟩ = some y → w'.cell? ⟨q, 0, none⟩ = some y := fun {q y} e => (World.cell?_of_block (hb.block q (World.block_lt_of_cell? _ _ e))).trans e
  exact ⟨h.pp.on hb, k h.xx, k h.bb, k h.vv, by rw [World.frozen?_of_block (hb.block V0 (World.block_lt_of_cell? _ _ h.vv))]; exact h.vf⟩
/-- What the literal leaves. -/
def WDone (w : World) (V0 : Nat) (L : List Int) (w' : World) : Prop :=
  ∃ u, IRow w' w.heap.size u L ∧ w'.cell? ⟨V0, 0, none⟩ = some u ∧ Only w w' (fun k => k = V0)

theorem wrongIds_len (b p : Int) (n : Nat) (S : Nat → ByteArray) (N : Nat) (MM : Nat → List (Int × ByteArray)) (x : Int) : (wrongIds b p n S N MM x).length ≤ (M.flat MM N).length := by
  unfold wrongIds
  split
  · exact wids_len b n S x.toNat MM (Nat.le_refl _)
  · exact Nat.zero_le _
end Go.Proofs.YtmjgblhihpbbdaaDoor
