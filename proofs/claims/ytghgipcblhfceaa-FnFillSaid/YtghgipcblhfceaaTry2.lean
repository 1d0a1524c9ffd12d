/-
  What EmptyTrays, TrayOf and LabelOf return, in the program and in the model of the document.
-/
import Derived.Test.YtghgipcblhfceaaTry
import Derived.Test.YtghgipcblhfceaaFind
import Derived.BigQuiet
namespace Go.Proofs.Ytghgipcblhfceaa
open Go.RowKit
set_option linter.unusedVariables false

/-- Letters, and whether there are any. -/
def RowFound (w : World) (ok : Bool) (L : List (Int × ByteArray)) (e : Ending) (w' : World) : Prop := ∃ v, e = .returned (.tuple #[v, .bool ok]) ∧ Row w' w.heap.size v L ∧ Below w.heap.size w w'
theorem empty_no {n : Nat} {MM : Nat → List (Int × ByteArray)} (h : traysOk n MM 20 = false) : empty n MM = [] := if_neg (by rw [h]; decide)
theorem empty_yes {n : Nat} {MM : Nat → List (Int × ByteArray)} (h : traysOk n MM 20 = true) : empty n MM = M.flat MM n := if_pos h

set_option maxHeartbeats 1000000 in
theorem impl_EmptyTrays (w : World) (base : Nat) (v : Value) (n : Nat) (V : Nat → Value) (MM : Nat → List (Int × ByteArray)) (h : Mat w base v n V MM) (hz : Sz n MM) :
    Calls Try.prog 14 #[v] w (RowFound w (traysOk n MM 20) (empty n MM)) := by
  have HM := Lib.hid h
  have HZ := Lib.hid hz
  have HT := Lib.hid (impl_TraysValid w base v n V MM h hz 20)
  clear h hz
  cases ho : traysOk n MM 20
  · rw [empty_no ho]
    have HO := Lib.hid ho
    clear ho
    go_enter Try.func14, Try.ntmps14
    go_wp2_with (go_at_call 16; refine HT.out.mono ?_; rw [HO.out]; rintro e w1 ⟨rfl, b1⟩)
    go_ret2
    exact ⟨_, rfl, Row.nil _ _, b1⟩
  · rw [empty_yes ho]
    have HO := Lib.hid ho
    clear ho
    have HC := Lib.hid (fun W (hW : Below w.heap.size w W) => slices_Concat W base v n V MM (HM.out.on hW) HZ.out.1 HZ.out.2.1)
    go_enter Try.func14, Try.ntmps14
    go_wp2_with (first
      | (go_at_call 16; refine HT.out.mono ?_; rw [HO.out]; rintro e w1 ⟨rfl, b1⟩)
      | (go_at_call 35; refine (HC.out _ b1).mono ?_; rintro e w2 ⟨v1, rfl, r1, b2⟩))
    go_ret2
    exact ⟨_, rfl, r1.lower b1.size, sstep b1 b2⟩

theorem label_yes {n : Nat} {I : Nat → Int} {C : Nat → ByteArray} (h : M.batch n I C = true) (h0 : 0 < n) : label n I C = C 0 ++ ⟨#[45]⟩ ++ C (n - 1) := if_pos ⟨h, h0⟩
theorem label_no {n : Nat} {I : Nat → Int} {C : Nat → ByteArray} (h : ¬ (M.batch n I C = true ∧ 0 < n)) : label n I C = ⟨#[]⟩ := if_neg h
theorem ret_string {a b : ByteArray} (h : a = b) : Ending.returned (.string a) = .returned (.string b) := by rw [h]

end Go.Proofs.Ytghgipcblhfceaa
