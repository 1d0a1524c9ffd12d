/-
  What EmptyTrays, TrayOf and LabelOf return, in the program and in the model of the document.
-/
import Derived.Test.YtccfjeijnadjfaaDoorTry
import Derived.Test.YtccfjeijnadjfaaDoorMgT2
import Derived.BigQuiet
namespace Go.Proofs.YtccfjeijnadjfaaDoor
open Go.RowKit
set_option linter.unusedVariables false

/-- Letters, and whether there are any. -/
def RowFound (w : World) (ok : Bool) (L : List (Int × ByteArray)) (e : Ending) (w' : World) : Prop := ∃ v, e = .returned (.tuple #[v, .bool ok]) ∧ Row w' w.heap.size v L ∧ Below w.heap.size w w'
theorem empty_no {n : Nat} {MM : Nat → List (Int × ByteArray)} (h : traysOk n MM 20 = false) : empty n MM = [] := if_neg (by rw [h]; decide)
theorem empty_yes {n : Nat} {MM : Nat → List (Int × ByteArray)} (h : traysOk n MM 20 = true) : empty n MM = M.flat MM n := if_pos h

theorem label_yes {n : Nat} {I : Nat → Int} {C : Nat → ByteArray} (h : M.batch n I C = true) (h0 : 0 < n) : label n I C = C 0 ++ ⟨#[45]⟩ ++ C (n - 1) := if_pos ⟨h, h0⟩
theorem label_no {n : Nat} {I : Nat → Int} {C : Nat → ByteArray} (h : ¬ (M.batch n I C = true ∧ 0 < n)) : label n I C = ⟨#[]⟩ := if_neg h
theorem ret_string {a b : ByteArray} (h : a = b) : Ending.returned (.string a) = .returned (.string b) := by rw [h]

set_option maxHeartbeats 1000000 in
theorem spec_LabelOf (w : World) (a : Option Addr) (n c : Nat) (I : Nat → Int) (C : Nat → ByteArray) (h : Lts w a n I C) (hf : Fits n I C) (hn : n ≤ 1048576) :
    Calls Tryd.prog 13 #[.slice a n c] w fun e w' => e = .returned (.string (label n I C)) ∧ Below w.heap.size w w' := by
  have HL := Lib.hid h
  have HF := Lib.hid hf
  clear h hf
  cases hb : M.batch n I C
  · have hv := Lib.hid (label_no (n := n) (I := I) (C := C) (by rw [hb]; simp))
    have h0 := M.batch_pos hb
    have HB := Lib.hid hb
    have b0 : ((n : Int) == 0) = false := by rw [beq_eq_false_iff_ne]; omega
    have b1 : (n == 0) = false := by rw [beq_eq_false_iff_ne]; omega
    clear hb
    go_enter Tryd.func13, Tryd.ntmps13
    go_wp2_with (go_at_call 26; refine (spec_BatchValid _ _ _ _ _ _ HL.out HF.out hn).mono ?_; rw [HB.out]; rintro e w1 ⟨rfl, b1⟩; have HB1 := Lib.hid b1; have HL1 := Lib.hid (HL.out.on b1); clear b1)
    go_ret
    exact ⟨ret_string hv.out.symm, HB1.out⟩
  · have HB := Lib.hid hb
    by_cases h0 : 0 < n
    · have hv := Lib.hid (label_yes hb h0)
      have b0 : ((n : Int) == 0) = false := by rw [beq_eq_false_iff_ne]; omega
      have b1 : (n == 0) = false := by rw [beq_eq_false_iff_ne]; omega
      obtain ⟨m, rfl⟩ : ∃ m, n = m + 1 := ⟨n - 1, by omega⟩
      obtain ⟨b, o, rfl, c0, c1⟩ := HL.out 0 (by omega)
      have hs0 := (M.code_yes ((M.batch_yes hb).2 0 (by omega)).1).2
      have hs1 := (M.code_yes ((M.batch_yes hb).2 m (by omega)).1).2
      have s0 : IntKind.i64.wrap (((m + 1 : Nat) : Int) - 1) = (m : Int) := by rw [IntWalk.i64_in _ (by omega)]; omega
      have s1 : IntKind.i64.wrap ((m : Int) + 1 - 1) = (m : Int) := by rw [IntWalk.i64_in _ (by omega)]; omega
      have hm0 : (0 : Int) < ((m + 1 : Nat) : Int) := by omega
      have hm1 : (0 : Int) < (m : Int) + 1 := by omega
      clear hb c0 c1
      go_enter Tryd.func13, Tryd.ntmps13
      go_wp2_with (go_at_call 26; refine (spec_BatchValid _ _ _ _ _ _ HL.out HF.out hn).mono ?_; rw [HB.out]; rintro e w1 ⟨rfl, b1⟩; have HB1 := Lib.hid b1; have HL1 := Lib.hid (HL.out.on b1); clear b1; obtain ⟨_, _, e0, _, c1⟩ := HL1.out 0 (by omega); cases e0; obtain ⟨_, _, e1, _, d1⟩ := HL1.out m (by omega); cases e1; rw [Nat.zero_mul, Nat.add_zero] at c1)
      go_quiet (fail)
      go_wp2
      go_ret
      exact ⟨ret_string hv.out.symm, HB1.out.trans ⟨rfl, rfl, rfl, Nat.le_refl _, fun _ _ => rfl⟩⟩
    · obtain rfl : n = 0 := by omega
      have hv := Lib.hid (label_no (n := 0) (I := I) (C := C) (by simp))
      clear hb
      go_enter Tryd.func13, Tryd.ntmps13
      go_wp2_with (go_at_call 26; refine (spec_BatchValid _ _ _ _ _ _ HL.out HF.out hn).mono ?_; rw [HB.out]; rintro e w1 ⟨rfl, b1⟩; have HB1 := Lib.hid b1; have HL1 := Lib.hid (HL.out.on b1); clear b1)
      go_ret
      exact ⟨ret_string hv.out.symm, by first | exact HB1.out | exact Below.refl _ _⟩

set_option maxHeartbeats 1000000 in
theorem impl_LabelOf (w : World) (a : Option Addr) (n c : Nat) (I : Nat → Int) (C : Nat → ByteArray) (h : Lts w a n I C) (hf : Fits n I C) (hn : n ≤ 1048576) :
    Calls Tryd.prog 8 #[.slice a n c] w fun e w' => e = .returned (.string (label n I C)) ∧ Below w.heap.size w w' := by
  have HL := Lib.hid h
  have HF := Lib.hid hf
  clear h hf
  cases hb : M.batch n I C
  · have hv := Lib.hid (label_no (n := n) (I := I) (C := C) (by rw [hb]; simp))
    have h0 := M.batch_pos hb
    have HB := Lib.hid hb
    have b0 : ((n : Int) == 0) = false := by rw [beq_eq_false_iff_ne]; omega
    have b1 : (n == 0) = false := by rw [beq_eq_false_iff_ne]; omega
    clear hb
    go_enter Tryd.func8, Tryd.ntmps8
    go_wp2_with (go_at_call 17; refine (impl_BatchValid _ _ _ _ _ _ HL.out HF.out).mono ?_; rw [HB.out]; rintro e w1 ⟨rfl, b1⟩; have HB1 := Lib.hid b1; have HL1 := Lib.hid (HL.out.on b1); clear b1)
    go_ret
    exact ⟨ret_string hv.out.symm, HB1.out⟩
  · have HB := Lib.hid hb
    by_cases h0 : 0 < n
    · have hv := Lib.hid (label_yes hb h0)
      have b0 : ((n : Int) == 0) = false := by rw [beq_eq_false_iff_ne]; omega
      have b1 : (n == 0) = false := by rw [beq_eq_false_iff_ne]; omega
      obtain ⟨m, rfl⟩ : ∃ m, n = m + 1 := ⟨n - 1, by omega⟩
      obtain ⟨b, o, rfl, c0, c1⟩ := HL.out 0 (by omega)
      have hs0 := (M.code_yes ((M.batch_yes hb).2 0 (by omega)).1).2
      have hs1 := (M.code_yes ((M.batch_yes hb).2 m (by omega)).1).2
      have s0 : IntKind.i64.wrap (((m + 1 : Nat) : Int) - 1) = (m : Int) := by rw [IntWalk.i64_in _ (by omega)]; omega
      have s1 : IntKind.i64.wrap ((m : Int) + 1 - 1) = (m : Int) := by rw [IntWalk.i64_in _ (by omega)]; omega
      have hm0 : (0 : Int) < ((m + 1 : Nat) : Int) := by omega
      have hm1 : (0 : Int) < (m : Int) + 1 := by omega
      clear hb c0 c1
      go_enter Tryd.func8, Tryd.ntmps8
      go_wp2_with (go_at_call 17; refine (impl_BatchValid _ _ _ _ _ _ HL.out HF.out).mono ?_; rw [HB.out]; rintro e w1 ⟨rfl, b1⟩; have HB1 := Lib.hid b1; have HL1 := Lib.hid (HL.out.on b1); clear b1; obtain ⟨_, _, e0, _, c1⟩ := HL1.out 0 (by omega); cases e0; obtain ⟨_, _, e1, _, d1⟩ := HL1.out m (by omega); cases e1; rw [Nat.zero_mul, Nat.add_zero] at c1)
      go_quiet (fail)
      go_wp2
      go_ret
      exact ⟨ret_string hv.out.symm, HB1.out.trans ⟨rfl, rfl, rfl, Nat.le_refl _, fun _ _ => rfl⟩⟩
    · obtain rfl : n = 0 := by omega
      have hv := Lib.hid (label_no (n := 0) (I := I) (C := C) (by simp))
      clear hb
      go_enter Tryd.func8, Tryd.ntmps8
      go_wp2_with (go_at_call 17; refine (impl_BatchValid _ _ _ _ _ _ HL.out HF.out).mono ?_; rw [HB.out]; rintro e w1 ⟨rfl, b1⟩; have HB1 := Lib.hid b1; have HL1 := Lib.hid (HL.out.on b1); clear b1)
      go_ret
      exact ⟨ret_string hv.out.symm, by first | exact HB1.out | exact Below.refl _ _⟩
end Go.Proofs.YtccfjeijnadjfaaDoor
