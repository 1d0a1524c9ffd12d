/-
  What ReadEither returns, in the program and in the model of the document.
-/
import Derived.Test.YthpdcilffbffoaaDoorRead
namespace Go.Proofs.YthpdcilffbffoaaDoor
open Go.RowKit
open Go.PlainAid (bt get_bt bt_nonneg bt_le)

/-- The code that is read from one side alone. -/
def eith (o t : Option ByteArray) : Value := match o, t with
  | some c, none => .tuple #[.string c, .bool false, .bool true]
  | none, some d => .tuple #[.string d, .bool true, .bool true]
  | _, _ => .tuple #[.string ⟨#[]⟩, .bool false, .bool false]

set_option maxHeartbeats 1000000 in
theorem impl_ReadEither (b : ByteArray) (w : World) (hs : b.size ≤ 1048576) (hL : Laid.read w) :
    Calls Tryd.prog 22 #[.string b] w fun e w' => e = .returned (eith (M.readB b) (M.readB (turn b))) ∧ Below w.heap.size w w' := by
  obtain ⟨o, ho⟩ : ∃ o, M.readB b = o := ⟨_, rfl⟩
  obtain ⟨t, ht⟩ : ∃ t, M.readB (turn b) = t := ⟨_, rfl⟩
  have HO := Lib.hid ho
  have HT := Lib.hid ht
  rw [ho, ht]
  clear ho ht
  cases o with
  | none =>
    cases t with
    | none =>
      go_enter Tryd.func22, Tryd.ntmps22
      go_wp2_with fail
      refine (impl_ReadBars _ _ hL).mono ?_
      rw [HO.out, M.ans_none]
      rintro e w1 ⟨rfl, k1⟩
      go_wp2_with fail
      refine (impl_TurnBars _ _ (by omega)).mono ?_
      rintro e w2 ⟨rfl, k2⟩
      go_wp2_with fail
      refine (impl_ReadBars _ _ ((hL.below k1).below k2)).mono ?_
      rw [HT.out, M.ans_none]
      rintro e w3 ⟨rfl, k3⟩
      go_wp2
      go_ret3
      exact ⟨rfl, stepR (stepR k1 k2) k3⟩
    | some d =>
      go_enter Tryd.func22, Tryd.ntmps22
      go_wp2_with fail
      refine (impl_ReadBars _ _ hL).mono ?_
      rw [HO.out, M.ans_none]
      rintro e w1 ⟨rfl, k1⟩
      go_wp2_with fail
      refine (impl_TurnBars _ _ (by omega)).mono ?_
      rintro e w2 ⟨rfl, k2⟩
      go_wp2_with fail
      refine (impl_ReadBars _ _ ((hL.below k1).below k2)).mono ?_
      rw [HT.out, M.ans_some]
      rintro e w3 ⟨rfl, k3⟩
      go_wp2
      go_ret3
      exact ⟨rfl, stepR (stepR k1 k2) k3⟩
  | some c =>
    cases t with
    | none =>
      go_enter Tryd.func22, Tryd.ntmps22
      go_wp2_with fail
      refine (impl_ReadBars _ _ hL).mono ?_
      rw [HO.out, M.ans_some]
      rintro e w1 ⟨rfl, k1⟩
      go_wp2_with fail
      refine (impl_TurnBars _ _ (by omega)).mono ?_
      rintro e w2 ⟨rfl, k2⟩
      go_wp2_with fail
      refine (impl_ReadBars _ _ ((hL.below k1).below k2)).mono ?_
      rw [HT.out, M.ans_none]
      rintro e w3 ⟨rfl, k3⟩
      go_wp2
      go_ret3
      exact ⟨rfl, stepR (stepR k1 k2) k3⟩
    | some d =>
      go_enter Tryd.func22, Tryd.ntmps22
      go_wp2_with fail
      refine (impl_ReadBars _ _ hL).mono ?_
      rw [HO.out, M.ans_some]
      rintro e w1 ⟨rfl, k1⟩
      go_wp2_with fail
      refine (impl_TurnBars _ _ (by omega)).mono ?_
      rintro e w2 ⟨rfl, k2⟩
      go_wp2_with fail
      refine (impl_ReadBars _ _ ((hL.below k1).below k2)).mono ?_
      rw [HT.out, M.ans_some]
      rintro e w3 ⟨rfl, k3⟩
      go_wp2
      go_ret3
      exact ⟨rfl, stepR (stepR k1 k2) k3⟩

set_option maxHeartbeats 1000000 in
theorem spec_ReadEither (b : ByteArray) (w : World) (hs : b.size ≤ 1048576) :
    Calls Tryd.prog 23 #[.string b] w fun e w' => e = .returned (eith (M.readB b) (M.readB (turn b))) ∧ Below w.heap.size w w' := by
  obtain ⟨o, ho⟩ : ∃ o, M.readB b = o := ⟨_, rfl⟩
  obtain ⟨t, ht⟩ : ∃ t, M.readB (turn b) = t := ⟨_, rfl⟩
  have HO := Lib.hid ho
  have HT := Lib.hid ht
  rw [ho, ht]
  clear ho ht
  cases o with
  | none =>
    cases t with
    | none =>
      go_enter Tryd.func23, Tryd.ntmps23
      go_wp2_with fail
      refine (spec_ReadBars _ _).mono ?_
      rw [HO.out, M.ans_none]
      rintro e w1 ⟨rfl, k1⟩
      go_wp2_with fail
      refine (spec_TurnBars _ _ (by omega)).mono ?_
      rintro e w2 ⟨rfl, k2⟩
      go_wp2_with fail
      refine (spec_ReadBars _ _).mono ?_
      rw [HT.out, M.ans_none]
      rintro e w3 ⟨rfl, k3⟩
      go_wp2
      go_ret3
      exact ⟨rfl, stepR (stepR k1 k2) k3⟩
    | some d =>
      go_enter Tryd.func23, Tryd.ntmps23
      go_wp2_with fail
      refine (spec_ReadBars _ _).mono ?_
      rw [HO.out, M.ans_none]
      rintro e w1 ⟨rfl, k1⟩
      go_wp2_with fail
      refine (spec_TurnBars _ _ (by omega)).mono ?_
      rintro e w2 ⟨rfl, k2⟩
      go_wp2_with fail
      refine (spec_ReadBars _ _).mono ?_
      rw [HT.out, M.ans_some]
      rintro e w3 ⟨rfl, k3⟩
      go_wp2
      go_ret3
      exact ⟨rfl, stepR (stepR k1 k2) k3⟩
  | some c =>
    cases t with
    | none =>
      go_enter Tryd.func23, Tryd.ntmps23
      go_wp2_with fail
      refine (spec_ReadBars _ _).mono ?_
      rw [HO.out, M.ans_some]
      rintro e w1 ⟨rfl, k1⟩
      go_wp2_with fail
      refine (spec_TurnBars _ _ (by omega)).mono ?_
      rintro e w2 ⟨rfl, k2⟩
      go_wp2_with fail
      refine (spec_ReadBars _ _).mono ?_
      rw [HT.out, M.ans_none]
      rintro e w3 ⟨rfl, k3⟩
      go_wp2
      go_ret3
      exact ⟨rfl, stepR (stepR k1 k2) k3⟩
    | some d =>
      go_enter Tryd.func23, Tryd.ntmps23
      go_wp2_with fail
      refine (spec_ReadBars _ _).mono ?_
      rw [HO.out, M.ans_some]
      rintro e w1 ⟨rfl, k1⟩
      go_wp2_with fail
      refine (spec_TurnBars _ _ (by omega)).mono ?_
      rintro e w2 ⟨rfl, k2⟩
      go_wp2_with fail
      refine (spec_ReadBars _ _).mono ?_
      rw [HT.out, M.ans_some]
      rintro e w3 ⟨rfl, k3⟩
      go_wp2
      go_ret3
      exact ⟨rfl, stepR (stepR k1 k2) k3⟩

theorem turn_turn (s : ByteArray) : turn (turn s) = s := by
  unfold turn
  apply ByteArray.ext
  apply Array.toList_inj.1
  simp
end Go.Proofs.YthpdcilffbffoaaDoor
