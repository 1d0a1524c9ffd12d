/-
  Passes from the last digit on: behind each pass the letters ascend by the digits from it on.
-/
import Derived.Test.YtedhenffolfkeaaStbH
namespace Go.Proofs.Ytedhenffolfkeaa
open Go.RowKit
set_option linter.unusedVariables false

theorem ext_drop (s : ByteArray) (q : Nat) : (s.extract q s.size).toList = s.data.toList.drop q := by
  rw [ByteArray.toList_eq, ByteArray.data_extract, Array.toList_extract, List.extract]
  refine List.take_of_length_le ?_
  rw [List.length_drop]
  exact Nat.le_refl _
theorem pass_next7 {L : List (Int × ByteArray)} (hL : BatchL L) {k : Nat} (hk : k < 7) {R : List (Int × ByteArray)} (hR : passS L (k + 1) = R) {i : Nat} (hi : i + 1 < R.length) :
    Op.bytesLess ((nC R (i + 1)).extract (6 - k) (nC R (i + 1)).size).toList ((nC R i).extract (6 - k) (nC R i).size).toList = false ∧ (nC R (i + 1)).size = 7 ∧ (nC R i).size = 7 := by
  subst hR
  obtain ⟨pos, _, hp⟩ := exists_pos hL
  have hb := (pass_batchS hL (k + 1) (by omega)).1
  have hs := List.pairwise_iff_getElem.1 (pass_pw hL hp (k + 1) (by omega)) i (i + 1) (by omega) hi (by omega)
  have hi0 : i < (passS L (k + 1)).length := by omega
  rw [nC_at hi, nC_at hi0]
  refine ⟨?_, (M.code_yes (hb.1 _ (List.getElem_mem hi)).1).2, (M.code_yes (hb.1 _ (List.getElem_mem hi0)).1).2⟩
  rw [ext_drop, ext_drop]
  rw [show 7 - (k + 1) = 6 - k by omega] at hs
  rcases hs with hs | ⟨hs, _⟩
  · exact bl_asym hs
  · rw [hs]; exact bl_irr _
theorem pass_res {L : List (Int × ByteArray)} (hL : BatchL L) {k : Nat} (hk : k < 7) (W : World) :
    RowRes W (M.binOk (passS L k).length (nI (passS L k)) (nC (passS L k)) ((6 - k : Nat) : Int)) (M.passL (passS L k).length (nI (passS L k)) (nC (passS L k)) ((6 - k : Nat) : Int)) = RowRes W true (passS L (k + 1)) := by
  have hb := (pass_batchS hL k (by omega)).1
  have hok : M.binOk (passS L k).length (nI (passS L k)) (nC (passS L k)) ((6 - k : Nat) : Int) = true := by
    unfold M.binOk
    rw [(batchL_list _).2 hb, decide_eq_true (show (0 : Int) ≤ ((6 - k : Nat) : Int) ∧ ((6 - k : Nat) : Int) ≤ 6 by omega)]
    rfl
  have e : M.passL (passS L k).length (nI (passS L k)) (nC (passS L k)) ((6 - k : Nat) : Int) = passS L (k + 1) := by
    unfold M.passL
    rw [hok, if_pos rfl, Int.toNat_natCast]
    rfl
  rw [hok, e]
end Go.Proofs.Ytedhenffolfkeaa
