/-
  The text of items, in the program; a dash for nothing, in the model of the document.
-/
import Derived.Test.YtcppjkmmmpdchaaDoorTextM
import Derived.Test.YtcppjkmmmpdchaaDoorStr
import Derived.Test.YtcppjkmmmpdchaaDoorShelf
namespace Go.Proofs.YtcppjkmmmpdchaaDoor
open Go.RowKit
set_option linter.unusedVariables false

theorem ret_txt {a b : ByteArray} (h : b = a) : Ending.returned (.string a) = .returned (.string b) := by rw [h]
theorem ne_txt (s : ByteArray) (h : ¬ s.size = 0) : ¬ s.toList = [] := by
  rw [ByteArray.toList_eq]
  intro e
  have h1 : s.data.toList.length = 0 := by rw [e]; rfl
  rw [Array.length_toList] at h1
  have h2 : s.data.size = s.size := rfl
  omega
theorem spec_l2Dash (s : ByteArray) (w : World) :
    Calls Tryd.prog 38 #[.string s] w fun e w' => e = .returned (.string (M.dashed s)) ∧ w = w' := by
  by_cases h0 : s.size = 0
  · obtain rfl : s = ⟨#[]⟩ := by
      apply ByteArray.ext
      exact Array.eq_empty_of_size_eq_zero h0
    have hd : M.dashed ⟨#[]⟩ = ⟨#[45]⟩ := rfl
    have HD := Lib.hid hd
    clear hd
    go_enter Tryd.func38, Tryd.ntmps38
    go_wp2
    go_ret
    exact ⟨ret_txt HD.out, rfl⟩
  · have HD : Hid (M.dashed s = s) := if_neg h0
    have hne := ne_txt s h0
    have hne1 : (s.toList == []) = false := by cases h : s.toList with | nil => exact absurd h hne | cons _ _ => rfl
    have hne2 : s.toList.isEmpty = false := by cases h : s.toList with | nil => exact absurd h hne | cons _ _ => rfl
    go_enter Tryd.func38, Tryd.ntmps38
    go_wp2
    go_ret
    exact ⟨ret_txt HD.out, rfl⟩

end Go.Proofs.YtcppjkmmmpdchaaDoor
