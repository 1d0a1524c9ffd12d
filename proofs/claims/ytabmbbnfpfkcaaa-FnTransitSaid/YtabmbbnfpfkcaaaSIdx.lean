/-
  What slices.Index and slices.Contains return of strings.
-/
import Derived.Test.YtabmbbnfpfkcaaaRank
namespace Go.Proofs.Ytabmbbnfpfkcaaa
open Go.RowKit
open Go.PlainAid (bt get_bt bt_nonneg bt_le)

set_option maxHeartbeats 400000 in
theorem contains_str (w : World) (a : Option Addr) (n c : Nat) (S : Nat → ByteArray) (h : Strs w a n S) (hn : n ≤ 1048576) (x : ByteArray) :
    Calls Try.prog 75 #[.slice a n c, .string x] w fun e w' => e = .returned (.bool (decide (0 ≤ M.rankTo S x n))) ∧ w = w' := by
  have HL := Lib.hid h
  have HX := Lib.hid (slices_Index w a n c S HL.out hn x)
  obtain ⟨r, hr⟩ : ∃ r, M.rankTo S x n = r := ⟨_, rfl⟩
  rw [hr] at HX ⊢
  clear h hr
  go_enter Try.func75, Try.ntmps75
  go_wp2_with (go_at_call 84; refine HX.out.mono ?_; rintro e w1 ⟨rfl, rfl⟩)
  go_ret
  exact ⟨rfl, rfl⟩
end Go.Proofs.Ytabmbbnfpfkcaaa
