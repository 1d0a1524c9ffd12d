/-
  What SplitBatch and CountPrefix return, in the program and in the model of the document.
-/
import Derived.Test.YtkbebpadbdhnhaaSplitM
import Derived.Test.YtkbebpadbdhnhaaRow
import Derived.WalkLawsBesides
import Derived.BigGuard
namespace Go.Proofs.Ytkbebpadbdhnhaa
open Go.RowKit
open Go.PlainAid (bt get_bt bt_nonneg bt_le)

theorem prefix_long {p : ByteArray} (h : 7 < p.size) : M.prefixOk p = false := by
  unfold M.prefixOk
  rw [decide_eq_false (show ¬ p.size ≤ 7 by omega), Bool.and_false]
theorem prefix_short {p : ByteArray} (h : p.size ≤ 7) : M.prefixOk p = M.digs p := by
  unfold M.prefixOk
  rw [decide_eq_true h, Bool.and_true]
set_option maxHeartbeats 400000 in
theorem impl_prefixValid (p : ByteArray) (w : World) (hp : p.size ≤ maxLen) :
    Calls Try.prog 21 #[.string p] w fun e w' => e = .returned (.bool (M.prefixOk p)) ∧ Below w.heap.size w w' := by
  by_cases h : p.size ≤ 7
  · have hv := Lib.hid (prefix_short h)
    go_enter Try.func21, Try.ntmps21
    go_wp2_with (go_at_call 35; refine (impl_DigitsValid _ _ hp).mono ?_; rintro e w1 ⟨rfl, hb1⟩; replace hb1 := hb1.below)
    go_ret
    exact ⟨ret_bool hv.out.symm, hb1⟩
  · have hv := Lib.hid (prefix_long (p := p) (by omega))
    have hp' := hp
    unfold maxLen at hp'
    go_enter Try.func21, Try.ntmps21
    go_wp2
    go_ret
    exact ⟨ret_bool hv.out.symm, Below.refl _ _⟩
set_option maxHeartbeats 400000 in
theorem spec_l2Prefix (p : ByteArray) (w : World) (hp : p.size ≤ maxLen) :
    Calls Try.prog 30 #[.string p] w fun e w' => e = .returned (.bool (M.prefixOk p)) ∧ w = w' := by
  have hv := Lib.hid (show M.prefixOk p = (M.digs p && decide (p.size ≤ 7)) from rfl)
  have hp' := hp
  unfold maxLen at hp'
  cases hd : M.digs p
  · have HD := Lib.hid hd
    clear hd
    go_enter Try.func30, Try.ntmps30
    go_wp2_with (go_at_call 40; refine (spec_DigitsValid _ _ hp).mono ?_; rw [HD.out]; rintro e w1 ⟨rfl, rfl⟩)
    go_ret
    exact ⟨ret_bool (by rw [hv.out, HD.out]; rfl), rfl⟩
  · have HD := Lib.hid hd
    clear hd
    go_enter Try.func30, Try.ntmps30
    go_wp2_with (go_at_call 40; refine (spec_DigitsValid _ _ hp).mono ?_; rw [HD.out]; rintro e w1 ⟨rfl, rfl⟩)
    go_ret
    exact ⟨ret_bool (by rw [hv.out, HD.out, Bool.true_and]; simp; omega), rfl⟩

theorem ret_split {v v' u u' : Value} {b : Bool} (h : v = u) (h' : v' = u') : Ending.returned (.tuple #[v, v', .bool b]) = .returned (.tuple #[u, u', .bool b]) := by rw [h, h']
/-- What SplitBatch returns of letters. -/
def inS (n : Nat) (I : Nat → Int) (C : Nat → ByteArray) (p : ByteArray) : List (Int × ByteArray) := if M.splitOk n I C p = true then M.withP p (M.lst I C n) else []
def outS (n : Nat) (I : Nat → Int) (C : Nat → ByteArray) (p : ByteArray) : List (Int × ByteArray) := if M.splitOk n I C p = true then M.sansP p (M.lst I C n) else []
theorem inS_le (n : Nat) (I : Nat → Int) (C : Nat → ByteArray) (p : ByteArray) : (inS n I C p).length ≤ n := by
  unfold inS; split
  · exact M.withP_le p I C n
  · exact Nat.zero_le _
theorem outS_le (n : Nat) (I : Nat → Int) (C : Nat → ByteArray) (p : ByteArray) : (outS n I C p).length ≤ n := by
  unfold outS; split
  · exact M.sansP_le p I C n
  · exact Nat.zero_le _
end Go.Proofs.Ytkbebpadbdhnhaa
