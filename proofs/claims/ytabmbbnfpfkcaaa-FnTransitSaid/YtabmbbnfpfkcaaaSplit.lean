/-
  What SplitBatch and CountPrefix return, in the program and in the model of the document.
-/
import Derived.Test.YtabmbbnfpfkcaaaPureA
import Derived.Test.YtabmbbnfpfkcaaaRow
import Derived.WalkLawsBesides
import Derived.BigGuard
namespace Go.Proofs.Ytabmbbnfpfkcaaa
open Go.RowKit
open Go.PlainAid (bt get_bt bt_nonneg bt_le)

set_option maxHeartbeats 400000 in
theorem spec_l2Begins (c p : ByteArray) (w : World) :
    Calls Try.prog 80 #[.string c, .string p] w fun e w' => e = .returned (.bool (M.begins c p)) ∧ w = w' := by
  by_cases h : p.size ≤ c.size
  · have hv := Lib.hid (M.begins_long h)
    have hl := Lib.hid (M.list_eq (c.extract 0 p.size) p)
    go_enter Try.func80, Try.ntmps80
    go_wp2
    go_ret
    exact ⟨ret_bool (by rw [hv.out, hl.out]), rfl⟩
  · have hv := Lib.hid (M.begins_short (c := c) (p := p) (by omega))
    go_enter Try.func80, Try.ntmps80
    go_wp2
    go_ret
    exact ⟨ret_bool hv.out.symm, rfl⟩
theorem prefix_long {p : ByteArray} (h : 7 < p.size) : M.prefixOk p = false := by
  unfold M.prefixOk
  rw [decide_eq_false (show ¬ p.size ≤ 7 by omega), Bool.and_false]
theorem prefix_short {p : ByteArray} (h : p.size ≤ 7) : M.prefixOk p = M.digs p := by
  unfold M.prefixOk
  rw [decide_eq_true h, Bool.and_true]
set_option maxHeartbeats 400000 in
theorem impl_prefixValid (p : ByteArray) (w : World) (hp : p.size ≤ maxLen) :
    Calls Try.prog 42 #[.string p] w fun e w' => e = .returned (.bool (M.prefixOk p)) ∧ Below w.heap.size w w' := by
  by_cases h : p.size ≤ 7
  · have hv := Lib.hid (prefix_short h)
    go_enter Try.func42, Try.ntmps42
    go_wp2_with (go_at_call 44; refine (impl_DigitsValid _ _ hp).mono ?_; rintro e w1 ⟨rfl, hb1⟩; replace hb1 := hb1.below)
    go_ret
    exact ⟨ret_bool hv.out.symm, hb1⟩
  · have hv := Lib.hid (prefix_long (p := p) (by omega))
    have hp' := hp
    unfold maxLen at hp'
    go_enter Try.func42, Try.ntmps42
    go_wp2
    go_ret
    exact ⟨ret_bool hv.out.symm, Below.refl _ _⟩
set_option maxHeartbeats 400000 in
theorem spec_l2Prefix (p : ByteArray) (w : World) (hp : p.size ≤ maxLen) :
    Calls Try.prog 66 #[.string p] w fun e w' => e = .returned (.bool (M.prefixOk p)) ∧ w = w' := by
  have hv := Lib.hid (show M.prefixOk p = (M.digs p && decide (p.size ≤ 7)) from rfl)
  have hp' := hp
  unfold maxLen at hp'
  cases hd : M.digs p
  · have HD := Lib.hid hd
    clear hd
    go_enter Try.func66, Try.ntmps66
    go_wp2_with (go_at_call 68; refine (spec_DigitsValid _ _ hp).mono ?_; rw [HD.out]; rintro e w1 ⟨rfl, rfl⟩)
    go_ret
    exact ⟨ret_bool (by rw [hv.out, HD.out]; rfl), rfl⟩
  · have HD := Lib.hid hd
    clear hd
    go_enter Try.func66, Try.ntmps66
    go_wp2_with (go_at_call 68; refine (spec_DigitsValid _ _ hp).mono ?_; rw [HD.out]; rintro e w1 ⟨rfl, rfl⟩)
    go_ret
    exact ⟨ret_bool (by rw [hv.out, HD.out, Bool.true_and]; simp; omega), rfl⟩

/-- Two slices of letters of the call's own, apart, and new memory alone. -/
def Split (W : World) (ok : Bool) (L L' : List (Int × ByteArray)) (e : Ending) (w' : World) : Prop :=
  ∃ v v', e = .returned (.tuple #[v, v', .bool ok]) ∧ Row w' W.heap.size v L ∧ Row w' W.heap.size v' L' ∧ Apart v v' ∧ Below W.heap.size W w'

theorem Row.lower0 {w : World} {base base' : Nat} {v : Value} {L : List (Int × ByteArray)} (h : Row w base v L) (hb : base' ≤ base) : Row w base' v L := by
  refine ⟨h.1, ?_⟩
  rcases h.2 with ⟨rfl, hn⟩ | ⟨g, cap, cur, rfl, hbg, rest⟩
  · exact Or.inl ⟨rfl, hn⟩
  · exact Or.inr ⟨g, cap, cur, rfl, Nat.le_trans hb hbg, rest⟩
/-- Two slices of letters of the call's own, apart, and new memory alone. -/
def Two (W : World) (L L' : List (Int × ByteArray)) (e : Ending) (w' : World) : Prop :=
  ∃ v v', e = .returned (.tuple #[v, v']) ∧ Row w' W.heap.size v L ∧ Row w' W.heap.size v' L' ∧ Apart v v' ∧ Below W.heap.size W w'
theorem ret_split {v v' u u' : Value} {b : Bool} (h : v = u) (h' : v' = u') : Ending.returned (.tuple #[v, v', .bool b]) = .returned (.tuple #[u, u', .bool b]) := by rw [h, h']
theorem two_empty (w : World) : Row ((w.alloc (.cells #[] 58)).alloc (.cells #[] 58)) w.heap.size (.slice (some ⟨w.heap.size, 0, none⟩) 0 0) [] ∧
    Row ((w.alloc (.cells #[] 58)).alloc (.cells #[] 58)) w.heap.size (.slice (some ⟨w.heap.size + 1, 0, none⟩) 0 0) [] ∧ Apart (.slice (some ⟨w.heap.size, 0, none⟩) 0 0) (.slice (some ⟨w.heap.size + 1, 0, none⟩) 0 0) := by
  have h1 : Row (w.alloc (.cells #[] 58)) w.heap.size (.slice (some ⟨w.heap.size, 0, none⟩) 0 0) [] := World.ownsRow_lit (base := w.heap.size) (e := 58) (size := 2) w #[] 0 (Nat.le_refl _) (by unfold maxLen; omega) rfl
  refine ⟨h1.alloc _, ?_, fun b hb e => ?_⟩
  · have := World.ownsRow_lit (base := w.heap.size) (e := 58) (size := 2) (w.alloc (.cells #[] 58)) #[] 0 (by simp) (by unfold maxLen; omega) rfl
    simp only [World.size_alloc] at this
    exact this
  · simp [Value.ownBlock] at hb e
    omega
/-- What SplitBatch returns of letters. -/
def inS (n : Nat) (I : Nat → Int) (C : Nat → ByteArray) (p : ByteArray) : List (Int × ByteArray) := if M.splitOk n I C p = true then M.withP p (M.lst I C n) else []
def outS (n : Nat) (I : Nat → Int) (C : Nat → ByteArray) (p : ByteArray) : List (Int × ByteArray) := if M.splitOk n I C p = true then M.sansP p (M.lst I C n) else []
theorem inS_le (n : Nat) (I : Nat → Int) (C : Nat → ByteArray) (p : ByteArray) : (inS n I C p).length ≤ n := by
  unfold inS; split
  · exact M.withP_le p I C n
  · exact Nat.zero_le _
theorem outS_le (n : Nat) (I : Nat → Int) (C : Nat → ByteArray) (p : ByteArray) : (outS n I C p).length ≤ n := by
  unfold outS; split
  · exact M.sansP_le p I C n
  · exact Nat.zero_le _
end Go.Proofs.Ytabmbbnfpfkcaaa
