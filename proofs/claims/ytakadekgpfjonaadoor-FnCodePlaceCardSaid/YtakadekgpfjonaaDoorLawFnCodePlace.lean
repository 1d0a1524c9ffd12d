/-
  For all slices of bytes, laws.FnCodePlace returns true. Condition: the listed tables of Go's library hold what the program's text lays, to which the card ties them.
-/
import Derived.Test.YtakadekgpfjonaaDoorCards
import Derived.Test.YtakadekgpfjonaaDoorDrawPlace
import Derived.Test.YtakadekgpfjonaaDoorShaped
import Derived.Lay
import Derived.Test.YtakadekgpfjonaaDoorLaidP
import Derived.Test.YtakadekgpfjonaaDoorVars
import Derived.Test.YtakadekgpfjonaaDoorTie
import Derived.LaidMore
import Derived.Stop.Joined
import Derived.SevenTiedAt
import Derived.WalkKit
import Derived.ProofKit
import Derived.OpenShut
import Derived.ShutString
import Derived.ChangeOld
import Derived.Below
import Derived.Handy
import Derived.Lib.Hide
namespace Go.Proofs.YtakadekgpfjonaaDoor.fnCodePlace
open Go.ChangeShapes Go.WideShapes Go.ChangeAt Go.RowKit
open Go.ChangeMaps (open_string shut_string)
open Go.PlainAid (bt get_bt bt_nonneg bt_le)
set_option linter.unusedVariables false

theorem own : ownKnob Tryd.prog.godebug = none := by kernel_rfl
theorem laidOut : laidOutB Tryd.prog = true := by kernel_rfl

set_option maxHeartbeats 4000000 in
set_option maxRecDepth 100000 in
theorem walk (w : World) (a0 : Option Addr) (l0 k0 : Nat) (z0 : List Int) (w0 : IsRow .u8 w a0 l0 k0 z0) (a1 : Option Addr) (l1 k1 : Nat) (z1 : List Int) (w1 : IsRow .u8 w a1 l1 k1 z1) (hL : Laid.parse w) :
    Calls Tryd.prog 4 #[.slice a0 l0 k0, .slice a1 l1 k1] w fun e w' => e = .returned (.bool true) ∧ Below w.heap.size w w' := by
  by_cases hl : 1048576 < l0
  · go_enter Tryd.func4, Tryd.ntmps4
    go_wp2
    go_ret
    exact ⟨rfl, Below.refl _ _⟩
  by_cases hm : 1048576 < l1
  · go_enter Tryd.func4, Tryd.ntmps4
    go_wp2
    go_ret
    exact ⟨rfl, Below.refl _ _⟩
  have RD := Lib.hid (fun (u : World) (hu : Below w.heap.size w u) => DrawParsePlace_any a1 l1 k1 z1 u (by
    rcases w1 with h | ⟨x, hx, q1, q2, q3, q4, q5⟩
    · exact Or.inl h
    · exact Or.inr ⟨x, hx, q1, q2, q3, fun i hi => (hu.cell (p := x.add i) (World.block_lt_of_cell? _ _ (q4 i hi))).trans (q4 i hi), q5⟩))
  clear w1
  go_enter Tryd.func4, Tryd.ntmps4
  go_wp2_with fail
  refine (DrawPlaceOf_any a0 l0 k0 z0 w w0).mono ?_
  rintro e w1 ⟨s, rfl, hs, k1⟩
  have h1 : Below w.heap.size w w1 := k1
  have hsm : s.size ≤ maxLen := by unfold maxLen; omega
  cases hc : M.code s
  · go_wp2_with fail
    refine (impl_PlaceOf_no _ _ hsm hc).mono ?_
    rintro e w2 ⟨rfl, k2⟩
    have h2 : Below w.heap.size w w2 := stepB h1 k2
    have bp := Lib.hid (box_made w2 0 0 0)
    go_wp2_with fail
    refine (spec_PlaceOf_no _ _ hsm hc).mono ?_
    rintro e w3 ⟨rfl, k3⟩
    have h3 : Below w.heap.size w w3 := stepB (h2.alloc h2.size _) k3
    replace bp := Lib.hid (bp.out.on k3)
    obtain ⟨⟨d0bp, d1bp, d2bp⟩, g0bp, g1bp, g2bp⟩ := bp.out
    have n3_p : w2.heap.size ≠ w3.heap.size := Nat.ne_of_lt (World.block_lt_of_cell? _ _ bp.out.1.1)
    replace bp := Lib.hid (bp.out.on (below_alloc w3 (.cells #[.int .i64 0, .int .i64 0, .int .i64 0] 24)))
    have bw := Lib.hid (box_made w3 0 0 0)
    obtain ⟨⟨d0bp, d1bp, d2bp⟩, g0bp, g1bp, g2bp⟩ := bp.out
    go_wp2_with fail
    refine ((impl_CodeValid _ _ hsm).mono (fun e w' h => And.intro h.1 h.2.below)).mono ?_
    rw [hc]
    rintro e w4 ⟨rfl, k4⟩
    have h4 : Below w.heap.size w w4 := stepB (h3.alloc h3.size _) k4
    replace bp := Lib.hid (bp.out.on k4)
    replace bw := Lib.hid (bw.out.on k4)
    obtain ⟨⟨d0bp, d1bp, d2bp⟩, g0bp, g1bp, g2bp⟩ := bp.out
    obtain ⟨⟨d0bw, d1bw, d2bw⟩, g0bw, g1bw, g2bw⟩ := bw.out
    go_wp2_with fail
    refine ((impl_CodeValid _ _ hsm).mono (fun e w' h => And.intro h.1 h.2.below)).mono ?_
    rw [hc]
    rintro e w5 ⟨rfl, k5⟩
    have h5 : Below w.heap.size w w5 := stepB h4 k5
    replace bp := Lib.hid (bp.out.on k5)
    replace bw := Lib.hid (bw.out.on k5)
    obtain ⟨⟨d0bp, d1bp, d2bp⟩, g0bp, g1bp, g2bp⟩ := bp.out
    obtain ⟨⟨d0bw, d1bw, d2bw⟩, g0bw, g1bw, g2bw⟩ := bw.out
    go_wp2
    go_ret
    exact ⟨rfl, by first | exact h5 | (have hz := h5.size; go_grown)⟩
  · have hcd := (M.code_yes hc).1
    obtain ⟨a, ea⟩ : ∃ a, M.area s = a := ⟨_, rfl⟩
    obtain ⟨b, eb⟩ : ∃ b, M.walk s = b := ⟨_, rfl⟩
    obtain ⟨c, ec⟩ : ∃ c, M.point s = c := ⟨_, rfl⟩
    have hp := M.place_of_code hc
    have hq := M.codeOf_place hc
    rw [ea, eb, ec] at hp hq
    have EA := Lib.hid ea
    have EB := Lib.hid eb
    have EC := Lib.hid ec
    have HQ := Lib.hid hq
    clear ea eb ec hq
    go_wp2_with fail
    refine (impl_Place _ _ hc).mono ?_
    rw [EA.out, EB.out, EC.out]
    rintro e w2 ⟨rfl, k2⟩
    have h2 : Below w.heap.size w w2 := stepB h1 k2
    have bp := Lib.hid (box_made w2 a b c)
    go_wp2_with fail
    refine (spec_Place _ _ hc).mono ?_
    rw [EA.out, EB.out, EC.out]
    rintro e w3 ⟨rfl, k3⟩
    have h3 : Below w.heap.size w w3 := stepB (h2.alloc h2.size _) k3
    replace bp := Lib.hid (bp.out.on k3)
    obtain ⟨⟨d0bp, d1bp, d2bp⟩, g0bp, g1bp, g2bp⟩ := bp.out
    have n3_p : w2.heap.size ≠ w3.heap.size := Nat.ne_of_lt (World.block_lt_of_cell? _ _ bp.out.1.1)
    replace bp := Lib.hid (bp.out.on (below_alloc w3 (.cells #[.int .i64 a, .int .i64 b, .int .i64 c] 24)))
    have bw := Lib.hid (box_made w3 a b c)
    obtain ⟨⟨d0bp, d1bp, d2bp⟩, g0bp, g1bp, g2bp⟩ := bp.out
    go_wp2_with fail
    refine ((impl_CodeValid _ _ hsm).mono (fun e w' h => And.intro h.1 h.2.below)).mono ?_
    rw [hc]
    rintro e w4 ⟨rfl, k4⟩
    have h4 : Below w.heap.size w w4 := stepB (h3.alloc h3.size _) k4
    replace bp := Lib.hid (bp.out.on k4)
    replace bw := Lib.hid (bw.out.on k4)
    obtain ⟨⟨d0bp, d1bp, d2bp⟩, g0bp, g1bp, g2bp⟩ := bp.out
    obtain ⟨⟨d0bw, d1bw, d2bw⟩, g0bw, g1bw, g2bw⟩ := bw.out
    go_wp2_with fail
    refine (impl_CodeOf_yes _ _ _ _ (hL.1.below h4) hp).mono ?_
    rw [HQ.out]
    rintro e w5 ⟨rfl, k5⟩
    have h5 : Below w.heap.size w w5 := stepB h4 k5
    replace bp := Lib.hid (bp.out.on k5)
    replace bw := Lib.hid (bw.out.on k5)
    obtain ⟨⟨d0bp, d1bp, d2bp⟩, g0bp, g1bp, g2bp⟩ := bp.out
    obtain ⟨⟨d0bw, d1bw, d2bw⟩, g0bw, g1bw, g2bw⟩ := bw.out
    go_wp2_with fail
    refine (RD.out _ h5).mono ?_
    rintro e w6 ⟨t, rfl, ht, k6⟩
    have h6 : Below w.heap.size w w6 := stepB h5 k6
    replace bp := Lib.hid (bp.out.on k6)
    replace bw := Lib.hid (bw.out.on k6)
    obtain ⟨⟨d0bp, d1bp, d2bp⟩, g0bp, g1bp, g2bp⟩ := bp.out
    obtain ⟨⟨d0bw, d1bw, d2bw⟩, g0bw, g1bw, g2bw⟩ := bw.out
    have htm : t.size ≤ 1048576 := by omega
    cases hi : M.isText t
    · go_wp2_with fail
      refine (impl_ParsePlace_no _ _ (hL.1.below h6) (hL.2.below h6) htm hi).mono ?_
      rintro e w7 ⟨rfl, k7⟩
      have h7 : Below w.heap.size w w7 := stepB h6 k7
      replace bp := Lib.hid (bp.out.on k7)
      replace bw := Lib.hid (bw.out.on k7)
      obtain ⟨⟨d0bp, d1bp, d2bp⟩, g0bp, g1bp, g2bp⟩ := bp.out
      obtain ⟨⟨d0bw, d1bw, d2bw⟩, g0bw, g1bw, g2bw⟩ := bw.out
      have n7_p : w2.heap.size ≠ w7.heap.size := Nat.ne_of_lt (World.block_lt_of_cell? _ _ bp.out.1.1)
      replace bp := Lib.hid (bp.out.on (below_alloc w7 (.cells #[.int .i64 0, .int .i64 0, .int .i64 0] 24)))
      have n7_w : w3.heap.size ≠ w7.heap.size := Nat.ne_of_lt (World.block_lt_of_cell? _ _ bw.out.1.1)
      replace bw := Lib.hid (bw.out.on (below_alloc w7 (.cells #[.int .i64 0, .int .i64 0, .int .i64 0] 24)))
      have bx := Lib.hid (box_made w7 0 0 0)
      obtain ⟨⟨d0bp, d1bp, d2bp⟩, g0bp, g1bp, g2bp⟩ := bp.out
      obtain ⟨⟨d0bw, d1bw, d2bw⟩, g0bw, g1bw, g2bw⟩ := bw.out
      go_wp2_with fail
      refine (spec_ParsePlace_no _ _ hi).mono ?_
      rintro e w8 ⟨rfl, k8⟩
      have h8 : Below w.heap.size w w8 := stepB (h7.alloc h7.size _) k8
      replace bp := Lib.hid (bp.out.on k8)
      replace bw := Lib.hid (bw.out.on k8)
      replace bx := Lib.hid (bx.out.on k8)
      obtain ⟨⟨d0bp, d1bp, d2bp⟩, g0bp, g1bp, g2bp⟩ := bp.out
      obtain ⟨⟨d0bw, d1bw, d2bw⟩, g0bw, g1bw, g2bw⟩ := bw.out
      obtain ⟨⟨d0bx, d1bx, d2bx⟩, g0bx, g1bx, g2bx⟩ := bx.out
      have n8_p : w2.heap.size ≠ w8.heap.size := Nat.ne_of_lt (World.block_lt_of_cell? _ _ bp.out.1.1)
      replace bp := Lib.hid (bp.out.on (below_alloc w8 (.cells #[.int .i64 0, .int .i64 0, .int .i64 0] 24)))
      have n8_w : w3.heap.size ≠ w8.heap.size := Nat.ne_of_lt (World.block_lt_of_cell? _ _ bw.out.1.1)
      replace bw := Lib.hid (bw.out.on (below_alloc w8 (.cells #[.int .i64 0, .int .i64 0, .int .i64 0] 24)))
      have n8_x : w7.heap.size ≠ w8.heap.size := Nat.ne_of_lt (World.block_lt_of_cell? _ _ bx.out.1.1)
      replace bx := Lib.hid (bx.out.on (below_alloc w8 (.cells #[.int .i64 0, .int .i64 0, .int .i64 0] 24)))
      have bq := Lib.hid (box_made w8 0 0 0)
      obtain ⟨⟨d0bp, d1bp, d2bp⟩, g0bp, g1bp, g2bp⟩ := bp.out
      obtain ⟨⟨d0bw, d1bw, d2bw⟩, g0bw, g1bw, g2bw⟩ := bw.out
      obtain ⟨⟨d0bx, d1bx, d2bx⟩, g0bx, g1bx, g2bx⟩ := bx.out
      go_wp2_with fail
      refine ((impl_DigitsValid _ _ hsm).mono (fun e w' h => And.intro h.1 h.2.below)).mono ?_
      rw [hcd]
      rintro e w9 ⟨rfl, k9⟩
      have h9 : Below w.heap.size w w9 := stepB (h8.alloc h8.size _) k9
      replace bp := Lib.hid (bp.out.on k9)
      replace bw := Lib.hid (bw.out.on k9)
      replace bx := Lib.hid (bx.out.on k9)
      replace bq := Lib.hid (bq.out.on k9)
      obtain ⟨⟨d0bp, d1bp, d2bp⟩, g0bp, g1bp, g2bp⟩ := bp.out
      obtain ⟨⟨d0bw, d1bw, d2bw⟩, g0bw, g1bw, g2bw⟩ := bw.out
      obtain ⟨⟨d0bx, d1bx, d2bx⟩, g0bx, g1bx, g2bx⟩ := bx.out
      obtain ⟨⟨d0bq, d1bq, d2bq⟩, g0bq, g1bq, g2bq⟩ := bq.out
      go_wp2
      go_ret
      exact ⟨rfl, by first | exact h9 | (have hz := h9.size; go_grown)⟩
    · obtain ⟨t9, htc, hte⟩ := M.isText_out hi
      have hT := text_of_code htc
      rw [hte] at hT
      obtain ⟨x, ex⟩ : ∃ x, M.area (M.parts t) = x := ⟨_, rfl⟩
      obtain ⟨y, ey⟩ : ∃ y, M.walk (M.parts t) = y := ⟨_, rfl⟩
      obtain ⟨v, ev⟩ : ∃ v, M.point (M.parts t) = v := ⟨_, rfl⟩
      rw [ex, ey, ev] at hT
      have EX := Lib.hid ex
      have EY := Lib.hid ey
      have EV := Lib.hid ev
      have HT := Lib.hid hT
      clear ex ey ev hT hte htc t9
      go_wp2_with fail
      refine (impl_ParsePlace_yes _ _ (hL.1.below h6) (hL.2.below h6) htm hi).mono ?_
      rw [EX.out, EY.out, EV.out]
      rintro e w7 ⟨rfl, k7⟩
      have h7 : Below w.heap.size w w7 := stepB h6 k7
      replace bp := Lib.hid (bp.out.on k7)
      replace bw := Lib.hid (bw.out.on k7)
      obtain ⟨⟨d0bp, d1bp, d2bp⟩, g0bp, g1bp, g2bp⟩ := bp.out
      obtain ⟨⟨d0bw, d1bw, d2bw⟩, g0bw, g1bw, g2bw⟩ := bw.out
      have n7_p : w2.heap.size ≠ w7.heap.size := Nat.ne_of_lt (World.block_lt_of_cell? _ _ bp.out.1.1)
      replace bp := Lib.hid (bp.out.on (below_alloc w7 (.cells #[.int .i64 x, .int .i64 y, .int .i64 v] 24)))
      have n7_w : w3.heap.size ≠ w7.heap.size := Nat.ne_of_lt (World.block_lt_of_cell? _ _ bw.out.1.1)
      replace bw := Lib.hid (bw.out.on (below_alloc w7 (.cells #[.int .i64 x, .int .i64 y, .int .i64 v] 24)))
      have bx := Lib.hid (box_made w7 x y v)
      obtain ⟨⟨d0bp, d1bp, d2bp⟩, g0bp, g1bp, g2bp⟩ := bp.out
      obtain ⟨⟨d0bw, d1bw, d2bw⟩, g0bw, g1bw, g2bw⟩ := bw.out
      go_wp2_with fail
      refine (spec_ParsePlace_yes _ _ hi).mono ?_
      rw [EX.out, EY.out, EV.out]
      rintro e w8 ⟨rfl, k8⟩
      have h8 : Below w.heap.size w w8 := stepB (h7.alloc h7.size _) k8
      replace bp := Lib.hid (bp.out.on k8)
      replace bw := Lib.hid (bw.out.on k8)
      replace bx := Lib.hid (bx.out.on k8)
      obtain ⟨⟨d0bp, d1bp, d2bp⟩, g0bp, g1bp, g2bp⟩ := bp.out
      obtain ⟨⟨d0bw, d1bw, d2bw⟩, g0bw, g1bw, g2bw⟩ := bw.out
      obtain ⟨⟨d0bx, d1bx, d2bx⟩, g0bx, g1bx, g2bx⟩ := bx.out
      have n8_p : w2.heap.size ≠ w8.heap.size := Nat.ne_of_lt (World.block_lt_of_cell? _ _ bp.out.1.1)
      replace bp := Lib.hid (bp.out.on (below_alloc w8 (.cells #[.int .i64 x, .int .i64 y, .int .i64 v] 24)))
      have n8_w : w3.heap.size ≠ w8.heap.size := Nat.ne_of_lt (World.block_lt_of_cell? _ _ bw.out.1.1)
      replace bw := Lib.hid (bw.out.on (below_alloc w8 (.cells #[.int .i64 x, .int .i64 y, .int .i64 v] 24)))
      have n8_x : w7.heap.size ≠ w8.heap.size := Nat.ne_of_lt (World.block_lt_of_cell? _ _ bx.out.1.1)
      replace bx := Lib.hid (bx.out.on (below_alloc w8 (.cells #[.int .i64 x, .int .i64 y, .int .i64 v] 24)))
      have bq := Lib.hid (box_made w8 x y v)
      obtain ⟨⟨d0bp, d1bp, d2bp⟩, g0bp, g1bp, g2bp⟩ := bp.out
      obtain ⟨⟨d0bw, d1bw, d2bw⟩, g0bw, g1bw, g2bw⟩ := bw.out
      obtain ⟨⟨d0bx, d1bx, d2bx⟩, g0bx, g1bx, g2bx⟩ := bx.out
      go_wp2_with fail
      refine ((impl_DigitsValid _ _ hsm).mono (fun e w' h => And.intro h.1 h.2.below)).mono ?_
      rw [hcd]
      rintro e w9 ⟨rfl, k9⟩
      have h9 : Below w.heap.size w w9 := stepB (h8.alloc h8.size _) k9
      replace bp := Lib.hid (bp.out.on k9)
      replace bw := Lib.hid (bw.out.on k9)
      replace bx := Lib.hid (bx.out.on k9)
      replace bq := Lib.hid (bq.out.on k9)
      obtain ⟨⟨d0bp, d1bp, d2bp⟩, g0bp, g1bp, g2bp⟩ := bp.out
      obtain ⟨⟨d0bw, d1bw, d2bw⟩, g0bw, g1bw, g2bw⟩ := bw.out
      obtain ⟨⟨d0bx, d1bx, d2bx⟩, g0bx, g1bx, g2bx⟩ := bx.out
      obtain ⟨⟨d0bq, d1bq, d2bq⟩, g0bq, g1bq, g2bq⟩ := bq.out
      go_wp2_with fail
      refine (impl_FormatPlace _ _ _ _ (hL.1.below h9)).mono ?_
      rw [HT.out]
      rintro e w10 ⟨rfl, k10⟩
      have h10 : Below w.heap.size w w10 := stepB h9 k10
      replace bp := Lib.hid (bp.out.on k10)
      replace bw := Lib.hid (bw.out.on k10)
      replace bx := Lib.hid (bx.out.on k10)
      replace bq := Lib.hid (bq.out.on k10)
      obtain ⟨⟨d0bp, d1bp, d2bp⟩, g0bp, g1bp, g2bp⟩ := bp.out
      obtain ⟨⟨d0bw, d1bw, d2bw⟩, g0bw, g1bw, g2bw⟩ := bw.out
      obtain ⟨⟨d0bx, d1bx, d2bx⟩, g0bx, g1bx, g2bx⟩ := bx.out
      obtain ⟨⟨d0bq, d1bq, d2bq⟩, g0bq, g1bq, g2bq⟩ := bq.out
      go_wp2
      go_ret
      exact ⟨rfl, by first | exact h10 | (have hz := h10.size; go_grown)⟩

set_option maxRecDepth 100000 in
theorem lifted (os : Os) (started : os.Started) (H : Type) (enc : TypeId × Value → H) :
    ReturnsInHanded {} Tryd.checked os 4 .any (fun w args => (Rows.fnCodePlaceSpec.pre enc Tryd.prog Tryd.f4 [] false w args ∧ laidMetH Tryd.prog Rows.fnCodePlaceRow.laid w) ∧ sizedMet enc Tryd.prog Tryd.f4 (OpenSpec.ofChange Rows.fnCodePlaceSpec) false w args)
      (Rows.fnCodePlaceSpec.post enc Tryd.prog Tryd.f4 false true false false) := by
  refine returns_listed (C := Tryd.checked) (X := fun w _ => laidMetH Tryd.prog Rows.fnCodePlaceRow.laid w) (fun _ _ _ hh h => h.of_heap hh) own started (by kernel_rfl) Tryd.func4
    (ChangeSpec.witness_shaped (enc := enc) (C := Tryd.checked) (os := os) (X := fun w _ => laidMetH Tryd.prog Rows.fnCodePlaceRow.laid w) false (World.laidAll Tryd.prog os Rows.fnCodePlaceRow.laid) #[.slice none 0 0, .slice none 0 0] 8 (World.laidAll_os _ _ _) (World.shaped_of_ZipB (by kernel_rfl) (by kernel_rfl)) (by kernel_rfl) (by kernel_rfl) (by kernel_rfl) (Laid.door_parse os _)) ?_
  intro W base args ds gs before hval0 hW hL hsh
  have hval : ∀ (j : Nat) t v, Tryd.f4.params[j]? = some t → args[j]? = some v → Value.okWide Tryd.prog W .any base t v := hval0
  have hW' := hW
  obtain ⟨p, q, hA0, hV, rfl, hfz, hnd⟩ := hW
  have hA : DataW.TrodAll enc Tryd.prog W 0 (fun _ => true) true Tryd.f4.params.toList args.toList ds p := hA0
  rw [Tryd.params4] at hA hval
  obtain ⟨v0, vs0, d0, ds0, p0, q0, hargs, rfl, rfl, h0, r0⟩ := trodAll_cons hA
  obtain ⟨v1, vs1, d1, ds1, p1, q1, rfl, rfl, rfl, h1, r1⟩ := trodAll_cons r0
  obtain ⟨rfl, rfl, rfl⟩ := trodAll_nil r1
  obtain rfl : args = #[v0, v1] := by cases args; simp_all
  obtain ⟨rfl, rfl⟩ := trodVars_none hV
  have g0 := h0
  have lt0 : ∀ x ∈ p0, x.block < W.heap.size := by obtain ⟨m, hm⟩ := g0; exact DataW.trod_lt m _ _ _ hm
  have g1 := h1
  have lt1 : ∀ x ∈ p1, x.block < W.heap.size := by obtain ⟨m, hm⟩ := g1; exact DataW.trod_lt m _ _ _ hm
  obtain ⟨a0, l0, k0, rfl⟩ := okWide_slice Tryd.underlying22 (hval 0 22 v0 rfl rfl)
  obtain ⟨z0, w0⟩ : ∃ zs, IsRow .u8 W a0 l0 k0 zs := by
    obtain ⟨fuel, hf⟩ := h0
    rcases open_ints Tryd.underlying22 Tryd.underlying5 (by kernel_rfl) hf with ⟨hcs, _⟩ | ⟨x, l, c, zs, hcs, _, hl, hm, hz, _, hcell, hwz⟩
    · simp [Value.cells] at hcs
      obtain ⟨rfl, rfl, rfl⟩ := hcs
      exact ⟨[], .inl ⟨rfl, rfl, rfl, rfl⟩⟩
    · simp [Value.cells] at hcs
      obtain ⟨rfl, rfl, rfl⟩ := hcs
      exact ⟨zs, .inr ⟨_, rfl, hl, hm, by simpa using hz, hcell, hwz⟩⟩
  obtain ⟨a1, l1, k1, rfl⟩ := okWide_slice Tryd.underlying22 (hval 1 22 v1 rfl rfl)
  obtain ⟨z1, w1⟩ : ∃ zs, IsRow .u8 W a1 l1 k1 zs := by
    obtain ⟨fuel, hf⟩ := h1
    rcases open_ints Tryd.underlying22 Tryd.underlying5 (by kernel_rfl) hf with ⟨hcs, _⟩ | ⟨x, l, c, zs, hcs, _, hl, hm, hz, _, hcell, hwz⟩
    · simp [Value.cells] at hcs
      obtain ⟨rfl, rfl, rfl⟩ := hcs
      exact ⟨[], .inl ⟨rfl, rfl, rfl, rfl⟩⟩
    · simp [Value.cells] at hcs
      obtain ⟨rfl, rfl, rfl⟩ := hcs
      exact ⟨zs, .inr ⟨_, rfl, hl, hm, by simpa using hz, hcell, hwz⟩⟩
  clear hA0 hval0
  refine (walk W a0 l0 k0 z0 w0 a1 l1 k1 z1 w1 (Laid.of_parse hL hsh)).mono fun e W' ⟨he, bel⟩ => ?_
  subst he
  exact ⟨_, rfl, _, _, _, [], _, [], hW', trodAll_mk1 (shut_bool Tryd.underlying4 _), (trodAll_cons_mk (Below.trod laidOut (by kernel_rfl) (of_decide_eq_true (by kernel_rfl)) g0 bel lt0) (trodAll_cons_mk (Below.trod laidOut (by kernel_rfl) (of_decide_eq_true (by kernel_rfl)) g1 bel lt1) trodAll_mk0)), rfl, bel.frame _, fun h => by cases h⟩

theorem row_holds : Rows.FnCodePlaceSaid :=
  OpenClaim.holds_of_wide 4 Tryd.f4 rfl rfl rfl rfl rfl rfl rfl ⟨rfl, rfl, rfl, rfl, rfl⟩ rfl rfl rfl rfl rfl (by kernel_rfl) Tryd.func4 (by kernel_rfl)
    (of_decide_eq_true (by kernel_rfl)) (by unfold Func.isWrapper; first | (rw [if_pos (by decide +kernel)]; kernel_rfl) | (rw [if_neg (by decide +kernel)]; exact ⟨rfl, rfl⟩))
    (fun os started H enc _ => lifted os started H enc)

theorem proved : Rows.FnCodePlaceCardSaid :=
  Claim7.holds_tied_plain_at .later [] [.data, .data, .data, .data, .pinned] true Rows.fnCodePlaceCard.stood.harness false
    row_holds (fun _ h => by cases h) (by kernel_rfl) (fun _ h => by cases h) fnCodePlace_row_tie rfl ⟨rfl, rfl⟩ (by kernel_rfl) rfl
    (fun f fn hf hfn => by
      obtain rfl : f = 4 := Option.some.inj ((show Tryd.prog.funcNamed Rows.fnCodePlaceRow.func = some 4 by kernel_rfl).symm.trans hf) |>.symm
      obtain rfl : fn = Tryd.f4 := (Option.some.inj (Tryd.func4.symm.trans hfn)).symm
      exact ⟨by kernel_rfl, fun j t ht => by
        rw [Tryd.params4] at ht
        have hm : t ∈ [22, 22] := by simpa using Array.mem_of_getElem? ht
        have hall : ([22, 22].all fun u => !Tryd.prog.wantsStandIn u) = true := by kernel_rfl
        exact (show Tryd.prog.wantsStandIn t = false by simpa using List.all_eq_true.1 hall t hm)⟩)
    (by kernel_rfl)
#print axioms proved
end Go.Proofs.YtakadekgpfjonaaDoor.fnCodePlace
