/-
  For every slice of bytes, laws.FnPlaceCode returns true. Condition: the listed tables of Go's library hold what the program's text lays, to which the card ties them.
-/
import Derived.Test.YtakadekgpfjonaaDoorCards
import Derived.Test.YtakadekgpfjonaaDoorDrawPlace
import Derived.Test.YtakadekgpfjonaaDoorShaped
import Derived.Lay
import Derived.Test.YtakadekgpfjonaaDoorLaidP
import Derived.Test.YtakadekgpfjonaaDoorVars
import Derived.Test.YtakadekgpfjonaaDoorTie
import Derived.LaidMore
import Derived.Stop.Joined
import Derived.SevenTiedAt
import Derived.WalkKit
import Derived.ProofKit
import Derived.OpenShut
import Derived.ShutString
import Derived.ChangeOld
import Derived.Below
import Derived.Handy
import Derived.Lib.Hide
namespace Go.Proofs.YtakadekgpfjonaaDoor.fnPlaceCode
open Go.ChangeShapes Go.WideShapes Go.ChangeAt Go.RowKit
open Go.ChangeMaps (open_string shut_string)
open Go.PlainAid (bt get_bt bt_nonneg bt_le)
set_option linter.unusedVariables false

theorem own : ownKnob Tryd.prog.godebug = none := by kernel_rfl
theorem laidOut : laidOutB Tryd.prog = true := by kernel_rfl

set_option maxHeartbeats 4000000 in
set_option maxRecDepth 100000 in
theorem walk (w : World) (a0 : Option Addr) (l0 k0 : Nat) (z0 : List Int) (w0 : IsRow .u8 w a0 l0 k0 z0) (hL : Laid.parse w) :
    Calls Tryd.prog 3 #[.slice a0 l0 k0] w fun e w' => e = .returned (.bool true) ∧ Below w.heap.size w w' := by
  by_cases hl : 1048576 < l0
  · go_enter Tryd.func3, Tryd.ntmps3
    go_wp2
    go_ret
    exact ⟨rfl, Below.refl _ _⟩
  go_enter Tryd.func3, Tryd.ntmps3
  go_wp2_with fail
  refine (DrawCodeOf_any a0 l0 k0 z0 w w0).mono ?_
  rintro e w1 ⟨x, y, v, rfl, k1⟩
  have h1 : Below w.heap.size w w1 := k1
  have bp := Lib.hid (box_made w1 x y v)
  cases hp : M.placeOk x y v
  · go_wp2_with fail
    refine (impl_CodeOf_no _ _ _ _ hp).mono ?_
    rintro e w2 ⟨rfl, k2⟩
    have h2 : Below w.heap.size w w2 := stepB (h1.alloc h1.size _) k2
    replace bp := Lib.hid (bp.out.on k2)
    obtain ⟨⟨d0bp, d1bp, d2bp⟩, g0bp, g1bp, g2bp⟩ := bp.out
    go_wp2_with fail
    refine (spec_CodeOf_no _ _ _ _ hp).mono ?_
    rintro e w3 ⟨rfl, k3⟩
    have h3 : Below w.heap.size w w3 := stepB h2 k3
    replace bp := Lib.hid (bp.out.on k3)
    obtain ⟨⟨d0bp, d1bp, d2bp⟩, g0bp, g1bp, g2bp⟩ := bp.out
    go_wp2_with fail
    refine ((impl_PlaceValid _ _ _ _).mono (fun e w' h => And.intro h.1 (show Below _ _ w' from by rw [h.2]; exact below_alloc _ _))).mono ?_
    rw [hp]
    rintro e w4 ⟨rfl, k4⟩
    have h4 : Below w.heap.size w w4 := stepB h3 k4
    replace bp := Lib.hid (bp.out.on k4)
    obtain ⟨⟨d0bp, d1bp, d2bp⟩, g0bp, g1bp, g2bp⟩ := bp.out
    go_wp2_with fail
    refine ((impl_PlaceValid _ _ _ _).mono (fun e w' h => And.intro h.1 (show Below _ _ w' from by rw [h.2]; exact below_alloc _ _))).mono ?_
    rw [hp]
    rintro e w5 ⟨rfl, k5⟩
    have h5 : Below w.heap.size w w5 := stepB h4 k5
    replace bp := Lib.hid (bp.out.on k5)
    obtain ⟨⟨d0bp, d1bp, d2bp⟩, g0bp, g1bp, g2bp⟩ := bp.out
    go_wp2
    go_ret
    exact ⟨rfl, by first | exact h5 | (have hz := h5.size; go_grown)⟩
  · obtain ⟨c, hcE⟩ : ∃ c, M.codeOf x y v = c := ⟨_, rfl⟩
    have hcc := M.codeOf_code hp
    obtain ⟨e0, e1, e2⟩ := M.place_codeOf hp
    have hcs := M.codeOf_size x y v
    have hft := M.isText_fmt hcc
    have hpf := M.parts_fmt hcs
    have hts := M.fmt_size hcs
    have hT := text_yes hp
    rw [hcE] at hcc e0 e1 e2 hcs hft hpf hts hT
    generalize M.fmt c = t at *
    have HC := Lib.hid hcE
    have HT := Lib.hid hT
    have E0 := Lib.hid e0
    have E1 := Lib.hid e1
    have E2 := Lib.hid e2
    have HP := Lib.hid hpf
    have u1 : IntKind.i64.wrap ((c.size : Int) + 2) = 9 := by rw [hcs]; rfl
    have u2 : ((t.size : Int) == 9) = true := by rw [hts]; rfl
    have tm : t.size ≤ 1048576 := by omega
    have cm : c.size ≤ maxLen := by unfold maxLen; omega
    clear hcE hT e0 e1 e2 hpf hts hcs
    go_wp2_with fail
    refine (impl_CodeOf_yes _ _ _ _ (hL.1.below (h1.alloc h1.size _)) hp).mono ?_
    rw [HC.out]
    rintro e w2 ⟨rfl, k2⟩
    have h2 : Below w.heap.size w w2 := stepB (h1.alloc h1.size _) k2
    replace bp := Lib.hid (bp.out.on k2)
    obtain ⟨⟨d0bp, d1bp, d2bp⟩, g0bp, g1bp, g2bp⟩ := bp.out
    go_wp2_with fail
    refine (spec_CodeOf_yes _ _ _ _ hp).mono ?_
    rw [HC.out]
    rintro e w3 ⟨rfl, k3⟩
    have h3 : Below w.heap.size w w3 := stepB h2 k3
    replace bp := Lib.hid (bp.out.on k3)
    obtain ⟨⟨d0bp, d1bp, d2bp⟩, g0bp, g1bp, g2bp⟩ := bp.out
    go_wp2_with fail
    refine ((impl_PlaceValid _ _ _ _).mono (fun e w' h => And.intro h.1 (show Below _ _ w' from by rw [h.2]; exact below_alloc _ _))).mono ?_
    rw [hp]
    rintro e w4 ⟨rfl, k4⟩
    have h4 : Below w.heap.size w w4 := stepB h3 k4
    replace bp := Lib.hid (bp.out.on k4)
    obtain ⟨⟨d0bp, d1bp, d2bp⟩, g0bp, g1bp, g2bp⟩ := bp.out
    go_wp2_with fail
    refine (impl_Place _ _ hcc).mono ?_
    rw [E0.out, E1.out, E2.out]
    rintro e w5 ⟨rfl, k5⟩
    have h5 : Below w.heap.size w w5 := stepB h4 k5
    replace bp := Lib.hid (bp.out.on k5)
    obtain ⟨⟨d0bp, d1bp, d2bp⟩, g0bp, g1bp, g2bp⟩ := bp.out
    have n5_p : w1.heap.size ≠ w5.heap.size := Nat.ne_of_lt (World.block_lt_of_cell? _ _ bp.out.1.1)
    replace bp := Lib.hid (bp.out.on (below_alloc w5 (.cells #[.int .i64 x, .int .i64 y, .int .i64 v] 24)))
    have bb := Lib.hid (box_made w5 x y v)
    obtain ⟨⟨d0bp, d1bp, d2bp⟩, g0bp, g1bp, g2bp⟩ := bp.out
    go_wp2_with fail
    refine (impl_FormatPlace _ _ _ _ (hL.1.below (h5.alloc h5.size _))).mono ?_
    rw [HT.out]
    rintro e w6 ⟨rfl, k6⟩
    have h6 : Below w.heap.size w w6 := stepB (h5.alloc h5.size _) k6
    replace bp := Lib.hid (bp.out.on k6)
    replace bb := Lib.hid (bb.out.on k6)
    obtain ⟨⟨d0bp, d1bp, d2bp⟩, g0bp, g1bp, g2bp⟩ := bp.out
    obtain ⟨⟨d0bb, d1bb, d2bb⟩, g0bb, g1bb, g2bb⟩ := bb.out
    go_wp2_with fail
    refine (impl_ParsePlace_yes _ _ (hL.1.below h6) (hL.2.below h6) tm hft).mono ?_
    rw [HP.out, E0.out, E1.out, E2.out]
    rintro e w7 ⟨rfl, k7⟩
    have h7 : Below w.heap.size w w7 := stepB h6 k7
    replace bp := Lib.hid (bp.out.on k7)
    replace bb := Lib.hid (bb.out.on k7)
    obtain ⟨⟨d0bp, d1bp, d2bp⟩, g0bp, g1bp, g2bp⟩ := bp.out
    obtain ⟨⟨d0bb, d1bb, d2bb⟩, g0bb, g1bb, g2bb⟩ := bb.out
    have n7_p : w1.heap.size ≠ w7.heap.size := Nat.ne_of_lt (World.block_lt_of_cell? _ _ bp.out.1.1)
    replace bp := Lib.hid (bp.out.on (below_alloc w7 (.cells #[.int .i64 x, .int .i64 y, .int .i64 v] 24)))
    have n7_b : w5.heap.size ≠ w7.heap.size := Nat.ne_of_lt (World.block_lt_of_cell? _ _ bb.out.1.1)
    replace bb := Lib.hid (bb.out.on (below_alloc w7 (.cells #[.int .i64 x, .int .i64 y, .int .i64 v] 24)))
    have bx := Lib.hid (box_made w7 x y v)
    obtain ⟨⟨d0bp, d1bp, d2bp⟩, g0bp, g1bp, g2bp⟩ := bp.out
    obtain ⟨⟨d0bb, d1bb, d2bb⟩, g0bb, g1bb, g2bb⟩ := bb.out
    go_wp2_with fail
    refine ((impl_CodeValid _ _ cm).mono (fun e w' h => And.intro h.1 h.2.below)).mono ?_
    rw [hcc]
    rintro e w8 ⟨rfl, k8⟩
    have h8 : Below w.heap.size w w8 := stepB (h7.alloc h7.size _) k8
    replace bp := Lib.hid (bp.out.on k8)
    replace bb := Lib.hid (bb.out.on k8)
    replace bx := Lib.hid (bx.out.on k8)
    obtain ⟨⟨d0bp, d1bp, d2bp⟩, g0bp, g1bp, g2bp⟩ := bp.out
    obtain ⟨⟨d0bb, d1bb, d2bb⟩, g0bb, g1bb, g2bb⟩ := bb.out
    obtain ⟨⟨d0bx, d1bx, d2bx⟩, g0bx, g1bx, g2bx⟩ := bx.out
    go_wp2_with fail
    refine (impl_FormatPlace _ _ _ _ (hL.1.below h8)).mono ?_
    rw [HT.out]
    rintro e w9 ⟨rfl, k9⟩
    have h9 : Below w.heap.size w w9 := stepB h8 k9
    replace bp := Lib.hid (bp.out.on k9)
    replace bb := Lib.hid (bb.out.on k9)
    replace bx := Lib.hid (bx.out.on k9)
    obtain ⟨⟨d0bp, d1bp, d2bp⟩, g0bp, g1bp, g2bp⟩ := bp.out
    obtain ⟨⟨d0bb, d1bb, d2bb⟩, g0bb, g1bb, g2bb⟩ := bb.out
    obtain ⟨⟨d0bx, d1bx, d2bx⟩, g0bx, g1bx, g2bx⟩ := bx.out
    go_wp2
    go_ret
    exact ⟨rfl, by first | exact h9 | (have hz := h9.size; go_grown)⟩

set_option maxRecDepth 100000 in
theorem lifted (os : Os) (started : os.Started) (H : Type) (enc : TypeId × Value → H) :
    ReturnsInHanded {} Tryd.checked os 3 .any (fun w args => (Rows.fnPlaceCodeSpec.pre enc Tryd.prog Tryd.f3 [] false w args ∧ laidMetH Tryd.prog Rows.fnPlaceCodeRow.laid w) ∧ sizedMet enc Tryd.prog Tryd.f3 (OpenSpec.ofChange Rows.fnPlaceCodeSpec) false w args)
      (Rows.fnPlaceCodeSpec.post enc Tryd.prog Tryd.f3 false true false false) := by
  refine returns_listed (C := Tryd.checked) (X := fun w _ => laidMetH Tryd.prog Rows.fnPlaceCodeRow.laid w) (fun _ _ _ hh h => h.of_heap hh) own started (by kernel_rfl) Tryd.func3
    (ChangeSpec.witness_shaped (enc := enc) (C := Tryd.checked) (os := os) (X := fun w _ => laidMetH Tryd.prog Rows.fnPlaceCodeRow.laid w) false (World.laidAll Tryd.prog os Rows.fnPlaceCodeRow.laid) #[.slice none 0 0] 8 (World.laidAll_os _ _ _) (World.shaped_of_ZipB (by kernel_rfl) (by kernel_rfl)) (by kernel_rfl) (by kernel_rfl) (by kernel_rfl) (Laid.door_parse os _)) ?_
  intro W base args ds gs before hval0 hW hL hsh
  have hval : ∀ (j : Nat) t v, Tryd.f3.params[j]? = some t → args[j]? = some v → Value.okWide Tryd.prog W .any base t v := hval0
  have hW' := hW
  obtain ⟨p, q, hA0, hV, rfl, hfz, hnd⟩ := hW
  have hA : DataW.TrodAll enc Tryd.prog W 0 (fun _ => true) true Tryd.f3.params.toList args.toList ds p := hA0
  rw [Tryd.params3] at hA hval
  obtain ⟨v0, vs0, d0, ds0, p0, q0, hargs, rfl, rfl, h0, r0⟩ := trodAll_cons hA
  obtain ⟨rfl, rfl, rfl⟩ := trodAll_nil r0
  obtain rfl : args = #[v0] := by cases args; simp_all
  obtain ⟨rfl, rfl⟩ := trodVars_none hV
  have g0 := h0
  have lt0 : ∀ x ∈ p0, x.block < W.heap.size := by obtain ⟨m, hm⟩ := g0; exact DataW.trod_lt m _ _ _ hm
  obtain ⟨a0, l0, k0, rfl⟩ := okWide_slice Tryd.underlying22 (hval 0 22 v0 rfl rfl)
  obtain ⟨z0, w0⟩ : ∃ zs, IsRow .u8 W a0 l0 k0 zs := by
    obtain ⟨fuel, hf⟩ := h0
    rcases open_ints Tryd.underlying22 Tryd.underlying5 (by kernel_rfl) hf with ⟨hcs, _⟩ | ⟨x, l, c, zs, hcs, _, hl, hm, hz, _, hcell, hwz⟩
    · simp [Value.cells] at hcs
      obtain ⟨rfl, rfl, rfl⟩ := hcs
      exact ⟨[], .inl ⟨rfl, rfl, rfl, rfl⟩⟩
    · simp [Value.cells] at hcs
      obtain ⟨rfl, rfl, rfl⟩ := hcs
      exact ⟨zs, .inr ⟨_, rfl, hl, hm, by simpa using hz, hcell, hwz⟩⟩
  clear hA0 hval0
  refine (walk W a0 l0 k0 z0 w0 (Laid.of_parse hL hsh)).mono fun e W' ⟨he, bel⟩ => ?_
  subst he
  exact ⟨_, rfl, _, _, _, [], _, [], hW', trodAll_mk1 (shut_bool Tryd.underlying4 _), (trodAll_cons_mk (Below.trod laidOut (by kernel_rfl) (of_decide_eq_true (by kernel_rfl)) g0 bel lt0) trodAll_mk0), rfl, bel.frame _, fun h => by cases h⟩

theorem row_holds : Rows.FnPlaceCodeSaid :=
  OpenClaim.holds_of_wide 3 Tryd.f3 rfl rfl rfl rfl rfl rfl rfl ⟨rfl, rfl, rfl, rfl, rfl⟩ rfl rfl rfl rfl rfl (by kernel_rfl) Tryd.func3 (by kernel_rfl)
    (of_decide_eq_true (by kernel_rfl)) (by unfold Func.isWrapper; first | (rw [if_pos (by decide +kernel)]; kernel_rfl) | (rw [if_neg (by decide +kernel)]; exact ⟨rfl, rfl⟩))
    (fun os started H enc _ => lifted os started H enc)

theorem proved : Rows.FnPlaceCodeCardSaid :=
  Claim7.holds_tied_plain_at .later [] [.data, .data, .data, .data, .pinned] true Rows.fnPlaceCodeCard.stood.harness false
    row_holds (fun _ h => by cases h) (by kernel_rfl) (fun _ h => by cases h) fnPlaceCode_row_tie rfl ⟨rfl, rfl⟩ (by kernel_rfl) rfl
    (fun f fn hf hfn => by
      obtain rfl : f = 3 := Option.some.inj ((show Tryd.prog.funcNamed Rows.fnPlaceCodeRow.func = some 3 by kernel_rfl).symm.trans hf) |>.symm
      obtain rfl : fn = Tryd.f3 := (Option.some.inj (Tryd.func3.symm.trans hfn)).symm
      exact ⟨by kernel_rfl, fun j t ht => by
        rw [Tryd.params3] at ht
        have hm : t ∈ [22] := by simpa using Array.mem_of_getElem? ht
        have hall : ([22].all fun u => !Tryd.prog.wantsStandIn u) = true := by kernel_rfl
        exact (show Tryd.prog.wantsStandIn t = false by simpa using List.all_eq_true.1 hall t hm)⟩)
    (by kernel_rfl)
#print axioms proved
end Go.Proofs.YtakadekgpfjonaaDoor.fnPlaceCode
