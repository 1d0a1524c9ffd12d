/-
  slices.Grow of nothing and slices.Concat of two slices of strings.
-/
import Derived.Test.YtjabpidmfgcamaaDoorSCl
import Derived.Lib.AppendZerosOnto
import Derived.IntWalk
namespace Go.Proofs.YtjabpidmfgcamaaDoor
open Go.RowKit Go.Lib
open Go.PlainAid (bt get_bt bt_nonneg bt_le)
set_option linter.unusedVariables false

set_option maxHeartbeats 2000000 in
set_option maxRecDepth 100000 in
theorem sgrow_nil (w : World) (n : Nat) (hn : n ≤ 4194304) :
    Calls Tryd.prog 31 #[.slice none 0 0, .int .i64 n] w (SRowOut w []) := by
  obtain ⟨i0, hi, hz0, hz1, hz2⟩ := info_parts info_string
  by_cases h0 : n = 0
  · subst h0
    go_enter Tryd.func31, Tryd.ntmps31
    go_wp2
    go_ret
    exact ⟨_, rfl, SRow.nil _ _, Below.refl _ _⟩
  have hold : (Builtin.firstCells i0.size 0 (.slice none 0 0)).run Tryd.prog w.drew = .ok ([] : List Value).toArray w.drew := run_firstCells_none w.drew i0.size 0 0 0
  have hrun : ∀ ty, (Builtin.append_ #[23, 3] ty #[.slice none 0 0, .int .i64 (n : Int)]).run Tryd.prog w = _ := fun ty =>
    run_append_grow_zeros w 23 3 ty 9 i0 _ .i64 .i64 Tryd.underlying23 Tryd.underlying3 hi hz0 none 0 0 [] hold n (by omega) (by omega) (by omega) (by omega) (by rw [hz2]; omega)
      (by have := growslice_fits (need := 0 + n) (old := 0) (bytes := i0.bytes) (by omega) (by rw [hz2]; omega); exact this)
  have hge : 0 + n ≤ grownCap w (0 + n) 0 9 := grownCap_ge w _ _ _
  have hle := grownCap_le_maxLen w (0 + n) 0 9 (by unfold maxLen; omega)
  obtain ⟨G, hG⟩ : ∃ G, grownCap w (0 + n) 0 9 = G := ⟨_, rfl⟩
  rw [hG] at hrun hge hle
  rw [Nat.zero_add] at hrun hge
  have hG63 : G ≤ 9223372036854775807 := by unfold maxLen at hle; omega
  obtain ⟨CC, hCC⟩ : ∃ CC, (([] : List Value).toArray ++ Builtin.zeroCells (Value.string ⟨#[]⟩).cells n ++ Builtin.zeroCells (Value.string ⟨#[]⟩).cells (G - n)) = CC := ⟨_, rfl⟩
  rw [hCC] at hrun
  have hsz : CC.size = G := by
    rw [← hCC]
    simp [Builtin.zeroCells, Value.cells]
    omega
  have hni : (0 : Int) < (n : Int) := by omega
  have HSZ := Lib.hid hsz
  clear hold hG hCC hsz
  go_enter Tryd.func31, Tryd.ntmps31
  go_wp2_with (at_builtin; refine Lib.wpList_append_run _ rfl _ _ _ _ rfl _ _ rfl rfl _ _ (hrun _) ?_)
  all_goals
    go_ret
    refine ⟨_, rfl, ⟨rfl, Or.inr ⟨w.heap.size, G, CC, rfl, Nat.le_refl _, heap_alloc_new w _, Nat.zero_le _, hle, by have := HSZ.out; omega, rfl⟩⟩, by go_grown⟩


set_option maxHeartbeats 2000000 in
set_option maxRecDepth 100000 in
theorem sslices_Concat2 (w : World) (B : Nat) (a1 a2 : Option Addr) (n1 c1 n2 c2 : Nat) (F1 F2 : Nat → ByteArray) (h1 : Strs w a1 n1 F1) (h2 : Strs w a2 n2 F2) (b0 : w.cell? ⟨B, 0, none⟩ = some (.slice a1 n1 c1)) (b1 : w.cell? ⟨B, 1, none⟩ = some (.slice a2 n2 c2)) (hn : n1 + n2 ≤ 1048576) :
    Calls Tryd.prog 15 #[.slice (some ⟨B, 0, none⟩) 2 2] w (SRowOut w (sst F1 n1 ++ sst F2 n2)) := by
  have H1 := Lib.hid h1
  have H2 := Lib.hid h2
  have HB := Lib.hid (And.intro b0 b1)
  have hlB := World.block_lt_of_cell? _ _ b0
  have hl1 := Lib.hid (sst_length F1 n1)
  clear h1 h2
  go_enter Tryd.func15, Tryd.ntmps15
  go_wp2
  go_loop [3, 11] (fun s i => (i = .int .i64 ((0 : Nat) : Int) ∧ s = .int .i64 ((0 : Nat) : Int)) ∨ (i = .int .i64 ((1 : Nat) : Int) ∧ s = .int .i64 (n1 : Int)) ∨ (i = .int .i64 ((2 : Nat) : Int) ∧ s = .int .i64 ((n1 + n2 : Nat) : Int))) (fun _ i => 2 - (intOf i).toNat)
  case atStart => exact Or.inl ⟨rfl, rfl⟩
  case round =>
    rcases hrel with ⟨rfl, rfl⟩ | ⟨rfl, rfl⟩ | ⟨rfl, rfl⟩
    · go_wp2
      go_round
      case rel => exact Or.inr (Or.inl ⟨by go_num, by go_num⟩)
      case measure => simp [intOf]
    · go_wp2
      go_round
      case rel => exact Or.inr (Or.inr ⟨by go_num, by go_num⟩)
      case measure => simp [intOf]
    · go_wp2_with fail
      refine (sgrow_nil w (n1 + n2) (by omega)).mono ?_
      rintro e w1 ⟨v, rfl, r1, hb1⟩
      have R1 := Lib.hid r1
      have K1 := Lib.hid hb1
      clear r1 hb1
      go_wp2
      go_loopw [6, 27] (fun q i wr => ∃ k : Nat, ((k = 0 ∧ i = .int .i64 ((0 : Nat) : Int) ∧ Hid (SRow wr w.heap.size q [])) ∨ (k = 1 ∧ i = .int .i64 ((1 : Nat) : Int) ∧ Hid (SRow wr w.heap.size q (sst F1 n1))) ∨ (k = 2 ∧ i = .int .i64 ((2 : Nat) : Int) ∧ Hid (SRow wr w.heap.size q (sst F1 n1 ++ sst F2 n2)))) ∧ Hid (Below w.heap.size w wr)) (fun _ i _ => 2 - (intOf i).toNat)
      case atStart => exact ⟨0, Or.inl ⟨rfl, rfl, R1⟩, K1⟩
      case round =>
        obtain ⟨k, hcase, hb⟩ := hrel
        have hz := hb.out.size
        have b0 := (hb.out.cell (p := ⟨B, 0, none⟩) hlB).trans HB.out.1
        have b1 := (hb.out.cell (p := ⟨B, 1, none⟩) hlB).trans HB.out.2
        have HA := Lib.hid (H1.out.on hb.out)
        have HC := Lib.hid (H2.out.on hb.out)
        rcases hcase with ⟨_, rfl, hr⟩ | ⟨_, rfl, hr⟩ | ⟨_, rfl, hr⟩
        · go_wp2_with (at_builtin; refine wpList_append_strs _ rfl _ _ rfl w.heap.size _ [] rfl hr.out _ n1 c1 F1 rfl HA.out (by simp; omega) (by omega) ?_; intro v2 w3 r2 gr2 ho2; have R2 : Hid (SRow w3 w.heap.size v2 (sst F1 n1)) := r2; have K2 : Hid (Below w.heap.size w w3) := hb.out.grown gr2 hz (fun q e => (hr.out.lt q e).1); clear r2 gr2 ho2)
          go_roundw
          case rel => exact ⟨1, Or.inr (Or.inl ⟨rfl, by go_num, R2⟩), K2⟩
          case measure => simp [intOf]
        · go_wp2_with (at_builtin; refine wpList_append_strs _ rfl _ _ rfl w.heap.size _ (sst F1 n1) rfl hr.out _ n2 c2 F2 rfl HC.out (by rw [hl1.out]; omega) (by omega) ?_; intro v2 w3 r2 gr2 ho2; have R2 : Hid (SRow w3 w.heap.size v2 (sst F1 n1 ++ sst F2 n2)) := r2; have K2 : Hid (Below w.heap.size w w3) := hb.out.grown gr2 hz (fun q e => (hr.out.lt q e).1); clear r2 gr2 ho2)
          go_roundw
          case rel => exact ⟨2, Or.inr (Or.inr ⟨rfl, by go_num, R2⟩), K2⟩
          case measure => simp [intOf]
        · go_wp2
          go_ret
          exact ⟨_, rfl, hr.out, hb.out⟩

end Go.Proofs.YtjabpidmfgcamaaDoor
