/-
  Orders of some slices, one behind the other, and whether two lists of orders send all letters to the same ends.
-/
import Derived.Test.YtekkajgifgnklaaLong
import Derived.Test.YtekkajgifgnklaaDel
import Derived.Lib.AppendZerosOnto
import Derived.Lib.SliceRun
namespace Go.Proofs.Ytekkajgifgnklaa
open Go.RowKit Go.Maps Go.Lib
open Go.PlainAid (bt get_bt bt_nonneg bt_le)
set_option linter.unusedVariables false

set_option maxHeartbeats 2000000 in
set_option maxRecDepth 100000 in
theorem grow_nilF (w : World) (n : Nat) (hn : n ≤ 4194304) :
    Calls Try.prog 57 #[.slice none 0 0, .int .i64 n] w (FRowOut w []) := by
  obtain ⟨i0, hi, hz0, hz1, hz2⟩ := info_parts info_forward
  by_cases h0 : n = 0
  · subst h0
    go_enter Try.func57, Try.ntmps57
    go_wp2
    go_ret
    exact ⟨_, rfl, FRow.nil _ _, Below.refl _ _⟩
  have hold : (Builtin.firstCells i0.size 0 (.slice none 0 0)).run Try.prog w.drew = .ok ([] : List Value).toArray w.drew := run_firstCells_none w.drew i0.size 0 0 0
  have hrun : ∀ ty, (Builtin.append_ #[23, 3] ty #[.slice none 0 0, .int .i64 (n : Int)]).run Try.prog w = _ := fun ty =>
    run_append_grow_zeros w 23 3 ty 45 i0 _ .i64 .i64 Try.underlying23 Try.underlying3 hi hz0 none 0 0 [] hold n (by omega) (by omega) (by omega) (by omega) (by rw [hz2]; omega)
      (by have := growslice_fits (need := 0 + n) (old := 0) (bytes := i0.bytes) (by omega) (by rw [hz2]; omega); exact this)
  have hge : 0 + n ≤ grownCap w (0 + n) 0 45 := grownCap_ge w _ _ _
  have hle := grownCap_le_maxLen w (0 + n) 0 45 (by unfold maxLen; omega)
  obtain ⟨G, hG⟩ : ∃ G, grownCap w (0 + n) 0 45 = G := ⟨_, rfl⟩
  rw [hG] at hrun hge hle
  rw [Nat.zero_add] at hrun hge
  have hG63 : G ≤ 9223372036854775807 := by unfold maxLen at hle; omega
  obtain ⟨CC, hCC⟩ : ∃ CC, (([] : List Value).toArray ++ Builtin.zeroCells (Value.agg #[.string ⟨#[]⟩, .string ⟨#[]⟩]).cells n ++ Builtin.zeroCells (Value.agg #[.string ⟨#[]⟩, .string ⟨#[]⟩]).cells (G - n)) = CC := ⟨_, rfl⟩
  rw [hCC] at hrun
  have hsz : CC.size = G * 2 := by
    rw [← hCC]
    simp [Builtin.zeroCells, Value.cells]
    omega
  have hni : (0 : Int) < (n : Int) := by omega
  have HSZ := Lib.hid hsz
  clear hold hG hCC hsz
  go_enter Try.func57, Try.ntmps57
  go_wp2_with (at_builtin; refine Lib.wpList_append_run _ rfl _ _ _ _ rfl _ _ rfl rfl _ _ (hrun _) ?_)
  all_goals
    go_ret
    refine ⟨_, rfl, ⟨rfl, Or.inr ⟨w.heap.size, G, CC, rfl, Nat.le_refl _, heap_alloc_new w _, Nat.zero_le _, hle, HSZ.out, rfl⟩⟩, by go_grown⟩


/-- The orders of some slices, one behind the other. -/
def M.flatF (N : Nat → Nat) (FF TT : Nat → Nat → ByteArray) : Nat → List (ByteArray × ByteArray)
  | 0 => []
  | k + 1 => M.flatF N FF TT k ++ M.flst (FF k) (TT k) (N k)
theorem M.flatF_len (N : Nat → Nat) (FF TT : Nat → Nat → ByteArray) (k : Nat) : (M.flatF N FF TT (k + 1)).length = (M.flatF N FF TT k).length + N k := by
  show (M.flatF N FF TT k ++ _).length = _
  rw [List.length_append, M.flst_length]
theorem M.flatF_mono (N : Nat → Nat) (FF TT : Nat → Nat → ByteArray) {i : Nat} : ∀ {n : Nat}, i ≤ n → (M.flatF N FF TT i).length ≤ (M.flatF N FF TT n).length
  | 0, h => by
    have : i = 0 := by omega
    subst this; exact Nat.le_refl _
  | n + 1, h => by
    by_cases e : i = n + 1
    · subst e; exact Nat.le_refl _
    · have := M.flatF_mono N FF TT (i := i) (n := n) (by omega)
      rw [M.flatF_len]
      omega

set_option maxHeartbeats 2000000 in
set_option maxRecDepth 100000 in
theorem slices_ConcatF (w : World) (G n : Nat) (A : Nat → Option Addr) (N C : Nat → Nat) (FF TT : Nat → Nat → ByteArray) (h : ∀ k, k < n → w.cell? ⟨G, k, none⟩ = some (.slice (A k) (N k) (C k)) ∧ Fws w (A k) (N k) (FF k) (TT k)) (hn : n ≤ 1048576) (hl : (M.flatF N FF TT n).length ≤ 1048576) :
    Calls Try.prog 38 #[.slice (some ⟨G, 0, none⟩) n n] w (FRowOut w (M.flatF N FF TT n)) := by
  have HF : Hid (∀ k, k < n → (M.flatF N FF TT k).length + N k ≤ 1048576) := fun k hk => by
    have h1 := M.flatF_mono N FF TT (i := k + 1) (n := n) hk
    rw [M.flatF_len] at h1
    omega
  have HM := Lib.hid h
  clear h
  go_enter Try.func38, Try.ntmps38
  go_wp2
  go_loop [3, 11] (fun q i => ∃ k : Nat, k ≤ n ∧ i = .int .i64 k ∧ q = .int .i64 ((M.flatF N FF TT k).length : Int)) (fun _ i => n - (Go.RowKit.intOf i).toNat)
  case atStart => exact ⟨0, Nat.zero_le _, rfl, rfl⟩
  case round =>
    obtain ⟨k, hk, rfl, rfl⟩ := hrel
    by_cases hlt : k < n
    · obtain ⟨g0, hlts⟩ := HM.out k hlt
      have hfl := HF.out k hlt
      have hlen := Lib.hid (M.flatF_len N FF TT k)
      obtain ⟨q, hq⟩ : ∃ q, (M.flatF N FF TT k).length = q := ⟨_, rfl⟩
      rw [hq] at hfl hlen ⊢
      clear hlts hq
      go_wp2
      go_round
      case rel => exact ⟨k + 1, by omega, by go_num, by rw [hlen.out]; go_num⟩
      case measure => simp [Go.RowKit.intOf]; omega
    · obtain rfl : k = n := by omega
      have hl2 : (M.flatF N FF TT k).length ≤ 4194304 := by omega
      go_wp2_with fail
      refine (grow_nilF _ (M.flatF N FF TT k).length hl2).mono ?_
      rintro e w1 ⟨v1, rfl, r1, b1⟩
      have E0 := Lib.hid r1
      have B0 := Lib.hid b1
      clear r1 b1 hk hlt
      obtain ⟨a1, c1, hv1, _, _⟩ := E0.out.form
      cases hv1
      go_wp2
      go_loopw [6, 27] (fun q i wr => ∃ j : Nat, j ≤ k ∧ i = .int .i64 j ∧ Hid (FRow wr w.heap.size q (M.flatF N FF TT j)) ∧ Hid (Below w.heap.size w wr)) (fun _ i _ => k - (Go.RowKit.intOf i).toNat)
      case atStart => exact ⟨0, Nat.zero_le _, rfl, E0, B0⟩
      case round =>
        obtain ⟨j, hj, rfl, hrow, hb⟩ := hrel
        by_cases hlt : j < k
        · obtain ⟨g0', hlts'⟩ := HM.out j hlt
          have g0 := (hb.out.cell (p := ⟨G, j, none⟩) (World.block_lt_of_cell? _ _ g0')).trans g0'
          have HLT := Lib.hid (hlts'.on hb.out)
          have hfl := HF.out j hlt
          have hz := hb.out.size
          clear hlts' g0'
          go_wp2_with (at_builtin; refine wpList_append_fws _ rfl _ _ rfl w.heap.size u6 (M.flatF N FF TT j) rfl hrow.out (A j) (N j) (C j) (FF j) (TT j) rfl HLT.out (by omega) (by omega) ?_; intro v1 w3 r1 gr1 ho1; have R1 : Hid (FRow w3 w.heap.size v1 (M.flatF N FF TT (j + 1))) := r1; have B3 : Hid (Below w.heap.size w w3) := hb.out.grown gr1 hz (fun q e => (hrow.out.lt q e).1); clear r1 gr1 ho1)
          go_roundw
          case rel => exact ⟨j + 1, by omega, by go_num, R1, B3⟩
          case measure => simp [Go.RowKit.intOf]; omega
        · obtain rfl : j = k := by omega
          go_wp2
          go_ret
          exact ⟨_, rfl, hrow.out, hb.out⟩
/-- Two slices of orders. -/
theorem concat_two (w : World) (G : Nat) (a : Option Addr) (n c : Nat) (F T : Nat → ByteArray) (a2 : Option Addr) (n2 c2 : Nat) (F2 T2 : Nat → ByteArray) (h0 : w.cell? ⟨G, 0, none⟩ = some (.slice a n c)) (h1 : w.cell? ⟨G, 1, none⟩ = some (.slice a2 n2 c2)) (h : Fws w a n F T) (h2 : Fws w a2 n2 F2 T2) (hn : n ≤ 524288) (hn2 : n2 ≤ 524288) :
    Calls Try.prog 38 #[.slice (some ⟨G, 0, none⟩) 2 2] w (FRowOut w (M.flst F T n ++ M.flst F2 T2 n2)) := by
  have := slices_ConcatF w G 2 (fun k => if k = 0 then a else a2) (fun k => if k = 0 then n else n2) (fun k => if k = 0 then c else c2) (fun k => if k = 0 then F else F2) (fun k => if k = 0 then T else T2) (fun k hk => by
    have : k = 0 ∨ k = 1 := by omega
    rcases this with rfl | rfl
    · exact ⟨h0, h⟩
    · exact ⟨h1, h2⟩) (by omega) (by
    rw [M.flatF_len, M.flatF_len]
    show 0 + n + n2 ≤ _
    omega)
  exact this
end Go.Proofs.Ytekkajgifgnklaa
