/-
  All letters of some slices, one behind the other: in the program's library and in the model.
-/
import Derived.Test.YtobmenbhbeflhaaCat
import Derived.Test.YtobmenbhbeflhaaMgF1
import Derived.Lib.AppendZerosOnto
import Derived.Lib.SliceRun
namespace Go.Proofs.Ytobmenbhbeflhaa
open Go.RowKit Go.Lib

/-- A slice of letters that the call has made. -/
def RowOut (w : World) (L : List (Int × ByteArray)) (e : Ending) (w' : World) : Prop := ∃ v, e = .returned v ∧ Row w' w.heap.size v L ∧ Below w.heap.size w w'
set_option maxHeartbeats 2000000 in
set_option maxRecDepth 100000 in
theorem grow_nil (w : World) (n : Nat) (hn : n ≤ 4194304) :
    Calls Try.prog 41 #[.slice none 0 0, .int .i64 n] w (RowOut w []) := by
  obtain ⟨i0, hi, hz0, hz1, hz2⟩ := info_parts info_letter
  by_cases h0 : n = 0
  · subst h0
    go_enter Try.func41, Try.ntmps41
    go_wp2
    go_ret
    exact ⟨_, rfl, Row.nil _ _, Below.refl _ _⟩
  have hold : (Builtin.firstCells i0.size 0 (.slice none 0 0)).run Try.prog w.drew = .ok ([] : List Value).toArray w.drew := run_firstCells_none w.drew i0.size 0 0 0
  have hrun : ∀ ty, (Builtin.append_ #[23, 3] ty #[.slice none 0 0, .int .i64 (n : Int)]).run Try.prog w = _ := fun ty =>
    run_append_grow_zeros w 23 3 ty 31 i0 _ .i64 .i64 Try.underlying23 Try.underlying3 hi hz0 none 0 0 [] hold n (by omega) (by omega) (by omega) (by omega) (by rw [hz2]; omega)
      (by have := growslice_fits (need := 0 + n) (old := 0) (bytes := i0.bytes) (by omega) (by rw [hz2]; omega); exact this)
  have hge : 0 + n ≤ grownCap w (0 + n) 0 31 := grownCap_ge w _ _ _
  have hle := grownCap_le_maxLen w (0 + n) 0 31 (by unfold maxLen; omega)
  obtain ⟨G, hG⟩ : ∃ G, grownCap w (0 + n) 0 31 = G := ⟨_, rfl⟩
  rw [hG] at hrun hge hle
  rw [Nat.zero_add] at hrun hge
  have hG63 : G ≤ 9223372036854775807 := by unfold maxLen at hle; omega
  obtain ⟨CC, hCC⟩ : ∃ CC, (([] : List Value).toArray ++ Builtin.zeroCells (Value.agg #[.int .i64 0, .string ⟨#[]⟩]).cells n ++ Builtin.zeroCells (Value.agg #[.int .i64 0, .string ⟨#[]⟩]).cells (G - n)) = CC := ⟨_, rfl⟩
  rw [hCC] at hrun
  have hsz : CC.size = G * 2 := by
    rw [← hCC]
    simp [Builtin.zeroCells, Value.cells]
    omega
  have hni : (0 : Int) < (n : Int) := by omega
  have HSZ := Lib.hid hsz
  clear hold hG hCC hsz
  go_enter Try.func41, Try.ntmps41
  go_wp2_with (at_builtin; refine Lib.wpList_append_run _ rfl _ _ _ _ rfl _ _ rfl rfl _ _ (hrun _) ?_)
  all_goals
    go_ret
    refine ⟨_, rfl, ⟨rfl, Or.inr ⟨w.heap.size, G, CC, rfl, Nat.le_refl _, heap_alloc_new w _, Nat.zero_le _, hle, HSZ.out, rfl⟩⟩, by go_grown⟩

theorem M.flat_mono (M' : Nat → List (Int × ByteArray)) {i : Nat} : ∀ {n : Nat}, i ≤ n → (M.flat M' i).length ≤ (M.flat M' n).length
  | 0, h => by have : i = 0 := by omega
               subst this; exact Nat.le_refl _
  | n + 1, h => by
    by_cases e : i = n + 1
    · subst e; exact Nat.le_refl _
    · have := M.flat_mono M' (i := i) (n := n) (by omega)
      show _ ≤ (M.flat M' n ++ M' n).length
      rw [List.length_append]
      omega

set_option maxHeartbeats 2000000 in
set_option maxRecDepth 100000 in
theorem spec_l2Collect (w : World) (base : Nat) (v : Value) (n : Nat) (V : Nat → Value) (MM : Nat → List (Int × ByteArray)) (h : Mat w base v n V MM) (hn : n ≤ 1048576) (hl : (M.flat MM n).length ≤ 1048576) :
    Calls Try.prog 49 #[v] w (RowOut w (M.flat MM n)) := by
  obtain ⟨u, c, hv⟩ : ∃ u c, v = .slice u n c := by
    rcases h.form with ⟨rfl, rfl⟩ | ⟨g, c, rfl, _⟩
    · exact ⟨_, _, rfl⟩
    · exact ⟨_, _, rfl⟩
  subst hv
  have HF : Hid (∀ k, k < n → (M.flat MM k).length + (MM k).length ≤ 1048576) := fun k hk => by
    have h1 := M.flat_mono MM (i := k + 1) (n := n) hk
    have h2 : (M.flat MM (k + 1)).length = (M.flat MM k).length + (MM k).length := List.length_append
    omega
  obtain ⟨W0, hW0⟩ : ∃ W0, w = W0 := ⟨_, rfl⟩
  subst hW0
  have HM := Lib.hid h
  have E0 := Lib.hid (one_row w)
  have B0 := Lib.hid (below_alloc0 w (.cells #[] 31))
  clear h
  go_enter Try.func49, Try.ntmps49
  go_wp2
  go_loopw [3, 4] (fun q i wr => ∃ k : Nat, k ≤ n ∧ i = .int .i64 k ∧ Hid (Row wr w.heap.size q (M.flat MM k)) ∧ Hid (Below w.heap.size w wr)) (fun _ i _ => n - (intOf i).toNat)
  case atStart => exact ⟨0, Nat.zero_le _, rfl, E0, B0⟩
  case round =>
    obtain ⟨k, hk, rfl, hrow, hb⟩ := hrel
    by_cases hlt : k < n
    · have hm := Lib.hid (HM.out.on hb.out)
      obtain ⟨G, c2, e1, g0, _⟩ := hm.out.cell hlt
      cases e1
      obtain ⟨a2, cc, hv, _, hlts⟩ := (hm.out.2.1 k hlt).form
      rw [hv] at g0
      have HLT := Lib.hid hlts
      have hfl := HF.out k hlt
      have hz := hb.out.size
      have hlst := Lib.hid (lst_nI (MM k))
      clear hlts hv
      go_wp2_with (at_builtin; refine wpList_append_lts _ rfl _ _ rfl w.heap.size u3 (M.flat MM k) rfl hrow.out a2 _ cc (nI (MM k)) (nC (MM k)) rfl HLT.out (by omega) (by omega) ?_; intro v1 w3 r1 gr1 ho1; have R1 : Hid (Row w3 w.heap.size v1 (M.flat MM (k + 1))) := (by rw [hlst.out] at r1; exact r1); have B3 : Hid (Below w.heap.size w w3) := hb.out.grown gr1 hz (fun q e => (hrow.out.lt q e).1); clear r1 gr1 ho1)
      go_roundw
      case rel => exact ⟨k + 1, by omega, by go_num, R1, B3⟩
      case measure => simp [intOf]; omega
    · obtain rfl : k = n := by omega
      go_wp2
      go_ret
      exact ⟨_, rfl, hrow.out, hb.out⟩

set_option maxHeartbeats 2000000 in
set_option maxRecDepth 100000 in
theorem slices_Concat (w : World) (base : Nat) (v : Value) (n : Nat) (V : Nat → Value) (MM : Nat → List (Int × ByteArray)) (h : Mat w base v n V MM) (hn : n ≤ 1048576) (hl : (M.flat MM n).length ≤ 1048576) :
    Calls Try.prog 28 #[v] w (RowOut w (M.flat MM n)) := by
  obtain ⟨u, c, hv⟩ : ∃ u c, v = .slice u n c := by
    rcases h.form with ⟨rfl, rfl⟩ | ⟨g, c, rfl, _⟩
    · exact ⟨_, _, rfl⟩
    · exact ⟨_, _, rfl⟩
  subst hv
  have HF : Hid (∀ k, k < n → (M.flat MM k).length + (MM k).length ≤ 1048576) := fun k hk => by
    have h1 := M.flat_mono MM (i := k + 1) (n := n) hk
    have h2 : (M.flat MM (k + 1)).length = (M.flat MM k).length + (MM k).length := List.length_append
    omega
  have HM := Lib.hid h
  have HFn := Lib.hid (fun k (hk : k ≤ n) => M.flat_mono MM hk)
  clear h
  go_enter Try.func28, Try.ntmps28
  go_wp2
  go_loop [3, 11] (fun q i => ∃ k : Nat, k ≤ n ∧ i = .int .i64 k ∧ q = .int .i64 ((M.flat MM k).length : Int)) (fun _ i => n - (intOf i).toNat)
  case atStart => exact ⟨0, Nat.zero_le _, rfl, rfl⟩
  case round =>
    obtain ⟨k, hk, rfl, rfl⟩ := hrel
    by_cases hlt : k < n
    · obtain ⟨G, c2, e1, g0, _⟩ := HM.out.cell hlt
      cases e1
      obtain ⟨a2, cc, hv, _, hlts⟩ := (HM.out.2.1 k hlt).form
      rw [hv] at g0
      have hfl := HF.out k hlt
      have hlen : Hid ((M.flat MM (k + 1)).length = (M.flat MM k).length + (MM k).length) := List.length_append
      obtain ⟨q, hq⟩ : ∃ q, (M.flat MM k).length = q := ⟨_, rfl⟩
      rw [hq] at hfl hlen ⊢
      clear hlts hv hq
      go_wp2
      go_round
      case rel => exact ⟨k + 1, by omega, by go_num, by rw [hlen.out]; go_num⟩
      case measure => simp [intOf]; omega
    · obtain rfl : k = n := by omega
      have hl2 : (M.flat MM k).length ≤ 4194304 := by omega
      go_wp2_with fail
      refine (grow_nil _ (M.flat MM k).length hl2).mono ?_
      rintro e w1 ⟨v1, rfl, r1, b1⟩
      have E0 := Lib.hid r1
      have B0 := Lib.hid b1
      clear r1 b1 hk hlt
      obtain ⟨a1, c1, hv1, _, _⟩ := E0.out.form
      cases hv1
      go_wp2
      go_loopw [6, 27] (fun q i wr => ∃ j : Nat, j ≤ k ∧ i = .int .i64 j ∧ Hid (Row wr w.heap.size q (M.flat MM j)) ∧ Hid (Below w.heap.size w wr)) (fun _ i _ => k - (intOf i).toNat)
      case atStart => exact ⟨0, Nat.zero_le _, rfl, E0, B0⟩
      case round =>
        obtain ⟨j, hj, rfl, hrow, hb⟩ := hrel
        by_cases hlt : j < k
        · have hm := Lib.hid (HM.out.on hb.out)
          obtain ⟨G, c2, e1, g0, _⟩ := hm.out.cell hlt
          cases e1
          obtain ⟨a2, cc, hv, _, hlts⟩ := (hm.out.2.1 j hlt).form
          rw [hv] at g0
          have HLT := Lib.hid hlts
          have hfl := HF.out j hlt
          have hz := hb.out.size
          have hlst := Lib.hid (lst_nI (MM j))
          clear hlts hv
          go_wp2_with (at_builtin; refine wpList_append_lts _ rfl _ _ rfl w.heap.size u6 (M.flat MM j) rfl hrow.out a2 _ cc (nI (MM j)) (nC (MM j)) rfl HLT.out (by omega) (by omega) ?_; intro v1 w3 r1 gr1 ho1; have R1 : Hid (Row w3 w.heap.size v1 (M.flat MM (j + 1))) := (by rw [hlst.out] at r1; exact r1); have B3 : Hid (Below w.heap.size w w3) := hb.out.grown gr1 hz (fun q e => (hrow.out.lt q e).1); clear r1 gr1 ho1)
          go_roundw
          case rel => exact ⟨j + 1, by omega, by go_num, R1, B3⟩
          case measure => simp [intOf]; omega
        · obtain rfl : j = k := by omega
          go_wp2
          go_ret
          exact ⟨_, rfl, hrow.out, hb.out⟩
end Go.Proofs.Ytobmenbhbeflhaa
