/-
  Read-only contracts over slices that may share their block (by gen_matr.py, from Concat).
-/
import Derived.Test.YtobmenbhbeflhaaCat
import Derived.Test.YtobmenbhbeflhaaMgF1
import Derived.Lib.AppendZerosOnto
import Derived.Lib.SliceRun
import Derived.Test.YtobmenbhbeflhaaConcat
import Derived.Test.YtobmenbhbeflhaaMgF3
namespace Go.Proofs.Ytobmenbhbeflhaa
open Go.RowKit
open Go.PlainAid (bt get_bt bt_nonneg bt_le)
set_option linter.unusedVariables false

set_option maxHeartbeats 2000000 in
set_option maxRecDepth 100000 in
theorem spec_l2Collect_r (w : World) (base : Nat) (v : Value) (n : Nat) (V : Nat → Value) (MM : Nat → List (Int × ByteArray)) (h : MatR w base v n V MM) (hn : n ≤ 1048576) (hl : (M.flat MM n).length ≤ 1048576) :
    Calls Try.prog 49 #[v] w (RowOut w (M.flat MM n)) := by
  obtain ⟨u, c, hv⟩ : ∃ u c, v = .slice u n c := by
    rcases h.form with ⟨rfl, rfl⟩ | ⟨g, c, rfl, _⟩
    · exact ⟨_, _, rfl⟩
    · exact ⟨_, _, rfl⟩
  subst hv
  have HF : Hid (∀ k, k < n → (M.flat MM k).length + (MM k).length ≤ 1048576) := fun k hk => by
    have h1 := M.flat_mono MM (i := k + 1) (n := n) hk
    have h2 : (M.flat MM (k + 1)).length = (M.flat MM k).length + (MM k).length := List.length_append
    omega
  obtain ⟨W0, hW0⟩ : ∃ W0, w = W0 := ⟨_, rfl⟩
  subst hW0
  have HM := Lib.hid h
  have E0 := Lib.hid (one_row w)
  have B0 := Lib.hid (below_alloc0 w (.cells #[] 31))
  clear h
  go_enter Try.func49, Try.ntmps49
  go_wp2
  go_loopw [3, 4] (fun q i wr => ∃ k : Nat, k ≤ n ∧ i = .int .i64 k ∧ Hid (Row wr w.heap.size q (M.flat MM k)) ∧ Hid (Below w.heap.size w wr)) (fun _ i _ => n - (intOf i).toNat)
  case atStart => exact ⟨0, Nat.zero_le _, rfl, E0, B0⟩
  case round =>
    obtain ⟨k, hk, rfl, hrow, hb⟩ := hrel
    by_cases hlt : k < n
    · have hm := Lib.hid (HM.out.on hb.out)
      obtain ⟨G, c2, e1, g0, _⟩ := hm.out.cell hlt
      cases e1
      obtain ⟨a2, cc, hv, _, hlts⟩ := (hm.out.2.1 k hlt).form
      rw [hv] at g0
      have HLT := Lib.hid hlts
      have hfl := HF.out k hlt
      have hz := hb.out.size
      have hlst := Lib.hid (lst_nI (MM k))
      clear hlts hv
      go_wp2_with (at_builtin; refine wpList_append_lts _ rfl _ _ rfl w.heap.size u3 (M.flat MM k) rfl hrow.out a2 _ cc (nI (MM k)) (nC (MM k)) rfl HLT.out (by omega) (by omega) ?_; intro v1 w3 r1 gr1 ho1; have R1 : Hid (Row w3 w.heap.size v1 (M.flat MM (k + 1))) := (by rw [hlst.out] at r1; exact r1); have B3 : Hid (Below w.heap.size w w3) := hb.out.grown gr1 hz (fun q e => (hrow.out.lt q e).1); clear r1 gr1 ho1)
      go_roundw
      case rel => exact ⟨k + 1, by omega, by go_num, R1, B3⟩
      case measure => simp [intOf]; omega
    · obtain rfl : k = n := by omega
      go_wp2
      go_ret
      exact ⟨_, rfl, hrow.out, hb.out⟩

set_option maxHeartbeats 2000000 in
set_option maxRecDepth 100000 in
theorem soTrays_r (w : World) (base : Nat) (v : Value) (n : Nat) (V : Nat → Value) (MM : Nat → List (Int × ByteArray)) (h : MatR w base v n V MM) (hn : n ≤ 1048576) (hl : (M.flat MM n).length ≤ 1048576) :
    Calls Try.prog 10 #[v] w (RowOut w (M.flat MM n)) := by
  obtain ⟨u, c, hv⟩ : ∃ u c, v = .slice u n c := by
    rcases h.form with ⟨rfl, rfl⟩ | ⟨g, c, rfl, _⟩
    · exact ⟨_, _, rfl⟩
    · exact ⟨_, _, rfl⟩
  subst hv
  have HF : Hid (∀ k, k < n → (M.flat MM k).length + (MM k).length ≤ 1048576) := fun k hk => by
    have h1 := M.flat_mono MM (i := k + 1) (n := n) hk
    have h2 : (M.flat MM (k + 1)).length = (M.flat MM k).length + (MM k).length := List.length_append
    omega
  obtain ⟨W0, hW0⟩ : ∃ W0, w = W0 := ⟨_, rfl⟩
  subst hW0
  have HM := Lib.hid h
  have E0 := Lib.hid (one_row w)
  have B0 := Lib.hid (below_alloc0 w (.cells #[] 31))
  clear h
  go_enter Try.func10, Try.ntmps10
  go_wp2
  go_loopw [3, 4] (fun q i wr => ∃ k : Nat, k ≤ n ∧ i = .int .i64 k ∧ Hid (Row wr w.heap.size q (M.flat MM k)) ∧ Hid (Below w.heap.size w wr)) (fun _ i _ => n - (intOf i).toNat)
  case atStart => exact ⟨0, Nat.zero_le _, rfl, E0, B0⟩
  case round =>
    obtain ⟨k, hk, rfl, hrow, hb⟩ := hrel
    by_cases hlt : k < n
    · have hm := Lib.hid (HM.out.on hb.out)
      obtain ⟨G, c2, e1, g0, _⟩ := hm.out.cell hlt
      cases e1
      obtain ⟨a2, cc, hv, _, hlts⟩ := (hm.out.2.1 k hlt).form
      rw [hv] at g0
      have HLT := Lib.hid hlts
      have hfl := HF.out k hlt
      have hz := hb.out.size
      have hlst := Lib.hid (lst_nI (MM k))
      clear hlts hv
      go_wp2_with (at_builtin; refine wpList_append_lts _ rfl _ _ rfl w.heap.size u3 (M.flat MM k) rfl hrow.out a2 _ cc (nI (MM k)) (nC (MM k)) rfl HLT.out (by omega) (by omega) ?_; intro v1 w3 r1 gr1 ho1; have R1 : Hid (Row w3 w.heap.size v1 (M.flat MM (k + 1))) := (by rw [hlst.out] at r1; exact r1); have B3 : Hid (Below w.heap.size w w3) := hb.out.grown gr1 hz (fun q e => (hrow.out.lt q e).1); clear r1 gr1 ho1)
      go_roundw
      case rel => exact ⟨k + 1, by omega, by go_num, R1, B3⟩
      case measure => simp [intOf]; omega
    · obtain rfl : k = n := by omega
      go_wp2
      go_ret
      exact ⟨_, rfl, hrow.out, hb.out⟩

set_option maxHeartbeats 2000000 in
set_option maxRecDepth 100000 in
theorem slices_Concat_r (w : World) (base : Nat) (v : Value) (n : Nat) (V : Nat → Value) (MM : Nat → List (Int × ByteArray)) (h : MatR w base v n V MM) (hn : n ≤ 1048576) (hl : (M.flat MM n).length ≤ 1048576) :
    Calls Try.prog 28 #[v] w (RowOut w (M.flat MM n)) := by
  obtain ⟨u, c, hv⟩ : ∃ u c, v = .slice u n c := by
    rcases h.form with ⟨rfl, rfl⟩ | ⟨g, c, rfl, _⟩
    · exact ⟨_, _, rfl⟩
    · exact ⟨_, _, rfl⟩
  subst hv
  have HF : Hid (∀ k, k < n → (M.flat MM k).length + (MM k).length ≤ 1048576) := fun k hk => by
    have h1 := M.flat_mono MM (i := k + 1) (n := n) hk
    have h2 : (M.flat MM (k + 1)).length = (M.flat MM k).length + (MM k).length := List.length_append
    omega
  have HM := Lib.hid h
  have HFn := Lib.hid (fun k (hk : k ≤ n) => M.flat_mono MM hk)
  clear h
  go_enter Try.func28, Try.ntmps28
  go_wp2
  go_loop [3, 11] (fun q i => ∃ k : Nat, k ≤ n ∧ i = .int .i64 k ∧ q = .int .i64 ((M.flat MM k).length : Int)) (fun _ i => n - (intOf i).toNat)
  case atStart => exact ⟨0, Nat.zero_le _, rfl, rfl⟩
  case round =>
    obtain ⟨k, hk, rfl, rfl⟩ := hrel
    by_cases hlt : k < n
    · obtain ⟨G, c2, e1, g0, _⟩ := HM.out.cell hlt
      cases e1
      obtain ⟨a2, cc, hv, _, hlts⟩ := (HM.out.2.1 k hlt).form
      rw [hv] at g0
      have hfl := HF.out k hlt
      have hlen : Hid ((M.flat MM (k + 1)).length = (M.flat MM k).length + (MM k).length) := List.length_append
      obtain ⟨q, hq⟩ : ∃ q, (M.flat MM k).length = q := ⟨_, rfl⟩
      rw [hq] at hfl hlen ⊢
      clear hlts hv hq
      go_wp2
      go_round
      case rel => exact ⟨k + 1, by omega, by go_num, by rw [hlen.out]; go_num⟩
      case measure => simp [intOf]; omega
    · obtain rfl : k = n := by omega
      have hl2 : (M.flat MM k).length ≤ 4194304 := by omega
      go_wp2_with fail
      refine (grow_nil _ (M.flat MM k).length hl2).mono ?_
      rintro e w1 ⟨v1, rfl, r1, b1⟩
      have E0 := Lib.hid r1
      have B0 := Lib.hid b1
      clear r1 b1 hk hlt
      obtain ⟨a1, c1, hv1, _, _⟩ := E0.out.form
      cases hv1
      go_wp2
      go_loopw [6, 27] (fun q i wr => ∃ j : Nat, j ≤ k ∧ i = .int .i64 j ∧ Hid (Row wr w.heap.size q (M.flat MM j)) ∧ Hid (Below w.heap.size w wr)) (fun _ i _ => k - (intOf i).toNat)
      case atStart => exact ⟨0, Nat.zero_le _, rfl, E0, B0⟩
      case round =>
        obtain ⟨j, hj, rfl, hrow, hb⟩ := hrel
        by_cases hlt : j < k
        · have hm := Lib.hid (HM.out.on hb.out)
          obtain ⟨G, c2, e1, g0, _⟩ := hm.out.cell hlt
          cases e1
          obtain ⟨a2, cc, hv, _, hlts⟩ := (hm.out.2.1 j hlt).form
          rw [hv] at g0
          have HLT := Lib.hid hlts
          have hfl := HF.out j hlt
          have hz := hb.out.size
          have hlst := Lib.hid (lst_nI (MM j))
          clear hlts hv
          go_wp2_with (at_builtin; refine wpList_append_lts _ rfl _ _ rfl w.heap.size u6 (M.flat MM j) rfl hrow.out a2 _ cc (nI (MM j)) (nC (MM j)) rfl HLT.out (by omega) (by omega) ?_; intro v1 w3 r1 gr1 ho1; have R1 : Hid (Row w3 w.heap.size v1 (M.flat MM (j + 1))) := (by rw [hlst.out] at r1; exact r1); have B3 : Hid (Below w.heap.size w w3) := hb.out.grown gr1 hz (fun q e => (hrow.out.lt q e).1); clear r1 gr1 ho1)
          go_roundw
          case rel => exact ⟨j + 1, by omega, by go_num, R1, B3⟩
          case measure => simp [intOf]; omega
        · obtain rfl : j = k := by omega
          go_wp2
          go_ret
          exact ⟨_, rfl, hrow.out, hb.out⟩

end Go.Proofs.Ytobmenbhbeflhaa
