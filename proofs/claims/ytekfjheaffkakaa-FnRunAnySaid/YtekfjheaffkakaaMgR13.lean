/-
  Letters in another order are a batch as before.
-/
import Derived.Test.YtekfjheaffkakaaMgR8
import Derived.Test.YtekfjheaffkakaaMgR3
import Derived.Lib.AppendZerosOnto
import Derived.Lib.SliceRun
import Derived.Test.YtekfjheaffkakaaMgR4
namespace Go.Proofs.Ytekfjheaffkakaa

/-- Letters are a batch, said of a list. -/
def BatchL (L : List (Int × ByteArray)) : Prop := (∀ x ∈ L, M.code x.2 = true ∧ 1 ≤ x.1 ∧ x.1 ≤ 9999) ∧ (L.map Prod.fst).Pairwise (· ≠ ·) ∧ L.length ≤ 60
theorem batchL_iff (n : Nat) (I : Nat → Int) (C : Nat → ByteArray) : M.batch n I C = true ↔ BatchL (M.lst I C n) := by
  unfold BatchL
  rw [List.pairwise_map, List.pairwise_iff_getElem]
  constructor
  · intro h
    obtain ⟨hn, hg⟩ := M.batch_yes h
    refine ⟨fun x hx => ?_, fun i j hi hj hij => ?_, by rw [lst_len]; exact hn⟩
    · unfold M.lst at hx
      obtain ⟨i, hi, rfl⟩ := List.mem_map.1 hx
      obtain ⟨h1, h2, _⟩ := hg i (List.mem_range.1 hi)
      exact ⟨h1, h2⟩
    · rw [lst_get, lst_get]
      rw [lst_len] at hj
      exact (hg j hj).2.2 i hij
  · rintro ⟨h1, h2, h3⟩
    have hg : M.goodTo I C n = true := (M.goodTo_iff I C n).2 fun i hi => by
      have hm : (I i, C i) ∈ M.lst I C n := by unfold M.lst; exact List.mem_map.2 ⟨i, List.mem_range.2 hi, rfl⟩
      refine ⟨(h1 _ hm).1, (h1 _ hm).2, fun k hk => ?_⟩
      have := h2 k i (by rw [lst_len]; omega) (by rw [lst_len]; exact hi) hk
      rw [lst_get, lst_get] at this
      exact this
    rw [M.batch_end hg]
    rw [lst_len] at h3
    exact decide_eq_true h3
theorem batchL_list (L : List (Int × ByteArray)) : M.batch L.length (nI L) (nC L) = true ↔ BatchL L := by
  rw [batchL_iff, lst_nI]
theorem BatchL.perm {L R : List (Int × ByteArray)} (h : BatchL L) (p : L.Perm R) : BatchL R :=
  ⟨fun x hx => h.1 x (p.mem_iff.2 hx), (p.map Prod.fst).pairwise h.2.1 (fun h e => h e.symm), by rw [← p.length_eq]; exact h.2.2⟩
theorem flat_upd (F : Nat → List (Int × ByteArray)) (d : Nat) (x : Int × ByteArray) : ∀ n, d < n → (M.flat (fun i => if i = d then F d ++ [x] else F i) n).Perm (M.flat F n ++ [x])
  | 0, h => absurd h (by omega)
  | n + 1, h => by
    by_cases e : d = n
    · subst e
      have h1 : M.flat (fun i => if i = d then F d ++ [x] else F i) d = M.flat F d := M.flat_congr fun i hi => if_neg (by omega)
      show (M.flat (fun i => if i = d then F d ++ [x] else F i) d ++ (if d = d then F d ++ [x] else F d)).Perm (M.flat F d ++ F d ++ [x])
      rw [h1, if_pos rfl, List.append_assoc]
    · have ih := flat_upd F d x n (by omega)
      show (M.flat (fun i => if i = d then F d ++ [x] else F i) n ++ (if n = d then F d ++ [x] else F n)).Perm (M.flat F n ++ F n ++ [x])
      rw [if_neg (fun e2 => e e2.symm)]
      refine (ih.append_right (F n)).trans ?_
      rw [List.append_assoc, List.append_assoc]
      exact (List.perm_append_comm).append_left _
theorem flat_nil : ∀ n, M.flat (fun _ => []) n = []
  | 0 => rfl
  | n + 1 => by show M.flat (fun _ => []) n ++ [] = []; rw [flat_nil n]; rfl
theorem flat_bins (key : Nat → Option Nat) (I : Nat → Int) (C : Nat → ByteArray) (N : Nat) : ∀ k, (∀ i, i < k → ∃ d, key i = some d ∧ d < N) → (M.flat (M.binTo key I C k) N).Perm (M.lst I C k)
  | 0, _ => by rw [show M.binTo key I C 0 = fun _ => [] from rfl, flat_nil]; exact List.Perm.refl _
  | k + 1, h => by
    obtain ⟨d, hd, hdN⟩ := h k (by omega)
    rw [M.binTo_some hd, M.lst_succ]
    exact (flat_upd (M.binTo key I C k) d (I k, C k) N hdN).trans ((flat_bins key I C N k fun i hi => h i (by omega)).append_right _)
theorem dig1_bd {n : Nat} {I : Nat → Int} {C : Nat → ByteArray} (h : M.batch n I C = true) {x : Nat} (hx : x ≤ 6) : ∀ i, i < n → ∃ d, M.dig1 C x i = some d ∧ d < 10 := fun i hi => by
  have hc := M.code_yes ((M.batch_yes h).2 i hi).1
  have := M.digs_bt hc.1 x (by rw [hc.2]; omega)
  exact ⟨_, rfl, by omega⟩
theorem pass_perm {n : Nat} {I : Nat → Int} {C : Nat → ByteArray} (h : M.batch n I C = true) {x : Nat} (hx : x ≤ 6) : (M.flat (M.bins I C x n) 10).Perm (M.lst I C n) := flat_bins _ _ _ _ _ (dig1_bd h hx)
theorem pass_batch {n : Nat} {I : Nat → Int} {C : Nat → ByteArray} (h : M.batch n I C = true) {x : Nat} (hx : x ≤ 6) : BatchL (M.flat (M.bins I C x n) 10) := ((batchL_iff n I C).1 h).perm (pass_perm h hx).symm
theorem BatchL.fits {L : List (Int × ByteArray)} (h : BatchL L) : Fits L.length (nI L) (nC L) := fun i hi => by
  obtain ⟨h1, h2, h3⟩ := h.1 _ (List.getElem_mem hi)
  rw [nI_at hi, nC_at hi]
  have := (M.code_yes h1).2
  refine ⟨by omega, ?_⟩
  rw [this]; unfold maxLen; omega
end Go.Proofs.Ytekfjheaffkakaa

/-
  All letters of some slices, one behind the other: in the program's library and in the model.
-/
namespace Go.Proofs.Ytekfjheaffkakaa
open Go.RowKit Go.Lib

/-- A slice of letters that the call has made. -/
def RowOut (w : World) (L : List (Int × ByteArray)) (e : Ending) (w' : World) : Prop := ∃ v, e = .returned v ∧ Row w' w.heap.size v L ∧ Below w.heap.size w w'
set_option maxHeartbeats 2000000 in
set_option maxRecDepth 100000 in
theorem grow_nil (w : World) (n : Nat) (hn : n ≤ 4194304) :
    Calls Try.prog 30 #[.slice none 0 0, .int .i64 n] w (RowOut w []) := by
  obtain ⟨i0, hi, hz0, hz1, hz2⟩ := info_parts info_letter
  by_cases h0 : n = 0
  · subst h0
    go_enter Try.func30, Try.ntmps30
    go_wp2
    go_ret
    exact ⟨_, rfl, Row.nil _ _, Below.refl _ _⟩
  have hold : (Builtin.firstCells i0.size 0 (.slice none 0 0)).run Try.prog w.drew = .ok ([] : List Value).toArray w.drew := run_firstCells_none w.drew i0.size 0 0 0
  have hrun : ∀ ty, (Builtin.append_ #[26, 3] ty #[.slice none 0 0, .int .i64 (n : Int)]).run Try.prog w = _ := fun ty =>
    run_append_grow_zeros w 26 3 ty 33 i0 _ .i64 .i64 Try.underlying26 Try.underlying3 hi hz0 none 0 0 [] hold n (by omega) (by omega) (by omega) (by omega) (by rw [hz2]; omega)
      (by have := growslice_fits (need := 0 + n) (old := 0) (bytes := i0.bytes) (by omega) (by rw [hz2]; omega); exact this)
  have hge : 0 + n ≤ grownCap w (0 + n) 0 33 := grownCap_ge w _ _ _
  have hle := grownCap_le_maxLen w (0 + n) 0 33 (by unfold maxLen; omega)
  obtain ⟨G, hG⟩ : ∃ G, grownCap w (0 + n) 0 33 = G := ⟨_, rfl⟩
  rw [hG] at hrun hge hle
  rw [Nat.zero_add] at hrun hge
  have hG63 : G ≤ 9223372036854775807 := by unfold maxLen at hle; omega
  obtain ⟨CC, hCC⟩ : ∃ CC, (([] : List Value).toArray ++ Builtin.zeroCells (Value.agg #[.int .i64 0, .string ⟨#[]⟩]).cells n ++ Builtin.zeroCells (Value.agg #[.int .i64 0, .string ⟨#[]⟩]).cells (G - n)) = CC := ⟨_, rfl⟩
  rw [hCC] at hrun
  have hsz : CC.size = G * 2 := by
    rw [← hCC]
    simp [Builtin.zeroCells, Value.cells]
    omega
  have hni : (0 : Int) < (n : Int) := by omega
  have HSZ := Lib.hid hsz
  clear hold hG hCC hsz
  go_enter Try.func30, Try.ntmps30
  go_wp2_with (at_builtin; refine Lib.wpList_append_run _ rfl _ _ _ _ rfl _ _ rfl rfl _ _ (hrun _) ?_)
  all_goals
    go_ret
    refine ⟨_, rfl, ⟨rfl, Or.inr ⟨w.heap.size, G, CC, rfl, Nat.le_refl _, heap_alloc_new w _, Nat.zero_le _, hle, HSZ.out, rfl⟩⟩, by go_grown⟩

theorem M.flat_mono (M' : Nat → List (Int × ByteArray)) {i : Nat} : ∀ {n : Nat}, i ≤ n → (M.flat M' i).length ≤ (M.flat M' n).length
  | 0, h => by have : i = 0 := by omega
               subst this; exact Nat.le_refl _
  | n + 1, h => by
    by_cases e : i = n + 1
    · subst e; exact Nat.le_refl _
    · have := M.flat_mono M' (i := i) (n := n) (by omega)
      show _ ≤ (M.flat M' n ++ M' n).length
      rw [List.length_append]
      omega

set_option maxHeartbeats 2000000 in
set_option maxRecDepth 100000 in
theorem spec_l2Collect (w : World) (base : Nat) (v : Value) (n : Nat) (V : Nat → Value) (MM : Nat → List (Int × ByteArray)) (h : Mat w base v n V MM) (hn : n ≤ 1048576) (hl : (M.flat MM n).length ≤ 1048576) :
    Calls Try.prog 16 #[v] w (RowOut w (M.flat MM n)) := by
  obtain ⟨u, c, hv⟩ : ∃ u c, v = .slice u n c := by
    rcases h.form with ⟨rfl, rfl⟩ | ⟨g, c, rfl, _⟩
    · exact ⟨_, _, rfl⟩
    · exact ⟨_, _, rfl⟩
  subst hv
  have HF : Hid (∀ k, k < n → (M.flat MM k).length + (MM k).length ≤ 1048576) := fun k hk => by
    have h1 := M.flat_mono MM (i := k + 1) (n := n) hk
    have h2 : (M.flat MM (k + 1)).length = (M.flat MM k).length + (MM k).length := List.length_append
    omega
  obtain ⟨W0, hW0⟩ : ∃ W0, w = W0 := ⟨_, rfl⟩
  subst hW0
  have HM := Lib.hid h
  have E0 := Lib.hid (one_row w)
  have B0 := Lib.hid (below_alloc0 w (.cells #[] 33))
  clear h
  go_enter Try.func16, Try.ntmps16
  go_wp2
  go_loopw [3, 4] (fun q i wr => ∃ k : Nat, k ≤ n ∧ i = .int .i64 k ∧ Hid (Row wr w.heap.size q (M.flat MM k)) ∧ Hid (Below w.heap.size w wr)) (fun _ i _ => n - (intOf i).toNat)
  case atStart => exact ⟨0, Nat.zero_le _, rfl, E0, B0⟩
  case round =>
    obtain ⟨k, hk, rfl, hrow, hb⟩ := hrel
    by_cases hlt : k < n
    · have hm := Lib.hid (HM.out.on hb.out)
      obtain ⟨G, c2, e1, g0, _⟩ := hm.out.cell hlt
      cases e1
      obtain ⟨a2, cc, hv, _, hlts⟩ := (hm.out.2.1 k hlt).form
      rw [hv] at g0
      have HLT := Lib.hid hlts
      have hfl := HF.out k hlt
      have hz := hb.out.size
      have hlst := Lib.hid (lst_nI (MM k))
      clear hlts hv
      go_wp2_with (at_builtin; refine wpList_append_lts _ rfl _ _ rfl w.heap.size u3 (M.flat MM k) rfl hrow.out a2 _ cc (nI (MM k)) (nC (MM k)) rfl HLT.out (by omega) (by omega) ?_; intro v1 w3 r1 gr1 ho1; have R1 : Hid (Row w3 w.heap.size v1 (M.flat MM (k + 1))) := (by rw [hlst.out] at r1; exact r1); have B3 : Hid (Below w.heap.size w w3) := hb.out.grown gr1 hz (fun q e => (hrow.out.lt q e).1); clear r1 gr1 ho1)
      go_roundw
      case rel => exact ⟨k + 1, by omega, by go_num, R1, B3⟩
      case measure => simp [intOf]; omega
    · obtain rfl : k = n := by omega
      go_wp2
      go_ret
      exact ⟨_, rfl, hrow.out, hb.out⟩

set_option maxHeartbeats 2000000 in
set_option maxRecDepth 100000 in
theorem slices_Concat (w : World) (base : Nat) (v : Value) (n : Nat) (V : Nat → Value) (MM : Nat → List (Int × ByteArray)) (h : Mat w base v n V MM) (hn : n ≤ 1048576) (hl : (M.flat MM n).length ≤ 1048576) :
    Calls Try.prog 13 #[v] w (RowOut w (M.flat MM n)) := by
  obtain ⟨u, c, hv⟩ : ∃ u c, v = .slice u n c := by
    rcases h.form with ⟨rfl, rfl⟩ | ⟨g, c, rfl, _⟩
    · exact ⟨_, _, rfl⟩
    · exact ⟨_, _, rfl⟩
  subst hv
  have HF : Hid (∀ k, k < n → (M.flat MM k).length + (MM k).length ≤ 1048576) := fun k hk => by
    have h1 := M.flat_mono MM (i := k + 1) (n := n) hk
    have h2 : (M.flat MM (k + 1)).length = (M.flat MM k).length + (MM k).length := List.length_append
    omega
  have HM := Lib.hid h
  have HFn := Lib.hid (fun k (hk : k ≤ n) => M.flat_mono MM hk)
  clear h
  go_enter Try.func13, Try.ntmps13
  go_wp2
  go_loop [3, 11] (fun q i => ∃ k : Nat, k ≤ n ∧ i = .int .i64 k ∧ q = .int .i64 ((M.flat MM k).length : Int)) (fun _ i => n - (intOf i).toNat)
  case atStart => exact ⟨0, Nat.zero_le _, rfl, rfl⟩
  case round =>
    obtain ⟨k, hk, rfl, rfl⟩ := hrel
    by_cases hlt : k < n
    · obtain ⟨G, c2, e1, g0, _⟩ := HM.out.cell hlt
      cases e1
      obtain ⟨a2, cc, hv, _, hlts⟩ := (HM.out.2.1 k hlt).form
      rw [hv] at g0
      have hfl := HF.out k hlt
      have hlen : Hid ((M.flat MM (k + 1)).length = (M.flat MM k).length + (MM k).length) := List.length_append
      obtain ⟨q, hq⟩ : ∃ q, (M.flat MM k).length = q := ⟨_, rfl⟩
      rw [hq] at hfl hlen ⊢
      clear hlts hv hq
      go_wp2
      go_round
      case rel => exact ⟨k + 1, by omega, by go_num, by rw [hlen.out]; go_num⟩
      case measure => simp [intOf]; omega
    · obtain rfl : k = n := by omega
      have hl2 : (M.flat MM k).length ≤ 4194304 := by omega
      go_wp2_with fail
      refine (grow_nil _ (M.flat MM k).length hl2).mono ?_
      rintro e w1 ⟨v1, rfl, r1, b1⟩
      have E0 := Lib.hid r1
      have B0 := Lib.hid b1
      clear r1 b1 hk hlt
      obtain ⟨a1, c1, hv1, _, _⟩ := E0.out.form
      cases hv1
      go_wp2
      go_loopw [6, 27] (fun q i wr => ∃ j : Nat, j ≤ k ∧ i = .int .i64 j ∧ Hid (Row wr w.heap.size q (M.flat MM j)) ∧ Hid (Below w.heap.size w wr)) (fun _ i _ => k - (intOf i).toNat)
      case atStart => exact ⟨0, Nat.zero_le _, rfl, E0, B0⟩
      case round =>
        obtain ⟨j, hj, rfl, hrow, hb⟩ := hrel
        by_cases hlt : j < k
        · have hm := Lib.hid (HM.out.on hb.out)
          obtain ⟨G, c2, e1, g0, _⟩ := hm.out.cell hlt
          cases e1
          obtain ⟨a2, cc, hv, _, hlts⟩ := (hm.out.2.1 j hlt).form
          rw [hv] at g0
          have HLT := Lib.hid hlts
          have hfl := HF.out j hlt
          have hz := hb.out.size
          have hlst := Lib.hid (lst_nI (MM j))
          clear hlts hv
          go_wp2_with (at_builtin; refine wpList_append_lts _ rfl _ _ rfl w.heap.size u6 (M.flat MM j) rfl hrow.out a2 _ cc (nI (MM j)) (nC (MM j)) rfl HLT.out (by omega) (by omega) ?_; intro v1 w3 r1 gr1 ho1; have R1 : Hid (Row w3 w.heap.size v1 (M.flat MM (j + 1))) := (by rw [hlst.out] at r1; exact r1); have B3 : Hid (Below w.heap.size w w3) := hb.out.grown gr1 hz (fun q e => (hrow.out.lt q e).1); clear r1 gr1 ho1)
          go_roundw
          case rel => exact ⟨j + 1, by omega, by go_num, R1, B3⟩
          case measure => simp [intOf]; omega
        · obtain rfl : j = k := by omega
          go_wp2
          go_ret
          exact ⟨_, rfl, hrow.out, hb.out⟩
end Go.Proofs.Ytekfjheaffkakaa

/-
  How many pairs stand in the wrong order, in the right bit, and which are equal: on paper.
-/
namespace Go.Proofs.Ytekfjheaffkakaa.M

/-- How many of the first k. -/
def tally (f : Nat → Bool) : Nat → Nat
  | 0 => 0
  | k + 1 => if f k = true then tally f k + 1 else tally f k
def bit (b : Bool) : Nat := if b = true then 1 else 0
theorem tally_succ (f : Nat → Bool) (k : Nat) : tally f (k + 1) = tally f k + bit (f k) := by
  show (if f k = true then tally f k + 1 else tally f k) = _
  unfold bit
  split <;> rfl
theorem tally_congr {f g : Nat → Bool} : ∀ k, (∀ j, j < k → f j = g j) → tally f k = tally g k
  | 0, _ => rfl
  | k + 1, h => by rw [tally_succ, tally_succ, tally_congr k fun j hj => h j (by omega), h k (by omega)]
theorem tally_shift (f : Nat → Bool) : ∀ k, tally f (k + 1) = bit (f 0) + tally (fun i => f (i + 1)) k
  | 0 => by rw [tally_succ]; show 0 + _ = _ + 0; omega
  | k + 1 => by rw [tally_succ, tally_shift f k, tally_succ]; omega
theorem tally_rev (f : Nat → Bool) : ∀ n, tally (fun i => f (n - 1 - i)) n = tally f n
  | 0 => rfl
  | n + 1 => by
    rw [tally_shift, tally_succ]
    have h := tally_rev f n
    rw [tally_congr (f := fun i => f (n + 1 - 1 - (i + 1))) (g := fun i => f (n - 1 - i)) n fun j hj => by
      show f (n + 1 - 1 - (j + 1)) = f (n - 1 - j)
      congr 1
      omega, h]
    show bit (f (n + 1 - 1 - 0)) + _ = _
    rw [show n + 1 - 1 - 0 = n by omega]
    omega
theorem invAt_tally (C : Nat → ByteArray) (i : Nat) : ∀ k, invAt C i k = tally (fun j => less (C i) (C j)) k
  | 0 => rfl
  | k + 1 => by
    rw [tally_succ, ← invAt_tally C i k]
    cases h : less (C i) (C k)
    · rw [invAt_no h]; rfl
    · rw [invAt_yes h]; rfl
/-- Pairs of which the first comes before the second, and equal ones. -/
def ups (C : Nat → ByteArray) : Nat → Nat
  | 0 => 0
  | i + 1 => ups C i + tally (fun j => less (C j) (C i)) i
def eqs (C : Nat → ByteArray) : Nat → Nat
  | 0 => 0
  | i + 1 => eqs C i + tally (fun j => decide (C j = C i)) i
theorem less_three (x y : ByteArray) : bit (less x y) + bit (less y x) + bit (decide (y = x)) = 1 := by
  have h := bytesLess_other x.toList y.toList
  have e : (x.toList == y.toList) = decide (y = x) := by
    by_cases hxy : y = x
    · subst hxy; simp
    · rw [decide_eq_false hxy, beq_eq_false_iff_ne]
      intro e
      rw [ByteArray.toList_eq, ByteArray.toList_eq] at e
      exact hxy (ByteArray.ext (Array.toList_inj.1 e)).symm
  rw [e] at h
  show bit (Op.bytesLess x.toList y.toList) + bit (Op.bytesLess y.toList x.toList) + _ = 1
  rw [h]
  by_cases hxy : y = x
  · have hx : Op.bytesLess x.toList y.toList = false := by
      cases hb : Op.bytesLess x.toList y.toList
      · rfl
      · subst hxy
        rw [hb] at h
        simp at h
    rw [hx, decide_eq_true hxy]
    decide
  · rw [decide_eq_false hxy]
    cases Op.bytesLess x.toList y.toList <;> decide
theorem tally_three (C : Nat → ByteArray) (i : Nat) : ∀ k, tally (fun j => less (C i) (C j)) k + tally (fun j => less (C j) (C i)) k + tally (fun j => decide (C j = C i)) k = k
  | 0 => rfl
  | k + 1 => by
    rw [tally_succ, tally_succ, tally_succ]
    have h1 := tally_three C i k
    have h2 := less_three (C i) (C k)
    omega
theorem all_pairs (C : Nat → ByteArray) : ∀ n, 2 * (inv C n + ups C n + eqs C n) + n = n * n
  | 0 => rfl
  | n + 1 => by
    have h1 := all_pairs C n
    have h2 := tally_three C n n
    rw [inv_succ, invAt_tally]
    show 2 * (inv C n + tally (fun j => less (C n) (C j)) n + (ups C n + tally (fun j => less (C j) (C n)) n) + (eqs C n + tally (fun j => decide (C j = C n)) n)) + (n + 1) = _
    have e : (n + 1) * (n + 1) = n * n + 2 * n + 1 := by
      rw [Nat.add_mul, Nat.mul_add]
      omega
    rw [e]
    omega
theorem inv_shift (C : Nat → ByteArray) : ∀ n, inv C (n + 1) = inv (fun k => C (k + 1)) n + tally (fun i => less (C (i + 1)) (C 0)) n
  | 0 => rfl
  | n + 1 => by
    rw [inv_succ, inv_shift C n, inv_succ, tally_succ, invAt_tally, invAt_tally, tally_shift]
    omega
/-- Turned round, the pairs in the right order stand in the wrong bit. -/
theorem inv_rev (C : Nat → ByteArray) : ∀ n, inv (fun k => C (n - 1 - k)) n = ups C n
  | 0 => rfl
  | n + 1 => by
    rw [inv_shift]
    have e1 : (fun k => C (n + 1 - 1 - (k + 1))) = fun k => C (n - 1 - k) := by
      funext k
      congr 1
      omega
    have e2 : (fun i => less (C (n + 1 - 1 - (i + 1))) (C (n + 1 - 1 - 0))) = fun i => less (C (n - 1 - i)) (C n) := by
      funext i
      rw [show n + 1 - 1 - (i + 1) = n - 1 - i by omega, show n + 1 - 1 - 0 = n by omega]
    rw [e1, e2, inv_rev C n, tally_rev (fun i => less (C i) (C n)) n]
    rfl
theorem inv_congr {C D : Nat → ByteArray} : ∀ n, (∀ i, i < n → C i = D i) → inv C n = inv D n
  | 0, _ => rfl
  | n + 1, h => by
    rw [inv_succ, inv_succ, inv_congr n fun i hi => h i (by omega), invAt_tally, invAt_tally, h n (by omega)]
    rw [tally_congr n fun j hj => by rw [h j (by omega)]]
end Go.Proofs.Ytekfjheaffkakaa.M
