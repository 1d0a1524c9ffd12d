/-
  What ShrinkRules returns, in the program and in the model of the document.
-/
import Derived.Test.YtiecniogkcgefaaShrinkM
import Derived.Test.YtiecniogkcgefaaDelF
import Derived.Test.YtiecniogkcgefaaRemR
import Derived.Test.YtiecniogkcgefaaLookUp
namespace Go.Proofs.Ytiecniogkcgefaa
open Go.RowKit Go.Maps Go.Lib
open Go.PlainAid (bt get_bt bt_nonneg bt_le)
set_option linter.unusedVariables false

theorem nm_empty {s : ByteArray} (h : s.size = 0) : s = ⟨#[]⟩ := by
  apply ByteArray.ext
  apply Array.eq_empty_of_size_eq_zero
  exact h
theorem str_eq {s t : ByteArray} (h : s = t) : (s.toList == t.toList) = true := by rw [h]; simp
theorem rlV_short {rl : List Nat → Option (Nat × ByteArray × ByteArray)} {f : ByteArray} {R : List Nat → Option ByteArray} (hR : ∀ q, (rl q).map (·.2.2) = R q) (h0 : f.size ≠ 0) : rlV rl (f.extract 0 (f.size - 1)) = M.look R f (f.size - 1) := by
  unfold rlV
  have hs : (f.extract 0 (f.size - 1)).size = f.size - 1 := by rw [ByteArray.size_extract]; omega
  rw [hs, M.look_congr hR]
  have hd : ∀ j, j ≤ f.size - 1 → M.dg (f.extract 0 (f.size - 1)) j = M.dg f j := fun j hj => by
    unfold M.dg
    refine List.map_congr_left fun i hi => ?_
    have hi := List.mem_range.1 hi
    have : bt (f.extract 0 (f.size - 1)) i = bt f i := by
      rw [← get_bt _ i (by omega), ← get_bt f i (by omega), ByteArray.getElem_extract]
      congr 3
      omega
    rw [this]
  have : ∀ j, j ≤ f.size - 1 → M.look R (f.extract 0 (f.size - 1)) j = M.look R f j := by
    intro j
    induction j with
    | zero => intro _; rfl
    | succ j ih =>
      intro hj
      have h1 := congrArg R (hd (j + 1) hj)
      cases hc : R (M.dg f (j + 1)) with
      | none => rw [M.look_miss (h1.trans hc), M.look_miss hc]; exact ih (by omega)
      | some x => rw [M.look_hit (h1.trans hc), M.look_hit hc]
  exact this _ (Nat.le_refl _)
theorem digs_short {f : ByteArray} (h : M.digs f = true) : M.digs (f.extract 0 (f.size - 1)) = true := by
  have hs : (f.extract 0 (f.size - 1)).size = f.size - 1 := by rw [ByteArray.size_extract]; omega
  have hl := M.digs_len h
  rw [M.digs_end]
  · exact decide_eq_true (by omega)
  · refine (M.digsTo_iff _ _).2 fun i hi => ?_
    rw [hs] at hi
    have : bt (f.extract 0 (f.size - 1)) i = bt f i := by
      rw [← get_bt _ i (by omega), ← get_bt f i (by omega), ByteArray.getElem_extract]
      congr 3
      omega
    rw [this]
    exact M.digs_bt h i (by omega)
set_option maxHeartbeats 2000000 in
set_option maxRecDepth 100000 in
theorem shrink_it (w : World) (base r n : Nat) (F T : Nat → ByteArray) (B : Nat) (hB : w.cell? ⟨B, 0, none⟩ = some (.pointer (some ⟨r, 0, none⟩))) (nd : List Nat → Option Nat) (rl : List Nat → Option (Nat × ByteArray × ByteArray)) (ht : Trie w base nd rl) (hr : nd [] = some r) (hq : ∀ q, (rl q).map (·.2.2) = M.ruleAt F T n q) (f t : ByteArray) (hf : M.digs f = true) :
    Calls Try.prog 63 #[.agg #[.string f, .string t], .pointer (some ⟨B, 0, none⟩)] w fun e w' => e = .returned (.bool (M.dropF F T n (f, t))) ∧ Below w.heap.size w w' := by
  have hlB := World.block_lt_of_cell? _ _ hB
  have hb0 := below_alloc0 w (.cells #[.string f, .string t] 64)
  by_cases h0 : f.size = 0
  · have hv := Lib.hid (M.dropF_zero (P := F) (N := T) (n := n) (q := (f, t)) h0)
    obtain rfl := nm_empty h0
    clear ht hr hq hf h0
    go_enter Try.func63, Try.ntmps63
    go_wp2
    go_ret
    exact ⟨ret_bool hv.out.symm, hb0⟩
  · have hv := Lib.hid (M.dropF_more (P := F) (N := T) (n := n) (q := (f, t)) h0)
    have hsz := M.digs_len hf
    have hne := ne_str f (by omega)
    have hne2 : f.toList.isEmpty = false := by cases h : f.toList with | nil => exact absurd h hne | cons _ _ => rfl
    have HX := Lib.hid (fun W (hb : Below w.heap.size w W) => node_lookUp W base nd rl (ht.on hb) r hr _ (digs_short hf))
    have HV := Lib.hid (rlV_short hq h0)
    simp only at hv
    have h1 : (0 : Int) ≤ (f.size : Int) - 1 := by omega
    have h1b : (f.size : Int) - 1 ≤ (f.size : Int) := by omega
    have h2 : ((f.size : Int) - 1).toNat = f.size - 1 := by omega
    have hwr : IntKind.i64.wrap ((f.size : Int) - 1) = (f.size : Int) - 1 := IntWalk.i64_in _ (by omega)
    have hlB2 : B < (w.alloc (.cells #[.string f, .string t] 64)).heap.size := by show B < (w.heap.push _).size; rw [Array.size_push]; exact Nat.lt_succ_of_lt hlB
    have hlw : w.heap.size < (w.alloc (.cells #[.string f, .string t] 64)).heap.size := by show w.heap.size < (w.heap.push _).size; rw [Array.size_push]; exact Nat.lt_succ_self _
    obtain ⟨lk, hlk⟩ : ∃ lk, M.look (M.ruleAt F T n) f (f.size - 1) = lk := ⟨_, rfl⟩
    rw [hlk] at hv HV
    have hval : Hid (∃ s y, lkV lk = .tuple #[.string s, .bool y] ∧ (y = false ∨ (y = true ∧ lk = some s)) ∧ (y = false → lk = none)) := by
      cases lk with
      | none => exact ⟨_, _, rfl, Or.inl rfl, fun _ => rfl⟩
      | some d => exact ⟨_, _, rfl, Or.inr ⟨rfl, rfl⟩, fun e => nomatch e⟩
    have HB0 := Lib.hid hb0
    clear ht hr hq hf h0 hb0 hlk
    obtain ⟨s, y, hsy, hy, hyn⟩ := hval.out
    have HY : Hid (lkV lk = .tuple #[.string s, .bool y]) := hsy
    have HYC : Hid ((y = false ∨ (y = true ∧ lk = some s)) ∧ (y = false → lk = none)) := ⟨hy, hyn⟩
    clear hval hsy hy hyn
    go_enter Try.func63, Try.ntmps63
    go_wp2_with fail
    go_region_with (go_at_call 57; go_loud (refine (HX.out _ HB0.out.drew).mono ?_; rw [HV.out, HY.out]; rintro e w2 ⟨rfl, hb2⟩))
    all_goals
      have t1 : w2.cell? ⟨w.heap.size, 1, none⟩ = some (.string t) := (hb2.cell (p := ⟨w.heap.size, 1, none⟩) hlw).trans (by simp)
      have BE := Lib.hid (HB0.out.drew.trans (hb2.mono (by simp)))
      clear hb2
      rcases HYC.out.1 with rfl | ⟨rfl, hs⟩
      · have hn := Lib.hid (HYC.out.2 rfl)
        go_wp2
        go_ret
        exact ⟨ret_bool (by rw [hv.out, hn.out]; rfl), BE.out⟩
      · have hs2 := Lib.hid hs
        clear hs
        by_cases he : s = t
        · have hd := str_eq he
          have hv2 : Hid (M.dropF F T n (f, t) = true) := by rw [Hid, hv.out, hs2.out, he]; exact decide_eq_true rfl
          clear he
          go_wp2
          go_ret
          exact ⟨ret_bool hv2.out.symm, BE.out⟩
        · have hd : (s.toList == t.toList) = false := neq_list0 he
          have hv2 : Hid (M.dropF F T n (f, t) = false) := by rw [Hid, hv.out, hs2.out]; exact decide_eq_false (fun e => he (Option.some.inj e))
          clear he
          go_wp2
          go_ret
          exact ⟨ret_bool hv2.out.symm, BE.out⟩
end Go.Proofs.Ytiecniogkcgefaa
