/-
  Whether orders are valid, in the program and in the model of the document.
-/
import Derived.Test.YtekkajgifgnklaaFwd
import Derived.Test.YtekkajgifgnklaaPlan
import Derived.Test.YtekkajgifgnklaaMgA2
import Derived.Test.YtekkajgifgnklaaSCat
namespace Go.Proofs.Ytekkajgifgnklaa
open Go.RowKit
open Go.PlainAid (bt get_bt bt_nonneg bt_le)

/-- Orders are valid: the first n. -/
def M.fwdTo (F T : Nat → ByteArray) (n : Nat) : Bool := M.allCodes T n && M.diffTo F n
def M.fwd (n : Nat) (F T : Nat → ByteArray) : Bool := decide (n ≤ 30) && M.fwdTo F T n
theorem M.fwdTo_iff (F T : Nat → ByteArray) (n : Nat) : M.fwdTo F T n = true ↔ ∀ i, i < n → M.code (F i) = true ∧ M.code (T i) = true ∧ ∀ k, k < i → F k ≠ F i := by
  unfold M.fwdTo
  rw [Bool.and_eq_true, M.allCodes_iff, M.diffTo_iff]
  exact ⟨fun h i hi => ⟨(h.2 i hi).1, h.1 i hi, (h.2 i hi).2⟩, fun h => ⟨fun i hi => (h i hi).2.1, fun i hi => ⟨(h i hi).1, (h i hi).2.2⟩⟩⟩
theorem M.fwdTo_succ {F T : Nat → ByteArray} {k : Nat} (h : M.fwdTo F T k = true) (h1 : M.code (F k) = true) (h2 : M.code (T k) = true) (h3 : ∀ j, j < k → F j ≠ F k) : M.fwdTo F T (k + 1) = true :=
  (M.fwdTo_iff F T (k + 1)).2 fun i hi => by
    by_cases e : i = k
    · subst e; exact ⟨h1, h2, h3⟩
    · exact (M.fwdTo_iff F T k).1 h i (by omega)
theorem M.fwd_no {F T : Nat → ByteArray} {n k : Nat} (hk : k < n) (h : M.code (F k) = false ∨ M.code (T k) = false ∨ ∃ j, j < k ∧ F j = F k) : M.fwd n F T = false := by
  have : M.fwdTo F T n = false := by
    rw [Bool.eq_false_iff]
    intro e
    obtain ⟨h1, h2, h3⟩ := (M.fwdTo_iff F T n).1 e k hk
    rcases h with h | h | ⟨j, hj, h⟩
    · rw [h] at h1; cases h1
    · rw [h] at h2; cases h2
    · exact h3 j hj h
  unfold M.fwd
  rw [this, Bool.and_false]
theorem M.fwd_long {F T : Nat → ByteArray} {n : Nat} (h : 30 < n) : M.fwd n F T = false := by
  unfold M.fwd
  rw [decide_eq_false (by omega)]; rfl
theorem M.fwd_end {F T : Nat → ByteArray} {n : Nat} (h : M.fwdTo F T n = true) : M.fwd n F T = decide (n ≤ 30) := by
  unfold M.fwd
  rw [h, Bool.and_true]
theorem M.fwd_yes {F T : Nat → ByteArray} {n : Nat} (h : M.fwd n F T = true) : n ≤ 30 ∧ ∀ i, i < n → M.code (F i) = true ∧ M.code (T i) = true ∧ ∀ k, k < i → F k ≠ F i := by
  unfold M.fwd at h
  rw [Bool.and_eq_true] at h
  exact ⟨of_decide_eq_true h.1, (M.fwdTo_iff F T n).1 h.2⟩

set_option maxHeartbeats 400000 in
theorem spec_l4Index (w : World) (a : Option Addr) (n c : Nat) (F T : Nat → ByteArray) (h : Fws w a n F T) (hn : n ≤ 1048576) (x : ByteArray) :
    Calls Try.prog 47 #[.slice a n c, .string x] w fun e w' => e = .returned (.int .i64 (M.rankTo F x n)) ∧ w = w' := by
  have HL := Lib.hid h
  clear h
  go_enter Try.func47, Try.ntmps47
  go_wp2
  go_loop [5] (fun i => ∃ k : Nat, k ≤ n ∧ i = .int .i64 k ∧ Hid (∀ j, j < k → F j ≠ x)) (fun i => n - (intOf i).toNat)
  case atStart => exact ⟨0, Nat.zero_le _, rfl, fun j hj => absurd hj (by omega)⟩
  case round =>
    obtain ⟨k, hk, rfl, hno⟩ := hrel
    by_cases hlt : k < n
    · obtain ⟨b, o, rfl, c0, c1⟩ := HL.out k hlt
      by_cases he : F k = x
      · have hd : ((F k).toList == x.toList) = true := by rw [he]; simp
        have hv := Lib.hid (M.rank_hit hlt he hno.out)
        clear he
        go_wp2
        go_ret
        exact ⟨ret_int hv.out.symm, rfl⟩
      · have hd : ((F k).toList == x.toList) = false := neq_list0 he
        have HE := Lib.hid he
        clear he
        go_wp2
        go_round
        case rel => exact ⟨k + 1, by omega, by go_num, fun q hq => by by_cases e : q = k; (subst e; exact HE.out); exact hno.out q (by omega)⟩
        case measure => simp [intOf]; omega
    · obtain rfl : k = n := by omega
      have hv := Lib.hid (M.rank_miss hno.out)
      go_wp2
      go_ret
      exact ⟨ret_int hv.out.symm, rfl⟩

set_option maxHeartbeats 1000000 in
theorem spec_ForwardsValid (w : World) (a : Option Addr) (n c : Nat) (F T : Nat → ByteArray) (h : Fws w a n F T) (hf : FFits n F T) (hn : n ≤ 1048576) :
    Calls Try.prog 25 #[.slice a n c] w fun e w' => e = .returned (.bool (M.fwd n F T)) ∧ w = w' := by
  have HL := Lib.hid h
  have HF := Lib.hid hf
  clear h hf
  go_enter Try.func25, Try.ntmps25
  go_wp2
  go_loop [3] (fun i => ∃ k : Nat, k ≤ n ∧ i = .int .i64 k ∧ Hid (M.fwdTo F T k = true)) (fun i => n - (intOf i).toNat)
  case atStart => exact ⟨0, Nat.zero_le _, rfl, rfl⟩
  case round =>
    obtain ⟨k, hk, rfl, hg⟩ := hrel
    by_cases hlt : k < n
    · have HL2 := Lib.hid HL.out
      obtain ⟨b, o, rfl, c0, c1⟩ := HL.out k hlt
      obtain ⟨s0, s1⟩ := HF.out k hlt
      cases hc0 : M.code (F k)
      · have hv := Lib.hid (M.fwd_no (T := T) hlt (Or.inl hc0))
        go_wp2_with fail
        refine (spec_CodeValid _ _ s0).mono ?_
        rw [hc0]
        rintro e w1 ⟨rfl, rfl⟩
        go_wp2
        go_ret
        exact ⟨ret_bool hv.out.symm, rfl⟩
      cases hc1 : M.code (T k)
      · have hv := Lib.hid (M.fwd_no (F := F) hlt (Or.inr (Or.inl hc1)))
        go_wp2_with fail
        refine (spec_CodeValid _ _ s0).mono ?_
        rw [hc0]
        rintro e w1 ⟨rfl, rfl⟩
        go_wp2_with fail
        refine (spec_CodeValid _ _ s1).mono ?_
        rw [hc1]
        rintro e w1 ⟨rfl, rfl⟩
        go_wp2
        go_ret
        exact ⟨ret_bool hv.out.symm, rfl⟩
      have HX := Lib.hid (spec_l4Index w (some ⟨b, o, none⟩) n c F T HL2.out hn (F k))
      by_cases hs : ∃ j, j < k ∧ F j = F k
      · have hv := Lib.hid (M.fwd_no (T := T) hlt (Or.inr (Or.inr hs)))
        have hrk : ∃ r : Nat, M.rankTo F (F k) n = (r : Int) ∧ r < k := by
          obtain ⟨j, hj, e⟩ := hs
          clear HX hv
          induction j using Nat.strongRecOn with
          | ind j ih =>
            by_cases h2 : ∃ i, i < j ∧ F i = F k
            · obtain ⟨i, hi, e2⟩ := h2
              exact ih i hi (by omega) e2
            · exact ⟨j, M.rank_hit (by omega) e fun i hi e2 => h2 ⟨i, hi, e2⟩, hj⟩
        obtain ⟨r, hr, hrk⟩ := hrk
        rw [hr] at HX
        have hne : ((r : Int) == (k : Int)) = false := by rw [beq_eq_false_iff_ne]; omega
        clear hs hr
        go_wp2_with fail
        refine (spec_CodeValid _ _ s0).mono ?_
        rw [hc0]
        rintro e w1 ⟨rfl, rfl⟩
        go_wp2_with fail
        refine (spec_CodeValid _ _ s1).mono ?_
        rw [hc1]
        rintro e w1 ⟨rfl, rfl⟩
        go_wp2_with fail
        refine HX.out.mono ?_
        rintro e w1 ⟨rfl, rfl⟩
        go_wp2
        go_ret
        exact ⟨ret_bool hv.out.symm, rfl⟩
      · have hno : ∀ j, j < k → F j ≠ F k := fun j hj e => hs ⟨j, hj, e⟩
        rw [M.rank_hit hlt rfl hno] at HX
        have hsu := Lib.hid (M.fwdTo_succ hg.out hc0 hc1 hno)
        clear hs hno
        go_wp2_with fail
        refine (spec_CodeValid _ _ s0).mono ?_
        rw [hc0]
        rintro e w1 ⟨rfl, rfl⟩
        go_wp2_with fail
        refine (spec_CodeValid _ _ s1).mono ?_
        rw [hc1]
        rintro e w1 ⟨rfl, rfl⟩
        go_wp2_with fail
        refine HX.out.mono ?_
        rintro e w1 ⟨rfl, rfl⟩
        go_wp2
        go_round
        case rel => exact ⟨k + 1, by omega, by go_num, hsu⟩
        case measure => simp [intOf]; omega
    · obtain rfl : k = n := by omega
      have hv : Hid (decide ((k : Int) ≤ 30) = M.fwd k F T) := by rw [M.fwd_end hg.out]; exact decide_eq_decide.2 (by omega)
      go_wp2
      go_ret
      exact ⟨ret_bool hv.out, rfl⟩

set_option maxHeartbeats 2000000 in
theorem impl_ForwardsValid (w : World) (a : Option Addr) (n c : Nat) (F T : Nat → ByteArray) (h : Fws w a n F T) (hf : FFits n F T) :
    Calls Try.prog 15 #[.slice a n c] w fun e w' => e = .returned (.bool (M.fwd n F T)) ∧ Below w.heap.size w w' := by
  have HL := Lib.hid h
  have HF := Lib.hid hf
  clear h hf
  by_cases h30 : 30 < n
  · have hv := Lib.hid (M.fwd_long (F := F) (T := T) h30)
    go_enter Try.func15, Try.ntmps15
    go_wp2
    go_ret
    exact ⟨ret_bool hv.out.symm, Below.refl _ _⟩
  have hv : Hid (M.allCodes T n = true → M.diffTo F n = M.fwd n F T) := fun e => by unfold M.fwd M.fwdTo; rw [e, decide_eq_true (by omega)]; rfl
  go_enter Try.func15, Try.ntmps15
  go_wp2
  go_loopw [3, 11] (fun q i wr => ∃ k : Nat, k ≤ n ∧ i = .int .i64 k ∧ Hid (SRow wr w.heap.size q (sst F k)) ∧ Hid (M.allCodes T k = true) ∧ Below w.heap.size w wr) (fun _ i _ => n - (intOf i).toNat)
  case atStart => exact ⟨0, Nat.zero_le _, rfl, SRow.nil _ _, rfl, Below.refl _ _⟩
  case round =>
    obtain ⟨k, hk, rfl, hrow, hall, hb⟩ := hrel
    have hz := hb.size
    by_cases hlt : k < n
    · obtain ⟨b, o, rfl, c0, c1⟩ := (HL.out.on hb) k hlt
      obtain ⟨s0, s1⟩ := HF.out k hlt
      cases hc : M.code (T k)
      · have hv2 := Lib.hid (M.fwd_no (F := F) hlt (Or.inr (Or.inl hc)))
        have HC := Lib.hid hc
        clear hc
        go_wp2_with (go_at_call 31; refine (impl_CodeValid _ _ s1).mono ?_; rw [HC.out]; rintro e w1 ⟨rfl, hb1⟩; replace hb1 := hb1.below)
        go_ret
        exact ⟨ret_bool hv2.out.symm, Below.trans (by go_grown) (hb1.mono (by simp; omega))⟩
      · have HA : Hid (M.allCodes T (k + 1) = true) := by rw [M.allCodes_succ, hall.out, hc]; rfl
        have HST : Hid (sst F (k + 1) = sst F k ++ [F k]) := by unfold Hid sst; rw [List.range_succ, List.map_append]; rfl
        have hlen := sst_length F k
        go_wp2_with (first
          | (go_at_call 31; refine (impl_CodeValid_yes _ _ hc).mono ?_; rintro e w1 ⟨rfl, rfl⟩)
          | (at_builtin; refine wpList_append_string _ rfl _ _ rfl w.heap.size u3 (sst F k) rfl (((hrow.out.alloc _).alloc _).alloc _) _ (F k) rfl ?_ (by omega) (by simp; omega) ?_))
        · simp [go_sem]
        · intro v1 w3 r1 gr1 ho1
          have R1 : Hid (SRow w3 w.heap.size v1 (sst F (k + 1))) := by rw [HST.out]; exact r1
          have B3 : Below w.heap.size w w3 := Below.grown (by go_grown) gr1 (by simp; omega) (fun q e => (hrow.out.lt q e).1)
          clear r1 gr1 ho1
          go_wp2
          go_roundw
          case rel => exact ⟨k + 1, by omega, by go_num, R1, HA, B3⟩
          case measure => simp [intOf]; omega
    · obtain rfl : k = n := by omega
      have hvv := Lib.hid (hv.out hall.out)
      obtain ⟨a1, c1, e, _, hst⟩ := hrow.out.form
      rw [sst_length] at e hst
      subst e
      have HSS : Hid (Strs wr a1 k F) := hst.congr fun i hi => sC_sst hi
      have HSF : Hid (SFits k F) := fun i hi => (HF.out i hi).1
      clear hst
      go_wp2_with fail
      refine (impl_differentCodes _ a1 k c1 F HSS.out HSF.out (by omega)).mono ?_
      rintro e w1 ⟨rfl, hb1⟩
      go_wp2
      go_ret
      exact ⟨ret_bool hvv.out, sstep hb hb1⟩
end Go.Proofs.Ytekkajgifgnklaa
