/-
  The text of rules, in the program and in the model of the document.
-/
import Derived.Test.YtodnolefdapbdaaDoorItems
import Derived.Test.YtodnolefdapbdaaDoorRulV3
import Derived.Test.YtodnolefdapbdaaDoorSCat
import Derived.Deep.RegionHeld3
namespace Go.Proofs.YtodnolefdapbdaaDoor
open Go.RowKit
set_option linter.unusedVariables false

/-- The text of rules, or an empty one. -/
def M.rulText (n : Nat) (F T : Nat → ByteArray) : ByteArray := if M.rul n F T then M.itemsOf (M.pairT F T) n else ⟨#[]⟩
theorem rul_sizes {n : Nat} {F T : Nat → ByteArray} (h : M.rul n F T = true) : n ≤ 20 ∧ ∀ i, i < n → (F i).size ≤ 8 ∧ (T i).size ≤ 8 := by
  obtain ⟨hn, hall⟩ := M.rul_yes h
  have HS : Hid (∀ i, i < n → (F i).size ≤ 8 ∧ (T i).size ≤ 8) := fun i hi => by
    obtain ⟨h1, h2, _⟩ := hall i hi
    have : (F i).size ≤ 7 := by unfold M.prefixOk at h1; rw [Bool.and_eq_true] at h1; exact of_decide_eq_true h1.2
    have := (M.name_yes h2).2
    omega
  exact ⟨hn, HS.out⟩

set_option maxHeartbeats 1000000 in
theorem spec_FormatRules (w : World) (a : Option Addr) (n c : Nat) (F T : Nat → ByteArray) (h : Fws w a n F T) (hf : FFits n F T) (hn : n ≤ 1048576) :
    Calls Tryd.prog 15 #[.slice a n c] w fun e w' => e = .returned (.string (M.rulText n F T)) ∧ Below w.heap.size w w' := by
  have HL := Lib.hid h
  have HF := Lib.hid hf
  clear h hf
  cases hv : M.rul n F T
  · have HV := Lib.hid hv
    have HR : Hid (M.rulText n F T = ⟨#[]⟩) := by unfold Hid M.rulText; rw [hv]; rfl
    clear hv
    go_enter Tryd.func15, Tryd.ntmps15
    go_wp2_with fail
    refine (spec_RulesValid w a n c F T HL.out HF.out hn).mono ?_
    rw [HV.out]
    rintro e w1 ⟨rfl, rfl⟩
    go_wp2
    go_ret
    exact ⟨ret_txt HR.out, Below.refl _ _⟩
  · have HV := Lib.hid hv
    have HR : Hid (M.rulText n F T = M.itemsOf (M.pairT F T) n) := by unfold Hid M.rulText; rw [hv]; rfl
    obtain ⟨nm, hall⟩ := rul_sizes hv
    have HS := Lib.hid hall
    clear hv hall
    go_enter Tryd.func15, Tryd.ntmps15
    go_wp2_with fail
    refine (spec_RulesValid w a n c F T HL.out HF.out hn).mono ?_
    rw [HV.out]
    rintro e w1 ⟨rfl, rfl⟩
    go_wp2
    go_loopw [3, 4] (fun o i wr => ∃ k : Nat, k ≤ n ∧ i = .int .i64 k ∧ o = .string (M.gapsTo M.gap (M.pairT F T) k) ∧ Below w.heap.size w wr) (fun _ i _ => n - (intOf i).toNat)
    case atStart => exact ⟨0, Nat.zero_le _, rfl, rfl, Below.refl _ _⟩
    case round =>
      obtain ⟨k, hk, rfl, rfl, hb⟩ := hrel
      have hgs := M.gapsTo_size (g := M.gap) (T := M.pairT F T) (m := 17) (k := k) (fun i hi => (M.pairT_size (HS.out i (by omega)).1 (HS.out i (by omega)).2).1)
      have hg1 : M.gap.size = 1 := rfl
      rw [hg1] at hgs
      clear hg1
      by_cases hlt : k < n
      · obtain ⟨b, o, rfl, c0, c1⟩ := (HL.out.on hb) k hlt
        obtain ⟨s0, s1⟩ := HS.out k hlt
        have hki : (k : Int) < (n : Int) := by omega
        by_cases h0 : k = 0
        · have HT := Lib.hid (M.gapsTo_first M.gap (M.pairT F T) h0)
          rw [← M.pairT_app] at HT
          have hg0 : ¬ (0 : Int) < (k : Int) := by omega
          have hg2 : decide ((0 : Int) < (k : Int)) = false := decide_eq_false hg0
          have HK := Lib.hid h0
          obtain ⟨x, hx⟩ : ∃ x, M.gapsTo M.gap (M.pairT F T) k = x := ⟨_, rfl⟩
          have HSG : Hid (M.sgn = ⟨#[62]⟩) := rfl
          obtain ⟨f, hf⟩ : ∃ f, F k = f := ⟨_, rfl⟩
          obtain ⟨t, ht⟩ : ∃ t, T k = t := ⟨_, rfl⟩
          rw [hx, hf, ht, HSG.out] at HT
          rw [hx] at hgs ⊢
          rw [hf] at c0 s0
          rw [ht] at c1 s1
          clear hx hf ht h0
          go_wp2
          go_region
          all_goals
            go_wp2
            go_roundw
            case rel => exact ⟨k + 1, by omega, by go_num, congrArg Value.string HT.out.symm, by go_grown⟩
            case measure => simp [intOf]; omega
        · have HT := Lib.hid (M.gapsTo_next M.gap (M.pairT F T) h0)
          rw [← M.pairT_app] at HT
          have hg0 : (0 : Int) < (k : Int) := by omega
          have hg2 : decide ((0 : Int) < (k : Int)) = true := decide_eq_true hg0
          obtain ⟨x, hx⟩ : ∃ x, M.gapsTo M.gap (M.pairT F T) k = x := ⟨_, rfl⟩
          have HSG : Hid (M.sgn = ⟨#[62]⟩) := rfl
          obtain ⟨f, hf⟩ : ∃ f, F k = f := ⟨_, rfl⟩
          obtain ⟨t, ht⟩ : ∃ t, T k = t := ⟨_, rfl⟩
          rw [hx, hf, ht, HSG.out] at HT
          rw [hx] at hgs ⊢
          rw [hf] at c0 s0
          rw [ht] at c1 s1
          clear hx hf ht h0
          go_wp2
          go_region
          all_goals
            go_wp2
            go_roundw
            case rel => exact ⟨k + 1, by omega, by go_num, congrArg Value.string HT.out.symm, by go_grown⟩
            case measure => simp [intOf]; omega
      · obtain rfl : k = n := by omega
        have HD := Lib.hid (M.dashed_gaps (T := M.pairT F T) (n := k) (fun h0 => (M.pairT_size (HS.out (k - 1) (by omega)).1 (HS.out (k - 1) (by omega)).2).2))
        obtain ⟨x, hx⟩ : ∃ x, M.gapsTo M.gap (M.pairT F T) k = x := ⟨_, rfl⟩
        rw [hx] at HD hgs ⊢
        clear hx
        go_wp2_with fail
        refine (spec_l2Dash x wr).mono ?_
        rintro e w1 ⟨rfl, rfl⟩
        go_wp2
        go_ret
        exact ⟨ret_txt (HR.out.trans HD.out.symm), hb⟩

set_option maxHeartbeats 1000000 in
theorem impl_FormatRules (w : World) (a : Option Addr) (n c : Nat) (F T : Nat → ByteArray) (h : Fws w a n F T) (hf : FFits n F T) :
    Calls Tryd.prog 14 #[.slice a n c] w fun e w' => e = .returned (.string (M.rulText n F T)) ∧ Below w.heap.size w w' := by
  have HL := Lib.hid h
  have HF := Lib.hid hf
  clear h hf
  cases hv : M.rul n F T
  · have HV := Lib.hid hv
    have HR : Hid (M.rulText n F T = ⟨#[]⟩) := by unfold Hid M.rulText; rw [hv]; rfl
    clear hv
    go_enter Tryd.func14, Tryd.ntmps14
    go_wp2_with fail
    refine (impl_RulesValid w a n c F T HL.out HF.out).mono ?_
    rw [HV.out]
    rintro e w1 ⟨rfl, hb1⟩
    go_wp2
    go_ret
    exact ⟨ret_txt HR.out, hb1⟩
  · have HV := Lib.hid hv
    have HR : Hid (M.rulText n F T = M.itemsOf (M.pairT F T) n) := by unfold Hid M.rulText; rw [hv]; rfl
    obtain ⟨nm, hall⟩ := rul_sizes hv
    have HS := Lib.hid hall
    clear hv hall
    go_enter Tryd.func14, Tryd.ntmps14
    go_wp2_with fail
    refine (impl_RulesValid w a n c F T HL.out HF.out).mono ?_
    rw [HV.out]
    rintro e w1 ⟨rfl, hb1⟩
    have HL1 := Lib.hid (HL.out.on hb1)
    have B1 := Lib.hid hb1
    have z1 := hb1.size
    clear hb1
    go_wp2
    go_loopw [3, 11] (fun q i wr => ∃ k : Nat, k ≤ n ∧ i = .int .i64 k ∧ Hid (SRow wr w1.heap.size q (sst (M.pairT F T) k)) ∧ Below w1.heap.size w1 wr) (fun _ i _ => n - (intOf i).toNat)
    case atStart => exact ⟨0, Nat.zero_le _, rfl, SRow.nil _ _, Below.refl _ _⟩
    case round =>
      obtain ⟨k, hk, rfl, hrow, hb⟩ := hrel
      have hz := hb.size
      by_cases hlt : k < n
      · obtain ⟨b, o, rfl, c0, c1⟩ := (HL1.out.on hb) k hlt
        obtain ⟨s0, s1⟩ := HS.out k hlt
        have HST : Hid (sst (M.pairT F T) (k + 1) = sst (M.pairT F T) k ++ [F k ++ ⟨#[62]⟩ ++ T k]) := by unfold Hid sst; rw [List.range_succ, List.map_append]; rfl
        have hlen := sst_length (M.pairT F T) k
        obtain ⟨LL, hLL⟩ : ∃ LL, sst (M.pairT F T) k = LL := ⟨_, rfl⟩
        rw [hLL] at hrow HST hlen
        obtain ⟨f, hf⟩ : ∃ f, F k = f := ⟨_, rfl⟩
        obtain ⟨t, ht⟩ : ∃ t, T k = t := ⟨_, rfl⟩
        rw [hf, ht] at HST
        rw [hf] at c0 s0
        rw [ht] at c1 s1
        clear hLL hf ht
        go_wp2_with (at_builtin; refine wpList_append_string _ rfl _ _ rfl w1.heap.size u3 LL rfl ((hrow.out.alloc _).alloc _) _ (f ++ ⟨#[62]⟩ ++ t) rfl ?_ (by omega) (by simp; omega) ?_)
        · simp [go_sem]
        · intro v1 w3 r1 gr1 ho1
          have R1 : Hid (SRow w3 w1.heap.size v1 (sst (M.pairT F T) (k + 1))) := by rw [HST.out]; exact r1
          have B3 : Below w1.heap.size w1 w3 := Below.grown (by go_grown) gr1 (by simp; omega) (fun q e => (hrow.out.lt q e).1)
          clear r1 gr1 ho1
          go_wp2
          go_roundw
          case rel => exact ⟨k + 1, by omega, by go_num, R1, B3⟩
          case measure => simp [intOf]; omega
      · obtain rfl : k = n := by omega
        obtain ⟨a1, c1, e, hc1, hst⟩ := hrow.out.form
        rw [sst_length] at e hst hc1
        subst e
        have HSS : Hid (Strs wr a1 k (M.pairT F T)) := hst.congr fun i hi => sC_sst hi
        have hgs := M.gapsTo_size (g := M.gap) (T := M.pairT F T) (m := 17) (k := k) (fun i hi => (M.pairT_size (HS.out i (by omega)).1 (HS.out i (by omega)).2).1)
        have hg1 : M.gap.size = 1 := rfl
        rw [hg1] at hgs
        clear hst hg1
        go_wp2_with fail
        refine (impl_joinItems wr a1 k c1 (M.pairT F T) HSS.out hc1 (by omega) (by omega)).mono ?_
        rintro e w2 ⟨rfl, hb2⟩
        go_wp2
        go_ret
        exact ⟨ret_txt HR.out, sstep (sstep B1.out hb) hb2⟩
end Go.Proofs.YtodnolefdapbdaaDoor
