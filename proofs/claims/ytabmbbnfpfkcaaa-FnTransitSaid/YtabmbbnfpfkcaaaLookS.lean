/-
  The rule with the longest beginning, and where letters for a code are sent, in the model of the document.
-/
import Derived.Test.YtabmbbnfpfkcaaaRulV
import Derived.Test.YtabmbbnfpfkcaaaTrieM
import Derived.Deep.QuietTactic
import Derived.BigQuiet
namespace Go.Proofs.Ytabmbbnfpfkcaaa
open Go.RowKit
open Go.PlainAid (bt get_bt bt_nonneg bt_le)
set_option linter.unusedVariables false

theorem retS {a b : ByteArray} (h : a = b) : Ending.returned (.string a) = .returned (.string b) := by rw [h]
theorem ne_str (s : ByteArray) (h : 0 < s.size) : ¬ s.toList = [] := by
  rw [ByteArray.toList_eq]
  intro e
  have h1 : s.data.toList.length = 0 := by rw [e]; rfl
  rw [Array.length_toList] at h1
  have h2 : s.data.size = s.size := rfl
  omega
/-- What LookUp returns: where letters are sent, and whether they are. -/
def lkV : Option ByteArray → Value
  | none => .tuple #[.string ⟨#[]⟩, .bool false]
  | some d => .tuple #[.string d, .bool true]
def LkForm (v : Value) : Prop := ∃ s y, v = .tuple #[.string s, .bool y]
theorem lk_form : ∀ r, LkForm (lkV r)
  | none => ⟨_, _, rfl⟩
  | some _ => ⟨_, _, rfl⟩
def M.lookUp (P N : Nat → ByteArray) (n : Nat) (c : ByteArray) : Option ByteArray := if M.rul n P N && M.code c then M.look (M.ruleAt P N n) c c.size else none
theorem M.lookUp_no {P N : Nat → ByteArray} {n : Nat} {c : ByteArray} (h : M.rul n P N = false) : M.lookUp P N n c = none := by unfold M.lookUp; rw [h]; rfl
theorem M.lookUp_bad {P N : Nat → ByteArray} {n : Nat} {c : ByteArray} (h : M.code c = false) : M.lookUp P N n c = none := by unfold M.lookUp; rw [h, Bool.and_false]; rfl
theorem M.lookUp_yes {P N : Nat → ByteArray} {n : Nat} {c : ByteArray} (h : M.rul n P N = true) (hc : M.code c = true) : M.lookUp P N n c = M.look (M.ruleAt P N n) c c.size := by unfold M.lookUp; rw [h, hc]; rfl
theorem M.prefix_digs {p : ByteArray} (h : M.prefixOk p = true) : M.digs p = true ∧ p.size ≤ 7 := by
  unfold M.prefixOk at h
  rw [Bool.and_eq_true] at h
  exact ⟨h.1, of_decide_eq_true h.2⟩
theorem M.lookUp_best {P N : Nat → ByteArray} {n : Nat} {c : ByteArray} (h : M.rul n P N = true) (hc : M.digs c = true) : M.look (M.ruleAt P N n) c c.size = if M.bestTo P c n < 0 then none else some (N (M.bestTo P c n).toNat) := by
  have h1 := (M.rul_yes h).2
  exact M.look_best hc (fun i hi => (M.prefix_digs (h1 i hi).1).1) fun i k hi hk => (h1 i hi).2.2 k hk

theorem drewN_two {w wr : World} {q : Nat} (h : ∃ m, wr = w.drewN m) : ∃ m, wr.drewN q = w.drewN m := by
  obtain ⟨m, rfl⟩ := h
  exact ⟨m + q, World.drewN_drewN _ _ _⟩
theorem Fws.quiet {w wr : World} {a : Option Addr} {n : Nat} {F T : Nat → ByteArray} (h : Fws w a n F T) (hq : ∃ m, wr = w.drewN m) : Fws wr a n F T := by
  obtain ⟨m, rfl⟩ := hq
  exact h
set_option maxHeartbeats 1000000 in
set_option maxRecDepth 100000 in
theorem spec_l6Best (w : World) (a : Option Addr) (n cap : Nat) (F T : Nat → ByteArray) (h : Fws w a n F T) (hf : FFits n F T) (hn : n ≤ 1048576) (c : ByteArray) :
    Calls Try.prog 69 #[.slice a n cap, .string c] w fun e w' => e = .returned (.int .i64 (M.bestTo F c n)) ∧ ∃ m, w' = w.drewN m := by
  have HL := Lib.hid h
  have HF := Lib.hid hf
  clear h hf
  go_enter Try.func69, Try.ntmps69
  go_wp2
  go_loopw [5, 6] (fun q i wr => ∃ k : Nat, k ≤ n ∧ i = .int .i64 k ∧ q = .int .i64 (M.bestTo F c k) ∧ Hid (∃ m, wr = w.drewN m)) (fun _ i _ => n - (intOf i).toNat)
  case atStart => exact ⟨0, Nat.zero_le _, rfl, rfl, ⟨0, rfl⟩⟩
  case round =>
    obtain ⟨k, hk, rfl, rfl, hq⟩ := hrel
    by_cases hlt : k < n
    · have HR := Lib.hid (HL.out.quiet hq.out)
      obtain ⟨b, o, rfl, c0, c1⟩ := HR.out k hlt
      obtain ⟨s0, _⟩ := HF.out k hlt
      unfold maxLen at s0
      have hki : (k : Int) < (n : Int) := by omega
      have hk0 : (0 : Int) ≤ (k : Int) := by omega
      have HBC := Lib.hid (spec_l2Begins c (F k))
      cases hb : M.begins c (F k)
      · have HE := Lib.hid (M.bestTo_other hb)
        obtain ⟨v, hv⟩ : ∃ v, M.bestTo F c k = v := ⟨_, rfl⟩
        rw [hv] at HE ⊢
        rw [hb] at HBC
        clear hb hv
        go_wp2
        go_quiet ((go_at_call 80; exact Calls.quiet_of_same (quiet_flip (HBC.out _))))
        go_wp2
        go_roundw
        case rel => exact ⟨k + 1, by omega, by go_num, by rw [HE.out], drewN_two hq.out⟩
        case measure => simp [intOf]; omega
      · have hbd := M.bestTo_bd F c k
        by_cases hneg : M.bestTo F c k < 0
        · have HE := Lib.hid (M.bestTo_yes hb (Or.inl hneg))
          obtain ⟨v, hv⟩ : ∃ v, M.bestTo F c k = v := ⟨_, rfl⟩
          rw [hv] at hneg hbd ⊢
          rw [hb] at HBC
          have hd : decide (v < 0) = true := decide_eq_true hneg
          clear hb hv
          go_wp2
          go_quiet ((go_at_call 80; exact Calls.quiet_of_same (quiet_flip (HBC.out _))))
          go_wp2
          go_roundw
          case rel => exact ⟨k + 1, by omega, by go_num, by rw [HE.out], drewN_two hq.out⟩
          case measure => simp [intOf]; omega
        · obtain ⟨v, hv⟩ : ∃ v : Nat, M.bestTo F c k = (v : Int) := ⟨(M.bestTo F c k).toNat, by omega⟩
          have hvk : v < k := by omega
          obtain ⟨b', o', e', d0, d1⟩ := HR.out v (by omega)
          obtain ⟨rfl, rfl⟩ : b' = b ∧ o' = o := by simp at e'; exact ⟨e'.1.symm, e'.2.symm⟩
          obtain ⟨t0, _⟩ := HF.out v (by omega)
          unfold maxLen at t0
          have hvi : (v : Int) < (n : Int) := by omega
          have hv0 : (0 : Int) ≤ (v : Int) := by omega
          have hd0 : decide ((v : Int) < 0) = false := decide_eq_false (by omega)
          rw [hb] at HBC
          by_cases hl : (F v).size < (F k).size
          · have HE := Lib.hid (M.bestTo_yes (n := k) hb (Or.inr (by rw [hv]; simpa using hl)))
            rw [hv] at ⊢
            have hl' : decide ((F v).size < (F k).size) = true := decide_eq_true hl
            clear hb hv hneg hbd hl e'
            go_wp2
            go_quiet ((go_at_call 80; exact Calls.quiet_of_same (quiet_flip (HBC.out _))))
            go_wp2
            go_roundw
            case rel => exact ⟨k + 1, by omega, by go_num, by rw [HE.out], drewN_two hq.out⟩
            case measure => simp [intOf]; omega
          · have HE := Lib.hid ((M.bestTo_less (P := F) (c := c) (n := k) (by omega) (by rw [hv]; simpa using (by omega : (F k).size ≤ (F v).size))).trans hv)
            rw [hv] at ⊢
            have hl' : decide ((F v).size < (F k).size) = false := decide_eq_false hl
            clear hb hv hneg hbd hl e'
            go_wp2
            go_quiet ((go_at_call 80; exact Calls.quiet_of_same (quiet_flip (HBC.out _))))
            go_wp2
            go_roundw
            case rel => exact ⟨k + 1, by omega, by go_num, by rw [HE.out], drewN_two hq.out⟩
            case measure => simp [intOf]; omega
    · obtain rfl : k = n := by omega
      go_wp2
      go_ret
      exact ⟨rfl, hq.out⟩

set_option maxHeartbeats 400000 in
theorem spec_l6Next (w : World) (a : Option Addr) (n cap : Nat) (F T : Nat → ByteArray) (h : Fws w a n F T) (hf : FFits n F T) (hn : n ≤ 1048576) (c : ByteArray) :
    Calls Try.prog 41 #[.slice a n cap, .string c] w fun e w' => e = .returned (.string (M.nextTo F T c n)) ∧ ∃ m, w' = w.drewN m := by
  have HX := Lib.hid (spec_l6Best w a n cap F T h hf hn c)
  have HL := Lib.hid h
  clear h hf
  have hbd := M.bestTo_bd F c n
  by_cases hneg : M.bestTo F c n < 0
  · have HV : Hid (M.nextTo F T c n = ⟨#[]⟩) := by unfold Hid M.nextTo; exact if_pos hneg
    obtain ⟨v, hv⟩ : ∃ v, M.bestTo F c n = v := ⟨_, rfl⟩
    rw [hv] at hneg HX
    have hd : decide (v < 0) = true := decide_eq_true hneg
    clear hbd hv
    go_enter Try.func41, Try.ntmps41
    go_wp2_with (go_at_call 69; refine HX.out.mono ?_; rintro e w1 ⟨rfl, q, rfl⟩)
    go_ret
    exact ⟨retS HV.out.symm, q, rfl⟩
  · obtain ⟨v, hv⟩ : ∃ v : Nat, M.bestTo F c n = (v : Int) := ⟨(M.bestTo F c n).toNat, by omega⟩
    have HV : Hid (M.nextTo F T c n = T v) := by unfold Hid M.nextTo; rw [if_neg hneg, hv, Int.toNat_natCast]
    have hvn : v < n := by omega
    obtain ⟨b, o, rfl, c0, c1⟩ := HL.out v hvn
    have HE := Lib.hid hv
    clear hneg hbd hv
    go_enter Try.func41, Try.ntmps41
    go_wp2_with (go_at_call 69; refine HX.out.mono ?_; rw [HE.out]; rintro e w1 ⟨rfl, q, rfl⟩)
    go_ret
    exact ⟨retS HV.out.symm, q, rfl⟩

set_option maxHeartbeats 1000000 in
theorem spec_LookUp (w : World) (a : Option Addr) (n cap : Nat) (F T : Nat → ByteArray) (h : Fws w a n F T) (hf : FFits n F T) (hn : n ≤ 1048576) (c : ByteArray) (hc : c.size ≤ maxLen) :
    Calls Try.prog 11 #[.slice a n cap, .string c] w fun e w' => e = .returned (lkV (M.lookUp F T n c)) ∧ ∃ m, w' = w.drewN m := by
  have HX := Lib.hid (spec_l6Next w a n cap F T h hf hn c)
  have HR := Lib.hid (spec_RulesValid w a n cap F T h hf hn)
  have HC := Lib.hid (spec_CodeValid c w hc)
  clear h hf hc
  cases hr : M.rul n F T
  · have HV := Lib.hid (M.lookUp_no (c := c) hr)
    have HE := Lib.hid hr
    clear hr
    go_enter Try.func11, Try.ntmps11
    go_wp2_with (go_at_call 39; refine HR.out.mono ?_; rw [HE.out]; rintro e w1 ⟨rfl, rfl⟩)
    go_ret2
    exact ⟨by rw [HV.out]; rfl, 0, rfl⟩
  · cases hcv : M.code c
    · have HV := Lib.hid (M.lookUp_bad (P := F) (N := T) (n := n) hcv)
      have HE := Lib.hid hr
      have HD := Lib.hid hcv
      clear hr hcv
      go_enter Try.func11, Try.ntmps11
      go_wp2_with (first
        | (go_at_call 39; refine HR.out.mono ?_; rw [HE.out]; rintro e w1 ⟨rfl, rfl⟩)
        | (go_at_call 40; refine HC.out.mono ?_; rw [HD.out]; rintro e w1 ⟨rfl, rfl⟩))
      go_ret2
      exact ⟨by rw [HV.out]; rfl, 0, rfl⟩
    · have HV := Lib.hid ((M.lookUp_yes hr hcv).trans (M.lookUp_best hr (M.code_yes hcv).1))
      have hbd := M.bestTo_bd F c n
      have hnm := fun i hi => (M.name_yes (((M.rul_yes hr).2 i hi).2.1)).2.1
      by_cases hneg : M.bestTo F c n < 0
      · have HN : Hid (M.nextTo F T c n = ⟨#[]⟩) := by unfold Hid M.nextTo; exact if_pos hneg
        have HV2 : Hid (M.lookUp F T n c = none) := by rw [Hid, HV.out, if_pos hneg]
        have HE := Lib.hid hr
        have HD := Lib.hid hcv
        clear hr hcv hneg hbd hnm HV
        go_enter Try.func11, Try.ntmps11
        go_wp2_with (first
          | (go_at_call 39; refine HR.out.mono ?_; rw [HE.out]; rintro e w1 ⟨rfl, rfl⟩)
          | (go_at_call 40; refine HC.out.mono ?_; rw [HD.out]; rintro e w1 ⟨rfl, rfl⟩)
          | (go_at_call 41; refine HX.out.mono ?_; rw [HN.out]; rintro e w1 ⟨rfl, q, rfl⟩))
        go_ret2
        exact ⟨by rw [HV2.out]; rfl, q, rfl⟩
      · obtain ⟨v, hv⟩ : ∃ v : Nat, M.bestTo F c n = (v : Int) := ⟨(M.bestTo F c n).toNat, by omega⟩
        have HN : Hid (M.nextTo F T c n = T v) := by unfold Hid M.nextTo; rw [if_neg hneg, hv, Int.toNat_natCast]
        have HV2 : Hid (M.lookUp F T n c = some (T v)) := by rw [Hid, HV.out, if_neg hneg, hv, Int.toNat_natCast]
        have hne := ne_str (T v) (hnm v (by omega))
        have HE := Lib.hid hr
        have HD := Lib.hid hcv
        clear hr hcv hneg hbd hnm HV hv
        have hne2 : (T v).toList.isEmpty = false := by cases h : (T v).toList with | nil => exact absurd h hne | cons _ _ => rfl
        go_enter Try.func11, Try.ntmps11
        go_wp2_with (first
          | (go_at_call 39; refine HR.out.mono ?_; rw [HE.out]; rintro e w1 ⟨rfl, rfl⟩)
          | (go_at_call 40; refine HC.out.mono ?_; rw [HD.out]; rintro e w1 ⟨rfl, rfl⟩)
          | (go_at_call 41; refine HX.out.mono ?_; rw [HN.out]; rintro e w1 ⟨rfl, q, rfl⟩))
        go_ret2
        exact ⟨by rw [HV2.out]; rfl, q, rfl⟩
end Go.Proofs.Ytabmbbnfpfkcaaa
