/-
  Every k-th letter: what SampleLetters returns, in the program and in the model of the document.
-/
import Derived.Test.YtbkhndgdgefhpaaPass
namespace Go.Proofs.Ytbkhndgdgefhpaa
open Go.RowKit
open Go.PlainAid (bt get_bt bt_nonneg bt_le)

/-- The letters with the indices 0, k, .. (t of them). -/
def M.smp (I : Nat → Int) (C : Nat → ByteArray) (k : Nat) : Nat → List (Int × ByteArray)
  | 0 => []
  | t + 1 => M.smp I C k t ++ [(I (t * k), C (t * k))]
theorem M.smp_succ (I : Nat → Int) (C : Nat → ByteArray) (k t : Nat) : M.smp I C k (t + 1) = M.smp I C k t ++ [(I (t * k), C (t * k))] := rfl
theorem M.smp_len (I : Nat → Int) (C : Nat → ByteArray) (k : Nat) : ∀ t, (M.smp I C k t).length = t
  | 0 => rfl
  | t + 1 => by rw [M.smp_succ, List.length_append, M.smp_len I C k t]; rfl
def M.smpOk (n : Nat) (I : Nat → Int) (C : Nat → ByteArray) (x : Int) : Bool := M.batch n I C && decide (1 ≤ x ∧ x ≤ 60)
def M.smpL (n : Nat) (I : Nat → Int) (C : Nat → ByteArray) (x : Int) : List (Int × ByteArray) := if M.smpOk n I C x = true then M.smp I C x.toNat ((n + x.toNat - 1) / x.toNat) else []
theorem M.smp_end {n k t : Nat} (hk : 1 ≤ k) (h1 : n ≤ t * k) (h2 : t = 0 ∨ (t - 1) * k < n) : t = (n + k - 1) / k := by
  symm
  apply Nat.div_eq_of_lt_le
  · rcases h2 with rfl | h2
    · omega
    · cases t with
      | zero => omega
      | succ t =>
        rw [Nat.add_sub_cancel] at h2
        rw [Nat.succ_mul]
        omega
  · rw [Nat.succ_mul]
    omega
theorem M.smpL_le {n : Nat} {I : Nat → Int} {C : Nat → ByteArray} {x : Int} : (M.smpL n I C x).length ≤ 1048576 := by
  unfold M.smpL
  by_cases h : M.smpOk n I C x = true
  · rw [if_pos h, M.smp_len]
    unfold M.smpOk at h
    rw [Bool.and_eq_true] at h
    have h1 := (M.batch_yes h.1).1
    have h2 := of_decide_eq_true h.2
    exact Nat.le_trans (Nat.div_le_self _ _) (by omega)
  · rw [if_neg h]; exact Nat.zero_le _
theorem M.smp_no {n : Nat} {I : Nat → Int} {C : Nat → ByteArray} {x : Int} (h : M.batch n I C = false ∨ x < 1 ∨ 60 < x) : M.smpOk n I C x = false ∧ M.smpL n I C x = [] := by
  have e : M.smpOk n I C x = false := by
    unfold M.smpOk
    rcases h with h | h
    · rw [h]; rfl
    · rw [decide_eq_false (show ¬ (1 ≤ x ∧ x ≤ 60) by omega), Bool.and_false]
  refine ⟨e, ?_⟩
  unfold M.smpL
  rw [if_neg (by rw [e]; decide)]
theorem M.smp_yes {n : Nat} {I : Nat → Int} {C : Nat → ByteArray} {x : Int} (h : M.batch n I C = true) (h1 : 1 ≤ x) (h2 : x ≤ 60) : M.smpOk n I C x = true ∧ M.smpL n I C x = M.smp I C x.toNat ((n + x.toNat - 1) / x.toNat) := by
  have e : M.smpOk n I C x = true := by
    unfold M.smpOk
    rw [h, decide_eq_true (show 1 ≤ x ∧ x ≤ 60 from ⟨h1, h2⟩)]; rfl
  refine ⟨e, ?_⟩
  unfold M.smpL
  rw [if_pos e]

set_option maxHeartbeats 1000000 in
theorem impl_SampleLetters (w : World) (a : Option Addr) (n c : Nat) (I : Nat → Int) (C : Nat → ByteArray) (h : Lts w a n I C) (hf : Fits n I C) (x : Int) :
    Calls Try.prog 43 #[.slice a n c, .int .i64 x] w (RowRes w (M.smpOk n I C x) (M.smpL n I C x)) := by
  have HF := Lib.hid hf
  have HL := Lib.hid h
  clear h hf
  cases hb : M.batch n I C
  · obtain ⟨v1, v2⟩ := M.smp_no (n := n) (I := I) (C := C) (x := x) (Or.inl hb)
    rw [v1, v2]
    have HB := Lib.hid hb
    clear hb v1 v2
    go_enter Try.func43, Try.ntmps43
    go_wp2_with (go_at_call 29; refine (impl_BatchValid _ _ _ _ _ _ HL.out HF.out).mono ?_; rw [HB.out]; rintro e w1 ⟨rfl, hb1⟩)
    go_ret2
    exact ⟨_, rfl, Row.nil _ _, hb1⟩
  have hn := (M.batch_yes hb).1
  have HB := Lib.hid hb
  by_cases h1 : x < 1
  · obtain ⟨v1, v2⟩ := M.smp_no (n := n) (I := I) (C := C) (x := x) (Or.inr (Or.inl h1))
    rw [v1, v2]
    clear hb v1 v2
    go_enter Try.func43, Try.ntmps43
    go_wp2_with (go_at_call 29; refine (impl_BatchValid _ _ _ _ _ _ HL.out HF.out).mono ?_; rw [HB.out]; rintro e w1 ⟨rfl, hb1⟩)
    go_ret2
    exact ⟨_, rfl, Row.nil _ _, hb1⟩
  by_cases h2 : 60 < x
  · obtain ⟨v1, v2⟩ := M.smp_no (n := n) (I := I) (C := C) (x := x) (Or.inr (Or.inr h2))
    rw [v1, v2]
    clear hb v1 v2
    go_enter Try.func43, Try.ntmps43
    go_wp2_with (go_at_call 29; refine (impl_BatchValid _ _ _ _ _ _ HL.out HF.out).mono ?_; rw [HB.out]; rintro e w1 ⟨rfl, hb1⟩)
    go_ret2
    exact ⟨_, rfl, Row.nil _ _, hb1⟩
  obtain ⟨v1, v2⟩ := M.smp_yes (n := n) (I := I) (C := C) (x := x) hb (by omega) (by omega)
  rw [v1, v2]
  obtain ⟨k, rfl⟩ := Int.eq_ofNat_of_zero_le (show 0 ≤ x by omega)
  rw [Int.toNat_natCast]
  have hk1 : 1 ≤ k := by omega
  have hk2 : k ≤ 60 := by omega
  have HE := Lib.hid (fun t h1 h2 => M.smp_end (n := n) (k := k) (t := t) hk1 h1 h2)
  obtain ⟨T, hT⟩ : ∃ T, (n + k - 1) / k = T := ⟨_, rfl⟩
  rw [hT] at HE ⊢
  clear hb v1 v2 hT h1 h2
  go_enter Try.func43, Try.ntmps43
  go_wp2_with (go_at_call 29; refine (impl_BatchValid _ _ _ _ _ _ HL.out HF.out).mono ?_; rw [HB.out]; rintro e w1 ⟨rfl, hb1⟩)
  go_loopw [6, 7] (fun u i wr => ∃ t q : Nat, Hid (q = t * k) ∧ q ≤ n + 59 ∧ Hid (t = 0 ∨ (t - 1) * k < n) ∧ i = .int .i64 q ∧ Hid (Row wr w1.heap.size u (M.smp I C k t)) ∧ Below w1.heap.size w1 wr) (fun _ i _ => n + 120 - (intOf i).toNat)
  case atStart => exact ⟨0, 0, (Nat.zero_mul _).symm, by omega, Or.inl rfl, rfl, Row.nil _ _, Below.refl _ _⟩
  case round =>
    obtain ⟨t, q, hq, hqn, ht, rfl, hr, hb⟩ := hrel
    have hz := hb.size
    by_cases hlt : q < n
    · obtain ⟨b, o, rfl, c0, c1⟩ := ((HL.out.on hb1).on hb) q hlt
      have hlen := M.smp_len I C k t
      have htn : t ≤ n + 59 := Nat.le_trans (by have := Nat.mul_le_mul_left t hk1; have := hq.out; omega) hqn
      have HS : Hid (M.smp I C k (t + 1) = M.smp I C k t ++ [(I q, C q)]) := by show M.smp I C k (t + 1) = _; rw [M.smp_succ, ← hq.out]
      have HQ : Hid (q + k = (t + 1) * k) := by have := hq.out; show q + k = (t + 1) * k; rw [Nat.succ_mul]; omega
      have HT : Hid (t + 1 = 0 ∨ (t + 1 - 1) * k < n) := Or.inr (by rw [Nat.add_sub_cancel, ← hq.out]; exact hlt)
      obtain ⟨L, hL⟩ : ∃ L, M.smp I C k t = L := ⟨_, rfl⟩
      rw [hL] at hlen HS hr
      clear hL
      go_wp2_with (at_builtin; refine wpList_append_letter _ rfl _ _ rfl w1.heap.size _ _ rfl (hr.out.alloc _) _ (I q) (C q) rfl ?_ (by omega) (by simp; omega) ?_)
      · simp [go_sem]
      · intro v' w4 hr3 hg3 ho3
        have q3 := below_grown (W := w1) (hb.alloc hz _) (hr.out.alloc _) (Nat.le_refl _) hg3
        have R3 := Lib.hid hr3
        clear hr3 hg3 ho3
        go_wp2
        go_roundw
        case rel => exact ⟨t + 1, q + k, HQ.out, by omega, HT.out, by go_num, by rw [HS.out]; exact R3.out, q3⟩
        case measure => simp [intOf]; omega
    · obtain rfl := HE.out t (by have := hq.out; omega) ht.out
      go_wp2
      go_ret2
      exact ⟨_, rfl, hr.out.lower hb1.size, step hb1 hb⟩

set_option maxHeartbeats 1000000 in
theorem spec_SampleLetters (w : World) (a : Option Addr) (n c : Nat) (I : Nat → Int) (C : Nat → ByteArray) (h : Lts w a n I C) (hf : Fits n I C) (hn0 : n ≤ 1048576) (x : Int) :
    Calls Try.prog 44 #[.slice a n c, .int .i64 x] w (RowRes w (M.smpOk n I C x) (M.smpL n I C x)) := by
  have b0 := below_alloc0 w (.cells #[] 31)
  have HF := Lib.hid hf
  have HL := Lib.hid (h.on b0)
  have H0 := Lib.hid h
  have HR := Lib.hid (one_row w)
  have B0 := Lib.hid b0
  clear h hf b0
  cases hb : M.batch n I C
  · obtain ⟨v1, v2⟩ := M.smp_no (n := n) (I := I) (C := C) (x := x) (Or.inl hb)
    rw [v1, v2]
    have HB := Lib.hid hb
    clear hb v1 v2
    go_enter Try.func44, Try.ntmps44
    go_wp2_with (go_at_call 62; refine (spec_BatchValid _ _ _ _ _ _ HL.out HF.out hn0).mono ?_; rw [HB.out]; rintro e w1 ⟨rfl, hb1⟩)
    go_ret2
    exact ⟨_, rfl, HR.out.on hb1, step B0.out hb1⟩
  have hn := (M.batch_yes hb).1
  have HB := Lib.hid hb
  by_cases h1 : 1 ≤ x ∧ x ≤ 60
  case neg =>
    obtain ⟨v1, v2⟩ := M.smp_no (n := n) (I := I) (C := C) (x := x) (Or.inr (by omega))
    rw [v1, v2]
    have hd := Lib.hid (decide_eq_false h1)
    clear hb v1 v2 h1
    go_enter Try.func44, Try.ntmps44
    go_wp2_with (first
      | (go_at_call 62; refine (spec_BatchValid _ _ _ _ _ _ HL.out HF.out hn0).mono ?_; rw [HB.out]; rintro e w1 ⟨rfl, hb1⟩)
      | (go_at_call 81; refine (spec_l1In _ _ _ _).mono ?_; rw [hd.out]; rintro e w2 ⟨rfl, rfl⟩))
    go_ret2
    exact ⟨_, rfl, HR.out.on hb1, step B0.out hb1⟩
  obtain ⟨v1, v2⟩ := M.smp_yes (n := n) (I := I) (C := C) (x := x) hb (by omega) (by omega)
  rw [v1, v2]
  have hd := Lib.hid (decide_eq_true h1)
  obtain ⟨k, rfl⟩ := Int.eq_ofNat_of_zero_le (show 0 ≤ x by omega)
  rw [Int.toNat_natCast]
  have hk1 : 1 ≤ k := by omega
  have hk2 : k ≤ 60 := by omega
  have HE := Lib.hid (fun t h1 h2 => M.smp_end (n := n) (k := k) (t := t) hk1 h1 h2)
  obtain ⟨T, hT⟩ : ∃ T, (n + k - 1) / k = T := ⟨_, rfl⟩
  rw [hT] at HE ⊢
  clear hb v1 v2 hT h1
  go_enter Try.func44, Try.ntmps44
  go_wp2_with (first
    | (go_at_call 62; refine (spec_BatchValid _ _ _ _ _ _ HL.out HF.out hn0).mono ?_; rw [HB.out]; rintro e w1 ⟨rfl, hb1⟩)
    | (go_at_call 81; refine (spec_l1In _ _ _ _).mono ?_; rw [hd.out]; rintro e w2 ⟨rfl, rfl⟩))
  have hbw : Below w.heap.size w w1 := step B0.out hb1
  go_loopw [6, 7] (fun u i wr => ∃ t q : Nat, Hid (q = t * k) ∧ q ≤ n + 59 ∧ Hid (t = 0 ∨ (t - 1) * k < n) ∧ i = .int .i64 q ∧ Hid (Row wr w.heap.size u (M.smp I C k t)) ∧ Below w.heap.size w wr) (fun _ i _ => n + 120 - (intOf i).toNat)
  case atStart => exact ⟨0, 0, (Nat.zero_mul _).symm, by omega, Or.inl rfl, rfl, HR.out.on hb1, hbw⟩
  case round =>
    obtain ⟨t, q, hq, hqn, ht, rfl, hr, hb⟩ := hrel
    have hz := hb.size
    by_cases hlt : q < n
    · obtain ⟨b, o, rfl, c0, c1⟩ := (H0.out.on hb) q hlt
      have hlen := M.smp_len I C k t
      have htn : t ≤ n + 59 := Nat.le_trans (by have := Nat.mul_le_mul_left t hk1; have := hq.out; omega) hqn
      have HS : Hid (M.smp I C k (t + 1) = M.smp I C k t ++ [(I q, C q)]) := by show M.smp I C k (t + 1) = _; rw [M.smp_succ, ← hq.out]
      have HQ : Hid (q + k = (t + 1) * k) := by have := hq.out; show q + k = (t + 1) * k; rw [Nat.succ_mul]; omega
      have HT : Hid (t + 1 = 0 ∨ (t + 1 - 1) * k < n) := Or.inr (by rw [Nat.add_sub_cancel, ← hq.out]; exact hlt)
      obtain ⟨L, hL⟩ : ∃ L, M.smp I C k t = L := ⟨_, rfl⟩
      rw [hL] at hlen HS hr
      clear hL
      go_wp2_with (at_builtin; refine wpList_append_letter _ rfl _ _ rfl w.heap.size _ _ rfl (hr.out.alloc _) _ (I q) (C q) rfl ?_ (by omega) (by simp; omega) ?_)
      · simp [go_sem]
      · intro v' w4 hr3 hg3 ho3
        have q3 := below_grown (W := w) (hb.alloc hz _) (hr.out.alloc _) (Nat.le_refl _) hg3
        have R3 := Lib.hid hr3
        clear hr3 hg3 ho3
        go_wp2
        go_roundw
        case rel => exact ⟨t + 1, q + k, HQ.out, by omega, HT.out, by go_num, by rw [HS.out]; exact R3.out, q3⟩
        case measure => simp [intOf]; omega
    · obtain rfl := HE.out t (by have := hq.out; omega) ht.out
      go_wp2
      go_ret2
      exact ⟨_, rfl, hr.out, hb⟩
end Go.Proofs.Ytbkhndgdgefhpaa
