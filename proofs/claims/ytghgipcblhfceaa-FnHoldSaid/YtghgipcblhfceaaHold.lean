/-
  What HoldBatch returns, in the program and in the model of the document.
-/
import Derived.Test.YtghgipcblhfceaaHoldM
import Derived.Test.YtghgipcblhfceaaRank
import Derived.Test.YtghgipcblhfceaaSplit
namespace Go.Proofs.Ytghgipcblhfceaa
open Go.RowKit
open Go.PlainAid (bt get_bt bt_nonneg bt_le)

set_option maxHeartbeats 400000 in
theorem slices_Contains (w : World) (a : Option Addr) (n c : Nat) (S : Nat → ByteArray) (h : Strs w a n S) (hn : n ≤ 1048576) (x : ByteArray) :
    Calls Try.prog 26 #[.slice a n c, .string x] w fun e w' => e = .returned (.bool (M.heldF S n x)) ∧ w = w' := by
  have HL := Lib.hid h
  have hd : Hid ((decide (0 ≤ M.rankTo S x n)) = M.heldF S n x) := rfl
  clear h
  go_enter Try.func26, Try.ntmps26
  go_wp2_with (go_at_call 45; refine (slices_Index _ a n c S HL.out hn x).mono ?_; rintro e w1 ⟨rfl, rfl⟩)
  go_ret
  exact ⟨ret_bool hd.out, rfl⟩
set_option maxHeartbeats 400000 in
theorem holds_it (w : World) (B : Nat) (i : Int) (s : ByteArray) (a : Option Addr) (n c : Nat) (S : Nat → ByteArray) (hB : w.cell? ⟨B, 0, none⟩ = some (.slice a n c)) (h : Strs w a n S) (hn : n ≤ 1048576) :
    Calls Try.prog 25 #[.agg #[.int .i64 i, .string s], .pointer (some ⟨B, 0, none⟩)] w fun e w' => e = .returned (.bool (M.heldF S n s)) ∧ Below w.heap.size w w' := by
  have hlt := World.block_lt_of_cell? _ _ hB
  have HL := Lib.hid (h.on (below_alloc0 w (.cells #[.int .i64 i, .string s] 32)))
  clear h
  go_enter Try.func25, Try.ntmps25
  go_wp2_with (go_at_call 26; refine (slices_Contains _ a n c S HL.out hn s).mono ?_; rintro e w1 ⟨rfl, rfl⟩)
  go_ret
  exact ⟨rfl, by go_grown⟩
set_option maxHeartbeats 400000 in
theorem no_code (w : World) (s : ByteArray) (hs : s.size ≤ maxLen) :
    Calls Try.prog 43 #[.string s] w fun e w' => e = .returned (.bool (!M.code s)) ∧ Below w.heap.size w w' := by
  go_enter Try.func43, Try.ntmps43
  go_wp2_with (go_at_call 42; refine (impl_CodeValid _ _ hs).mono ?_; rintro e w1 ⟨rfl, hb1⟩; replace hb1 := hb1.below)
  go_ret
  exact ⟨rfl, hb1⟩
set_option maxHeartbeats 1000000 in
theorem index_nocode (w : World) (a : Option Addr) (n c : Nat) (S : Nat → ByteArray) (h : Strs w a n S) (hf : SFits n S) (hn : n ≤ 30) :
    Calls Try.prog 55 #[.slice a n c, .func (.func 43) #[] #[]] w fun e w' => ∃ r : Int, e = .returned (.int .i64 r) ∧ Hid (decide (0 ≤ r) = !M.allCodes S n) ∧ Below w.heap.size w w' := by
  have HF := Lib.hid hf
  have HL := Lib.hid h
  clear h hf
  go_enter Try.func55, Try.ntmps55
  go_wp2
  go_loopw [8] (fun i wr => ∃ k : Nat, k ≤ n ∧ i = .int .i64 k ∧ Hid (∀ j, j < k → M.code (S j) = true) ∧ Below w.heap.size w wr) (fun i _ => n - (intOf i).toNat)
  case atStart => exact ⟨0, Nat.zero_le _, rfl, fun j hj => absurd hj (by omega), Below.refl _ _⟩
  case round =>
    obtain ⟨k, hk, rfl, hall, hb⟩ := hrel
    by_cases hlt : k < n
    · obtain ⟨b, o, rfl, c1⟩ := (HL.out.on hb) k hlt
      have s1 := HF.out k hlt
      cases hc : M.code (S k)
      · have HC := Lib.hid hc
        clear hc
        go_wp2_with (go_at_call 43; refine (no_code _ _ s1).mono ?_; rw [HC.out]; rintro e w1 ⟨rfl, hb1⟩)
        go_ret
        exact ⟨_, rfl, by rw [M.allCodes_no hlt HC.out, decide_eq_true (by omega)]; rfl, sstep hb hb1⟩
      · have HC := Lib.hid hc
        clear hc
        go_wp2_with (go_at_call 43; refine (no_code _ _ s1).mono ?_; rw [HC.out]; rintro e w1 ⟨rfl, hb1⟩)
        go_roundw
        case rel => exact ⟨k + 1, by omega, by go_num, fun j hj => by by_cases e : j = k; (subst e; exact HC.out); exact hall.out j (by omega), sstep hb hb1⟩
        case measure => simp [intOf]; omega
    · obtain rfl : k = n := by omega
      go_wp2
      go_ret
      exact ⟨_, rfl, by rw [(M.allCodes_iff S k).2 hall.out]; rfl, hb⟩
set_option maxHeartbeats 400000 in
theorem any_nocode (w : World) (a : Option Addr) (n c : Nat) (S : Nat → ByteArray) (h : Strs w a n S) (hf : SFits n S) (hn : n ≤ 30) :
    Calls Try.prog 44 #[.slice a n c, .func (.func 43) #[] #[]] w fun e w' => e = .returned (.bool (!M.allCodes S n)) ∧ Below w.heap.size w w' := by
  have HC := Lib.hid (index_nocode w a n c S h hf hn)
  clear h hf
  go_enter Try.func44, Try.ntmps44
  go_wp2_with (go_at_call 55; refine HC.out.mono ?_; rintro e w1 ⟨r, rfl, hr, hb1⟩)
  go_ret
  exact ⟨ret_bool hr.out, hb1⟩
set_option maxHeartbeats 400000 in
theorem impl_heldValid (w : World) (a : Option Addr) (n c : Nat) (S : Nat → ByteArray) (h : Strs w a n S) (hf : SFits n S) (hn : n ≤ 1048576) :
    Calls Try.prog 23 #[.slice a n c] w fun e w' => e = .returned (.bool (decide (n ≤ 30) && M.allCodes S n)) ∧ Below w.heap.size w w' := by
  by_cases h30 : n ≤ 30
  · have HC := Lib.hid (any_nocode w a n c S h hf h30)
    have hv : Hid ((decide (n ≤ 30) && M.allCodes S n) = M.allCodes S n) := by rw [decide_eq_true h30]; exact Bool.true_and _
    clear h hf
    obtain ⟨A, hA⟩ : ∃ A, M.allCodes S n = A := ⟨_, rfl⟩
    rw [hA] at HC hv
    rw [hA]
    go_enter Try.func23, Try.ntmps23
    go_wp2_with (go_at_call 44; refine HC.out.mono ?_; rintro e w1 ⟨rfl, hb1⟩)
    go_ret
    exact ⟨ret_bool hv.out.symm, hb1⟩
  · have hv : Hid ((decide (n ≤ 30) && M.allCodes S n) = false) := by rw [decide_eq_false h30]; exact Bool.false_and _
    clear h hf
    go_enter Try.func23, Try.ntmps23
    go_wp2
    go_ret
    exact ⟨ret_bool (by first | exact hv.out.symm | rfl), Below.refl _ _⟩
set_option maxHeartbeats 2000000 in
theorem divide_hold (w : World) (a : Option Addr) (n c : Nat) (I : Nat → Int) (C : Nat → ByteArray) (h : Lts w a n I C) (hf : Fits n I C) (hn : n ≤ 60) (B : Nat) (a2 : Option Addr) (m c2 : Nat) (S : Nat → ByteArray) (hB : w.cell? ⟨B, 0, none⟩ = some (.slice a2 m c2)) (h2 : Strs w a2 m S) (hm : m ≤ 1048576) (f : ByteArray → Bool) (hfun : f = M.heldF S m) :
    Calls Try.prog 24 #[.slice a n c, .func (.func 25) #[] #[.pointer (some ⟨B, 0, none⟩)]] w (Two w (M.withF f (M.lst I C n)) (M.sansF f (M.lst I C n))) := by
  have HF := Lib.hid hf
  have HL := Lib.hid h
  have HFUN := Lib.hid hfun
  have hlt0 := World.block_lt_of_cell? _ _ hB
  have HC : Hid (∀ W : World, Below w.heap.size w W → ∀ (i : Int) (s : ByteArray), Calls Try.prog 25 #[.agg #[.int .i64 i, .string s], .pointer (some ⟨B, 0, none⟩)] W fun e w' => e = .returned (.bool (f s)) ∧ Below W.heap.size W w') := fun W hW i s => by
    rw [hfun]
    exact holds_it W B i s a2 m c2 S ((hW.cell (p := ⟨B, 0, none⟩) hlt0).trans hB) (h2.on hW) hm
  clear h hf hfun hB
  go_enter Try.func24, Try.ntmps24
  go_wp2
  go_loopw [6, 7, 12] (fun u v i wr => ∃ k : Nat, k ≤ n ∧ i = .int .i64 k ∧ Hid (Row wr w.heap.size u (M.withF f (M.lst I C k))) ∧ Hid (Row wr w.heap.size v (M.sansF f (M.lst I C k))) ∧ Hid (Apart u v) ∧ Below w.heap.size w wr) (fun _ _ i _ => n - (intOf i).toNat)
  case atStart => exact ⟨0, Nat.zero_le _, rfl, Row.nil _ _, Row.nil _ _, Apart.nil _, Below.refl _ _⟩
  case round =>
    obtain ⟨k, hk, rfl, ru, rv, hap, hb⟩ := hrel
    have hz := hb.size
    by_cases hlt : k < n
    · obtain ⟨b, o, rfl, c0, c1⟩ := (HL.out.on hb) k hlt
      cases hbg : f (C k)
      · have HG := Lib.hid hbg
        obtain ⟨e1, e2⟩ := M.filt_no (I := I) hbg
        have E1 := Lib.hid e1
        have E2 := Lib.hid e2
        have hle := M.sansF_le f I C k
        clear hbg e1 e2
        go_wp2_with (first
          | (go_at_call 25; refine (HC.out _ (by go_grown) _ _).mono ?_; rw [HG.out]; rintro e w3 ⟨rfl, kk⟩; have q0 : w3.cell? ⟨wr.heap.size, 0, none⟩ = some (.int .i64 (I k)) := (by rw [kk.cell (by simp)]; simp); have q1 : w3.cell? ⟨wr.heap.size, 1, none⟩ = some (.string (C k)) := (by rw [kk.cell (by simp)]; simp); have k3 : Below wr.heap.size wr w3 := Below.trans (by go_grown) (kk.mono (by simp)); have K3 := Lib.hid k3; have hb3 : Below w.heap.size w w3 := step hb k3; have hz3 := hb3.size; clear kk k3)
          | (at_builtin; refine wpList_append_letter _ rfl _ _ rfl w.heap.size _ _ rfl ((rv.out.on K3.out).alloc _) _ (I k) (C k) rfl ?_ (by omega) (by simp; omega) ?_))
        · simp [go_sem]
        · intro v' w4 hr3 hg3 ho3
          obtain ⟨q1, q2⟩ := two_kept ((ru.out.on K3.out).alloc _) hap.out.symm hg3 ho3 (by simp)
          have q3 := below_grown (W := w) (hb3.alloc hz3 _) ((rv.out.on K3.out).alloc _) (Nat.le_refl _) hg3
          have Q1 := Lib.hid q1
          have Q2 := Lib.hid q2
          have R3 := Lib.hid hr3
          clear hr3 hg3 ho3 q1 q2
          go_wp2
          go_roundw
          case rel => exact ⟨k + 1, by omega, by go_num, by rw [E1.out]; exact Q1, by rw [E2.out]; exact R3, Q2.out.symm, q3⟩
          case measure => simp [intOf]; omega
      · have HG := Lib.hid hbg
        obtain ⟨e1, e2⟩ := M.filt_yes (I := I) hbg
        have E1 := Lib.hid e1
        have E2 := Lib.hid e2
        have hle := M.withF_le f I C k
        clear hbg e1 e2
        go_wp2_with (first
          | (go_at_call 25; refine (HC.out _ (by go_grown) _ _).mono ?_; rw [HG.out]; rintro e w3 ⟨rfl, kk⟩; have q0 : w3.cell? ⟨wr.heap.size, 0, none⟩ = some (.int .i64 (I k)) := (by rw [kk.cell (by simp)]; simp); have q1 : w3.cell? ⟨wr.heap.size, 1, none⟩ = some (.string (C k)) := (by rw [kk.cell (by simp)]; simp); have k3 : Below wr.heap.size wr w3 := Below.trans (by go_grown) (kk.mono (by simp)); have K3 := Lib.hid k3; have hb3 : Below w.heap.size w w3 := step hb k3; have hz3 := hb3.size; clear kk k3)
          | (at_builtin; refine wpList_append_letter _ rfl _ _ rfl w.heap.size _ _ rfl ((ru.out.on K3.out).alloc _) _ (I k) (C k) rfl ?_ (by omega) (by simp; omega) ?_))
        · simp [go_sem]
        · intro v' w4 hr3 hg3 ho3
          obtain ⟨q1, q2⟩ := two_kept ((rv.out.on K3.out).alloc _) hap.out hg3 ho3 (by simp)
          have q3 := below_grown (W := w) (hb3.alloc hz3 _) ((ru.out.on K3.out).alloc _) (Nat.le_refl _) hg3
          have Q1 := Lib.hid q1
          have Q2 := Lib.hid q2
          have R3 := Lib.hid hr3
          clear hr3 hg3 ho3 q1 q2
          go_wp2
          go_roundw
          case rel => exact ⟨k + 1, by omega, by go_num, by rw [E1.out]; exact R3, by rw [E2.out]; exact Q1, Q2.out, q3⟩
          case measure => simp [intOf]; omega
    · obtain rfl : k = n := by omega
      go_wp2
      go_ret2
      exact ⟨_, _, rfl, ru.out, rv.out, hap.out, hb⟩
set_option maxHeartbeats 2000000 in
theorem impl_HoldBatch (w : World) (a : Option Addr) (n c : Nat) (I : Nat → Int) (C : Nat → ByteArray) (h : Lts w a n I C) (hf : Fits n I C) (a2 : Option Addr) (m c2 : Nat) (S : Nat → ByteArray) (h2 : Strs w a2 m S) (hf2 : SFits m S) (hm : m ≤ 1048576) :
    Calls Try.prog 6 #[.slice a n c, .slice a2 m c2] w (Split w (M.holdOk n I C m S) (M.holdOut n I C m S) (M.holdKept n I C m S)) := by
  have HF := Lib.hid hf
  have HL := Lib.hid (h.on (below_alloc0 w (.cells #[.slice a2 m c2] 24)))
  have HF2 := Lib.hid hf2
  have HS := Lib.hid (h2.on (below_alloc0 w (.cells #[.slice a2 m c2] 24)))
  have hmf : ∀ (fn : Fn) (first cap : Array Value) (w : World), (Instr.makeFunc fn first cap).run Try.prog w = .ok (.func fn first cap) w := fun _ _ _ _ => rfl
  have hb0 := below_alloc0 w (.cells #[.slice a2 m c2] 24)
  have HB0 := Lib.hid hb0
  clear h hf h2 hf2 hb0
  cases hb : M.batch n I C
  · have hk : M.holdOk n I C m S = false := by unfold M.holdOk; rw [hb]; rfl
    have h1 : M.holdOut n I C m S = [] := if_neg (by rw [hk]; decide)
    have h2 : M.holdKept n I C m S = [] := if_neg (by rw [hk]; decide)
    rw [hk, h1, h2]
    have HB := Lib.hid hb
    clear hb hk h1 h2
    go_enter Try.func6, Try.ntmps6
    go_wp2_with fail
    refine (impl_BatchValid _ _ _ _ _ _ HL.out HF.out).mono ?_
    rw [HB.out]
    rintro e w1 ⟨rfl, hb1⟩
    go_wp2
    go_ret3
    exact ⟨_, _, rfl, Row.nil _ _, Row.nil _ _, Apart.nil _, step HB0.out hb1⟩
  cases hq : (decide (m ≤ 30) && M.allCodes S m)
  · have hk : M.holdOk n I C m S = false := by unfold M.holdOk; rw [hb, hq]; rfl
    have h1 : M.holdOut n I C m S = [] := if_neg (by rw [hk]; decide)
    have h2 : M.holdKept n I C m S = [] := if_neg (by rw [hk]; decide)
    rw [hk, h1, h2]
    have HB := Lib.hid hb
    have HQ := Lib.hid hq
    clear hb hq hk h1 h2
    go_enter Try.func6, Try.ntmps6
    go_wp2_with fail
    refine (impl_BatchValid _ _ _ _ _ _ HL.out HF.out).mono ?_
    rw [HB.out]
    rintro e w1 ⟨rfl, hb1⟩
    have hc1 : w1.cell? ⟨w.heap.size, 0, none⟩ = some (.slice a2 m c2) := by
      rw [hb1.cell (p := ⟨w.heap.size, 0, none⟩) (by simp)]
      simp
    go_wp2_with fail
    refine (impl_heldValid _ a2 m c2 S (HS.out.on hb1) HF2.out hm).mono ?_
    rw [HQ.out]
    rintro e w2 ⟨rfl, k2⟩
    go_wp2
    go_ret3
    exact ⟨_, _, rfl, Row.nil _ _, Row.nil _ _, Apart.nil _, step (step HB0.out hb1) k2⟩
  · have hk : M.holdOk n I C m S = true := by unfold M.holdOk; rw [hb, hq]; rfl
    have h1 : M.holdOut n I C m S = M.sansF (M.heldF S m) (M.lst I C n) := if_pos hk
    have h2 : M.holdKept n I C m S = M.withF (M.heldF S m) (M.lst I C n) := if_pos hk
    rw [hk, h1, h2]
    have hn6 := (M.batch_yes hb).1
    have HB := Lib.hid hb
    have HQ := Lib.hid hq
    clear hb hq hk h1 h2
    go_enter Try.func6, Try.ntmps6
    go_wp2_with fail
    refine (impl_BatchValid _ _ _ _ _ _ HL.out HF.out).mono ?_
    rw [HB.out]
    rintro e w1 ⟨rfl, hb1⟩
    have hc1 : w1.cell? ⟨w.heap.size, 0, none⟩ = some (.slice a2 m c2) := by
      rw [hb1.cell (p := ⟨w.heap.size, 0, none⟩) (by simp)]
      simp
    have hl1 := World.block_lt_of_cell? _ _ hc1
    go_wp2_with fail
    refine (impl_heldValid _ a2 m c2 S (HS.out.on hb1) HF2.out hm).mono ?_
    rw [HQ.out]
    rintro e w2 ⟨rfl, k2⟩
    have hc2 : w2.cell? ⟨w.heap.size, 0, none⟩ = some (.slice a2 m c2) := (k2.cell (p := ⟨w.heap.size, 0, none⟩) hl1).trans hc1
    have hb2 := step (step HB0.out hb1) k2
    have HL2 := Lib.hid ((HL.out.on hb1).on k2)
    have HS2 := Lib.hid ((HS.out.on hb1).on k2)
    clear hc1 hl1 hb1 k2 HL HS
    have hz2 := hb2.size
    go_wp2_with fail
    refine (divide_hold _ _ _ _ _ _ HL2.out HF.out hn6 _ a2 m c2 S hc2 HS2.out hm _ rfl).mono ?_
    rintro e w3 ⟨v, v', rfl, r1, r2, hap, hb3⟩
    go_wp2
    go_ret3
    exact ⟨_, _, rfl, r2.lower0 hz2, r1.lower0 hz2, hap.symm, step hb2 hb3⟩
set_option maxHeartbeats 2000000 in
theorem spec_HoldBatch (w : World) (a : Option Addr) (n c : Nat) (I : Nat → Int) (C : Nat → ByteArray) (h : Lts w a n I C) (hf : Fits n I C) (hn : n ≤ 1048576) (a2 : Option Addr) (m c2 : Nat) (S : Nat → ByteArray) (h2 : Strs w a2 m S) (hf2 : SFits m S) (hm : m ≤ 1048576) :
    Calls Try.prog 7 #[.slice a n c, .slice a2 m c2] w (Split w (M.holdOk n I C m S) (M.holdOut n I C m S) (M.holdKept n I C m S)) := by
  have HF := Lib.hid hf
  have HL0 := Lib.hid h
  have HL := Lib.hid ((h.on (below_alloc0 w (.cells #[] 32))).on (below_alloc0 _ (.cells #[] 32)))
  have HS := Lib.hid ((h2.on (below_alloc0 w (.cells #[] 32))).on (below_alloc0 _ (.cells #[] 32)))
  have HF2 := Lib.hid hf2
  have HS0 := Lib.hid h2
  have HE := Lib.hid (two_empty w)
  clear h hf h2 hf2
  cases hb : M.batch n I C
  · have hk : M.holdOk n I C m S = false := by unfold M.holdOk; rw [hb]; rfl
    have h1 : M.holdOut n I C m S = [] := if_neg (by rw [hk]; decide)
    have h2 : M.holdKept n I C m S = [] := if_neg (by rw [hk]; decide)
    rw [hk, h1, h2]
    have HB := Lib.hid hb
    clear hb hk h1 h2
    go_enter Try.func7, Try.ntmps7
    go_wp2_with fail
    refine (spec_BatchValid _ _ _ _ _ _ HL.out HF.out hn).mono ?_
    rw [HB.out]
    rintro e w1 ⟨rfl, hb1⟩
    have HE1 := Lib.hid (And.intro (HE.out.1.on hb1) (And.intro (HE.out.2.1.on hb1) HE.out.2.2))
    have HS1 := Lib.hid (HS.out.on hb1)
    have HB1 : Hid (Below w.heap.size w w1) := step (by go_grown) hb1
    clear hb1 HL HS
    go_wp2
    go_loop [9, 10] (fun g i => ∃ j : Nat, j ≤ m ∧ i = .int .i64 j ∧ g = .bool false) (fun _ i => m - (intOf i).toNat)
    case atStart => exact ⟨0, Nat.zero_le _, rfl, by first | rfl | rw [decide_eq_false (by omega)]⟩
    case round =>
      obtain ⟨j, hj, rfl, rfl⟩ := hrel
      by_cases hlt : j < m
      · go_wp2
        go_round
        case rel => exact ⟨j + 1, by omega, by go_num, rfl⟩
        case measure => simp [intOf]; omega
      · obtain rfl : j = m := by omega
        go_wp2
        by_cases hn0 : 0 < n
        · go_rounds 1
          go_ret3
          exact ⟨_, _, rfl, HE1.out.1, HE1.out.2.1, HE1.out.2.2, HB1.out⟩
        · obtain rfl : n = 0 := by omega
          go_rounds 1
          go_ret3
          exact ⟨_, _, rfl, HE1.out.1, HE1.out.2.1, HE1.out.2.2, HB1.out⟩
  by_cases h30 : m ≤ 30
  · have hn6 := (M.batch_yes hb).1
    have HB := Lib.hid hb
    obtain ⟨ok, hok⟩ : ∃ ok, M.holdOk n I C m S = ok := ⟨_, rfl⟩
    obtain ⟨L1, hL1⟩ : ∃ L1, M.holdOut n I C m S = L1 := ⟨_, rfl⟩
    obtain ⟨L2, hL2⟩ : ∃ L2, M.holdKept n I C m S = L2 := ⟨_, rfl⟩
    have hkk : Hid (∀ A, M.allCodes S m = A → ok = A ∧ (A = false → L1 = [] ∧ L2 = []) ∧ (A = true → L1 = M.sansF (M.heldF S m) (M.lst I C n) ∧ L2 = M.withF (M.heldF S m) (M.lst I C n))) := by
      intro A hA
      have hk : M.holdOk n I C m S = A := by
        unfold M.holdOk
        rw [hb, hA, decide_eq_true h30]; rfl
      refine ⟨hok.symm.trans hk, fun e => ?_, fun e => ?_⟩
      · subst e
        exact ⟨hL1.symm.trans (if_neg (by rw [hk]; decide)), hL2.symm.trans (if_neg (by rw [hk]; decide))⟩
      · subst e
        exact ⟨hL1.symm.trans (if_pos hk), hL2.symm.trans (if_pos hk)⟩
    rw [hok, hL1, hL2]
    clear hok hL1 hL2
    clear hb
    go_enter Try.func7, Try.ntmps7
    go_wp2_with fail
    refine (spec_BatchValid _ _ _ _ _ _ HL.out HF.out hn).mono ?_
    rw [HB.out]
    rintro e w1 ⟨rfl, hb1⟩
    have HE1 := Lib.hid (And.intro (HE.out.1.on hb1) (And.intro (HE.out.2.1.on hb1) HE.out.2.2))
    have HS1 := Lib.hid (HS.out.on hb1)
    have HB1 : Hid (Below w.heap.size w w1) := step (by go_grown) hb1
    clear hb1 HL HS
    go_wp2
    go_loop [9, 10] (fun g i => ∃ j : Nat, j ≤ m ∧ i = .int .i64 j ∧ g = .bool (M.allCodes S j)) (fun _ i => m - (intOf i).toNat)
    case atStart => exact ⟨0, Nat.zero_le _, rfl, by rw [decide_eq_true (by omega)]; rfl⟩
    case round =>
      obtain ⟨j, hj, rfl, rfl⟩ := hrel
      by_cases hlt : j < m
      · have hsucc := Lib.hid (M.allCodes_succ S j)
        cases hA : M.allCodes S j
        · rw [hA] at hsucc
          clear hA
          go_wp2
          go_round
          case rel => exact ⟨j + 1, by omega, by go_num, by rw [hsucc.out]; rfl⟩
          case measure => simp [intOf]; omega
        · rw [hA] at hsucc
          clear hA
          obtain ⟨b2, o2, rfl, c2⟩ := HS1.out j hlt
          have s1 := HF2.out j hlt
          cases hcd : M.code (S j)
          all_goals
            rw [hcd] at hsucc
            have HCD := Lib.hid hcd
            clear hcd
            go_wp2_with (go_at_call 28; refine (spec_CodeValid _ _ s1).mono ?_; rw [HCD.out]; rintro e w1 ⟨rfl, rfl⟩)
            go_round
            case rel => exact ⟨j + 1, by omega, by go_num, by rw [hsucc.out]; rfl⟩
            case measure => simp [intOf]; omega
      · obtain rfl : j = m := by omega
        cases hA : M.allCodes S j
        · obtain ⟨rfl, h1, _⟩ := hkk.out _ hA
          obtain ⟨rfl, rfl⟩ := h1 rfl
          clear hA hkk
          go_wp2
          by_cases hn0 : 0 < n
          · go_rounds 1
            go_ret3
            exact ⟨_, _, rfl, HE1.out.1, HE1.out.2.1, HE1.out.2.2, HB1.out⟩
          · obtain rfl : n = 0 := by omega
            go_rounds 1
            go_ret3
            exact ⟨_, _, rfl, HE1.out.1, HE1.out.2.1, HE1.out.2.2, HB1.out⟩
        · obtain ⟨rfl, _, h1⟩ := hkk.out _ hA
          obtain ⟨rfl, rfl⟩ := h1 rfl
          clear hA hkk
          have hz1 := HB1.out.size
          go_wp2
          go_loopw [7, 8, 11] (fun u v i wr => ∃ k : Nat, k ≤ n ∧ i = .int .i64 k ∧ Hid (Row wr w.heap.size u (M.sansF (M.heldF S j) (M.lst I C k))) ∧ Hid (Row wr w.heap.size v (M.withF (M.heldF S j) (M.lst I C k))) ∧ Hid (Apart u v) ∧ Hid (Below w.heap.size w wr)) (fun _ _ i _ => n - (intOf i).toNat)
          case atStart => exact ⟨0, Nat.zero_le _, rfl, HE1.out.1, HE1.out.2.1, HE1.out.2.2, HB1.out⟩
          case round =>
            obtain ⟨k, hk, rfl, ru, rv, hap, hb⟩ := hrel
            have hz := hb.out.size
            by_cases hlt : k < n
            · obtain ⟨b, o, rfl, c0, c1⟩ := (HL0.out.on hb.out) k hlt
              obtain ⟨i0, i1⟩ := (HF.out k hlt).1
              have s1 := (HF.out k hlt).2
              cases hbg : M.heldF S j (C k)
              · have HG := Lib.hid (M.heldF_no hbg)
                obtain ⟨e1, e2⟩ := M.filt_no (I := I) hbg
                have E1 := Lib.hid e1
                have E2 := Lib.hid e2
                have hle := M.sansF_le (M.heldF S j) I C k
                obtain ⟨r, hr⟩ : ∃ r, M.rankTo S (C k) j = r := ⟨_, rfl⟩
                have HR := Lib.hid hr
                have hrs := HG.out
                rw [hr] at hrs
                have HSr := Lib.hid (HS0.out.on hb.out)
                have hb' := hb.out
                clear hbg e1 e2 hr
                go_wp2_with (first
                  | (go_at_call 29; refine (spec_l3Rank _ a2 j c2 S HSr.out hm _).mono ?_; rw [HR.out]; rintro e w3 ⟨rfl, rfl⟩)
                  | (at_builtin; refine wpList_append_letter _ rfl _ _ rfl w.heap.size _ _ rfl (ru.out.alloc _) _ (I k) (C k) rfl ?_ (by omega) (by simp; omega) ?_))
                · simp [go_sem]
                · intro v' w3 hr3 hg3 ho3
                  obtain ⟨q1, q2⟩ := two_kept (rv.out.alloc _) hap.out hg3 ho3 (by simp)
                  have q3 := below_grown (W := w) (by go_grown) (ru.out.alloc _) (Nat.le_refl _) hg3
                  have Q1 := Lib.hid q1
                  have Q2 := Lib.hid q2
                  have Q3 := Lib.hid q3
                  have R3 := Lib.hid hr3
                  clear hr3 hg3 ho3 q1 q2 q3
                  go_wp2
                  go_roundw
                  case rel => exact ⟨k + 1, by omega, by go_num, by rw [E2.out]; exact R3, by rw [E1.out]; exact Q1, Q2.out, Q3⟩
                  case measure => simp [intOf]; omega
              · have HG := Lib.hid (M.heldF_yes hbg)
                obtain ⟨e1, e2⟩ := M.filt_yes (I := I) hbg
                have E1 := Lib.hid e1
                have E2 := Lib.hid e2
                have hle := M.withF_le (M.heldF S j) I C k
                obtain ⟨r, hr⟩ : ∃ r, M.rankTo S (C k) j = r := ⟨_, rfl⟩
                have HR := Lib.hid hr
                have hrs := HG.out
                rw [hr] at hrs
                have HSr := Lib.hid (HS0.out.on hb.out)
                have hb' := hb.out
                clear hbg e1 e2 hr
                go_wp2_with (first
                  | (go_at_call 29; refine (spec_l3Rank _ a2 j c2 S HSr.out hm _).mono ?_; rw [HR.out]; rintro e w3 ⟨rfl, rfl⟩)
                  | (at_builtin; refine wpList_append_letter _ rfl _ _ rfl w.heap.size _ _ rfl (rv.out.alloc _) _ (I k) (C k) rfl ?_ (by omega) (by simp; omega) ?_))
                · simp [go_sem]
                · intro v' w3 hr3 hg3 ho3
                  obtain ⟨q1, q2⟩ := two_kept (ru.out.alloc _) hap.out.symm hg3 ho3 (by simp)
                  have q3 := below_grown (W := w) (by go_grown) (rv.out.alloc _) (Nat.le_refl _) hg3
                  have Q1 := Lib.hid q1
                  have Q2 := Lib.hid q2
                  have Q3 := Lib.hid q3
                  have R3 := Lib.hid hr3
                  clear hr3 hg3 ho3 q1 q2 q3
                  go_wp2
                  go_roundw
                  case rel => exact ⟨k + 1, by omega, by go_num, by rw [E2.out]; exact Q1, by rw [E1.out]; exact R3, Q2.out.symm, Q3⟩
                  case measure => simp [intOf]; omega
            · obtain rfl : k = n := by omega
              go_wp2
              go_ret3
              exact ⟨_, _, rfl, ru.out, rv.out, hap.out, hb.out⟩
  · have hq : (decide (m ≤ 30) && M.allCodes S m) = false := by rw [decide_eq_false h30]; exact Bool.false_and _
    have hk : M.holdOk n I C m S = false := by unfold M.holdOk; rw [hb, hq]; rfl
    have h1 : M.holdOut n I C m S = [] := if_neg (by rw [hk]; decide)
    have h2 : M.holdKept n I C m S = [] := if_neg (by rw [hk]; decide)
    rw [hk, h1, h2]
    have HB := Lib.hid hb
    clear hb hk h1 h2
    clear hq
    go_enter Try.func7, Try.ntmps7
    go_wp2_with fail
    refine (spec_BatchValid _ _ _ _ _ _ HL.out HF.out hn).mono ?_
    rw [HB.out]
    rintro e w1 ⟨rfl, hb1⟩
    have HE1 := Lib.hid (And.intro (HE.out.1.on hb1) (And.intro (HE.out.2.1.on hb1) HE.out.2.2))
    have HS1 := Lib.hid (HS.out.on hb1)
    have HB1 : Hid (Below w.heap.size w w1) := step (by go_grown) hb1
    clear hb1 HL HS
    go_wp2
    go_loop [9, 10] (fun g i => ∃ j : Nat, j ≤ m ∧ i = .int .i64 j ∧ g = .bool false) (fun _ i => m - (intOf i).toNat)
    case atStart => exact ⟨0, Nat.zero_le _, rfl, by first | rfl | rw [decide_eq_false (by omega)]⟩
    case round =>
      obtain ⟨j, hj, rfl, rfl⟩ := hrel
      by_cases hlt : j < m
      · go_wp2
        go_round
        case rel => exact ⟨j + 1, by omega, by go_num, rfl⟩
        case measure => simp [intOf]; omega
      · obtain rfl : j = m := by omega
        go_wp2
        by_cases hn0 : 0 < n
        · go_rounds 1
          go_ret3
          exact ⟨_, _, rfl, HE1.out.1, HE1.out.2.1, HE1.out.2.2, HB1.out⟩
        · obtain rfl : n = 0 := by omega
          go_rounds 1
          go_ret3
          exact ⟨_, _, rfl, HE1.out.1, HE1.out.2.1, HE1.out.2.2, HB1.out⟩
end Go.Proofs.Ytghgipcblhfceaa
