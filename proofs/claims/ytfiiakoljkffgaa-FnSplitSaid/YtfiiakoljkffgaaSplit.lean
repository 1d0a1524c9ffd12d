/-
  What SplitBatch and CountPrefix return, in the program and in the model of the document.
-/
import Derived.Test.YtfiiakoljkffgaaSplitM
import Derived.Test.YtfiiakoljkffgaaRow
import Derived.WalkLawsBesides
import Derived.BigGuard
namespace Go.Proofs.Ytfiiakoljkffgaa
open Go.RowKit
open Go.PlainAid (bt get_bt bt_nonneg bt_le)

set_option maxHeartbeats 400000 in
theorem stringslite_HasPrefix (c p : ByteArray) (w : World) :
    Calls Try.prog 52 #[.string c, .string p] w fun e w' => e = .returned (.bool (M.begins c p)) ∧ w = w' := by
  by_cases h : p.size ≤ c.size
  · have hv := Lib.hid (M.begins_long h)
    have hl := Lib.hid (M.list_eq (c.extract 0 p.size) p)
    go_enter Try.func52, Try.ntmps52
    go_wp2
    go_ret
    exact ⟨ret_bool (by rw [hv.out, hl.out]), rfl⟩
  · have hv := Lib.hid (M.begins_short (c := c) (p := p) (by omega))
    go_enter Try.func52, Try.ntmps52
    go_wp2
    go_ret
    exact ⟨ret_bool hv.out.symm, rfl⟩
set_option maxHeartbeats 400000 in
theorem strings_HasPrefix (c p : ByteArray) (w : World) :
    Calls Try.prog 36 #[.string c, .string p] w fun e w' => e = .returned (.bool (M.begins c p)) ∧ w = w' := by
  go_enter Try.func36, Try.ntmps36
  go_wp2_with (go_at_call 52; refine (stringslite_HasPrefix _ _ _).mono ?_; rintro e w1 ⟨rfl, rfl⟩)
  go_ret
  exact ⟨rfl, rfl⟩
set_option maxHeartbeats 400000 in
theorem spec_l2Begins (c p : ByteArray) (w : World) :
    Calls Try.prog 38 #[.string c, .string p] w fun e w' => e = .returned (.bool (M.begins c p)) ∧ w = w' := by
  by_cases h : p.size ≤ c.size
  · have hv := Lib.hid (M.begins_long h)
    have hl := Lib.hid (M.list_eq (c.extract 0 p.size) p)
    go_enter Try.func38, Try.ntmps38
    go_wp2
    go_ret
    exact ⟨ret_bool (by rw [hv.out, hl.out]), rfl⟩
  · have hv := Lib.hid (M.begins_short (c := c) (p := p) (by omega))
    go_enter Try.func38, Try.ntmps38
    go_wp2
    go_ret
    exact ⟨ret_bool hv.out.symm, rfl⟩
theorem prefix_long {p : ByteArray} (h : 7 < p.size) : M.prefixOk p = false := by
  unfold M.prefixOk
  rw [decide_eq_false (show ¬ p.size ≤ 7 by omega), Bool.and_false]
theorem prefix_short {p : ByteArray} (h : p.size ≤ 7) : M.prefixOk p = M.digs p := by
  unfold M.prefixOk
  rw [decide_eq_true h, Bool.and_true]
set_option maxHeartbeats 400000 in
theorem impl_prefixValid (p : ByteArray) (w : World) (hp : p.size ≤ maxLen) :
    Calls Try.prog 35 #[.string p] w fun e w' => e = .returned (.bool (M.prefixOk p)) ∧ Below w.heap.size w w' := by
  by_cases h : p.size ≤ 7
  · have hv := Lib.hid (prefix_short h)
    go_enter Try.func35, Try.ntmps35
    go_wp2_with (go_at_call 49; refine (impl_DigitsValid _ _ hp).mono ?_; rintro e w1 ⟨rfl, hb1⟩; replace hb1 := hb1.below)
    go_ret
    exact ⟨ret_bool hv.out.symm, hb1⟩
  · have hv := Lib.hid (prefix_long (p := p) (by omega))
    have hp' := hp
    unfold maxLen at hp'
    go_enter Try.func35, Try.ntmps35
    go_wp2
    go_ret
    exact ⟨ret_bool hv.out.symm, Below.refl _ _⟩
set_option maxHeartbeats 400000 in
theorem spec_l2Prefix (p : ByteArray) (w : World) (hp : p.size ≤ maxLen) :
    Calls Try.prog 37 #[.string p] w fun e w' => e = .returned (.bool (M.prefixOk p)) ∧ w = w' := by
  have hv := Lib.hid (show M.prefixOk p = (M.digs p && decide (p.size ≤ 7)) from rfl)
  have hp' := hp
  unfold maxLen at hp'
  cases hd : M.digs p
  · have HD := Lib.hid hd
    clear hd
    go_enter Try.func37, Try.ntmps37
    go_wp2_with (go_at_call 53; refine (spec_DigitsValid _ _ hp).mono ?_; rw [HD.out]; rintro e w1 ⟨rfl, rfl⟩)
    go_ret
    exact ⟨ret_bool (by rw [hv.out, HD.out]; rfl), rfl⟩
  · have HD := Lib.hid hd
    clear hd
    go_enter Try.func37, Try.ntmps37
    go_wp2_with (go_at_call 53; refine (spec_DigitsValid _ _ hp).mono ?_; rw [HD.out]; rintro e w1 ⟨rfl, rfl⟩)
    go_ret
    exact ⟨ret_bool (by rw [hv.out, HD.out, Bool.true_and]; simp; omega), rfl⟩

/-- Two slices of letters of the call's own, apart, and new memory alone. -/
def Split (W : World) (ok : Bool) (L L' : List (Int × ByteArray)) (e : Ending) (w' : World) : Prop :=
  ∃ v v', e = .returned (.tuple #[v, v', .bool ok]) ∧ Row w' W.heap.size v L ∧ Row w' W.heap.size v' L' ∧ Apart v v' ∧ Below W.heap.size W w'

set_option maxHeartbeats 2000000 in
theorem impl_SplitBatch_yes (w : World) (a : Option Addr) (n c : Nat) (I : Nat → Int) (C : Nat → ByteArray) (p : ByteArray) (h : Lts w a n I C) (hf : Fits n I C) (hp : p.size ≤ maxLen) (hok : M.splitOk n I C p = true) :
    Calls Try.prog 12 #[.slice a n c, .string p] w (Split w true (M.withP p (M.lst I C n)) (M.sansP p (M.lst I C n))) := by
  have HF := Lib.hid hf
  have HL := Lib.hid h
  clear h hf
  unfold M.splitOk at hok
  rw [Bool.and_eq_true] at hok
  have HB := Lib.hid hok.1
  have HP := Lib.hid hok.2
  have hn := (M.batch_yes hok.1).1
  clear hok
  go_enter Try.func12, Try.ntmps12
  go_wp2_with fail
  refine (impl_BatchValid _ _ _ _ _ _ HL.out HF.out).mono ?_
  rw [HB.out]
  rintro e w1 ⟨rfl, hb1⟩
  go_wp2_with fail
  refine (impl_prefixValid _ _ hp).mono ?_
  rw [HP.out]
  rintro e w2 ⟨rfl, k2⟩
  have hb2 := step hb1 k2
  go_wp2
  go_loopw [7, 8, 21] (fun u v i wr => ∃ k : Nat, k ≤ n ∧ i = .int .i64 k ∧ Hid (Row wr w.heap.size u (M.withP p (M.lst I C k))) ∧ Hid (Row wr w.heap.size v (M.sansP p (M.lst I C k))) ∧ Hid (Apart u v) ∧ Below w.heap.size w wr) (fun _ _ i _ => n - (intOf i).toNat)
  case atStart => exact ⟨0, Nat.zero_le _, rfl, Row.nil _ _, Row.nil _ _, Apart.nil _, hb2⟩
  case round =>
    obtain ⟨k, hk, rfl, ru, rv, hap, hb⟩ := hrel
    have hz := hb.size
    by_cases hlt : k < n
    · obtain ⟨b, o, rfl, c0, c1⟩ := (HL.out.on hb) k hlt
      obtain ⟨i0, i1⟩ := (HF.out k hlt).1
      have s1 := (HF.out k hlt).2
      cases hbg : M.begins (C k) p
      · have HG := Lib.hid hbg
        obtain ⟨e1, e2⟩ := M.split_no (I := I) hbg
        have E1 := Lib.hid e1
        have E2 := Lib.hid e2
        have hle := M.sansP_le p I C k
        clear hbg e1 e2
        go_wp2_with (first
          | (go_at_call 36; refine (strings_HasPrefix _ _ _).mono ?_; rw [HG.out]; rintro e w3 ⟨rfl, rfl⟩)
          | (at_builtin; refine wpList_append_letter _ rfl _ _ rfl w.heap.size _ _ rfl ((rv.out.alloc _).alloc _) _ (I k) (C k) rfl ?_ (by omega) (by simp; omega) ?_))
        · simp [go_sem]
        · intro v' w3 hr3 hg3 ho3
          obtain ⟨q1, q2⟩ := two_kept ((ru.out.alloc _).alloc _) hap.out.symm hg3 ho3 (by simp)
          have q3 := below_grown (W := w) (by go_grown) ((rv.out.alloc _).alloc _) (Nat.le_refl _) hg3
          have Q1 := Lib.hid q1
          have Q2 := Lib.hid q2
          have R3 := Lib.hid hr3
          clear hr3 hg3 ho3 q1 q2
          go_wp2
          go_roundw
          case rel => exact ⟨k + 1, by omega, by go_num, by rw [E1.out]; exact Q1, by rw [E2.out]; exact R3, Q2.out.symm, q3⟩
          case measure => simp [intOf]; omega
      · have HG := Lib.hid hbg
        obtain ⟨e1, e2⟩ := M.split_yes (I := I) hbg
        have E1 := Lib.hid e1
        have E2 := Lib.hid e2
        have hle := M.withP_le p I C k
        clear hbg e1 e2
        go_wp2_with (first
          | (go_at_call 36; refine (strings_HasPrefix _ _ _).mono ?_; rw [HG.out]; rintro e w3 ⟨rfl, rfl⟩)
          | (at_builtin; refine wpList_append_letter _ rfl _ _ rfl w.heap.size _ _ rfl ((ru.out.alloc _).alloc _) _ (I k) (C k) rfl ?_ (by omega) (by simp; omega) ?_))
        · simp [go_sem]
        · intro v' w3 hr3 hg3 ho3
          obtain ⟨q1, q2⟩ := two_kept ((rv.out.alloc _).alloc _) hap.out hg3 ho3 (by simp)
          have q3 := below_grown (W := w) (by go_grown) ((ru.out.alloc _).alloc _) (Nat.le_refl _) hg3
          have Q1 := Lib.hid q1
          have Q2 := Lib.hid q2
          have R3 := Lib.hid hr3
          clear hr3 hg3 ho3 q1 q2
          go_wp2
          go_roundw
          case rel => exact ⟨k + 1, by omega, by go_num, by rw [E1.out]; exact R3, by rw [E2.out]; exact Q1, Q2.out, q3⟩
          case measure => simp [intOf]; omega
    · obtain rfl : k = n := by omega
      go_wp2
      go_ret3
      exact ⟨_, _, rfl, ru, rv, hap, hb⟩

theorem ret_split {v v' u u' : Value} {b : Bool} (h : v = u) (h' : v' = u') : Ending.returned (.tuple #[v, v', .bool b]) = .returned (.tuple #[u, u', .bool b]) := by rw [h, h']
set_option maxHeartbeats 1000000 in
theorem impl_SplitBatch_no (w : World) (a : Option Addr) (n c : Nat) (I : Nat → Int) (C : Nat → ByteArray) (p : ByteArray) (h : Lts w a n I C) (hf : Fits n I C) (hp : p.size ≤ maxLen) (hok : M.splitOk n I C p = false) :
    Calls Try.prog 12 #[.slice a n c, .string p] w (Split w false [] []) := by
  have HF := Lib.hid hf
  have HL := Lib.hid h
  clear h hf
  unfold M.splitOk at hok
  cases hb : M.batch n I C
  · have HB := Lib.hid hb
    clear hb hok
    go_enter Try.func12, Try.ntmps12
    go_wp2_with fail
    refine (impl_BatchValid _ _ _ _ _ _ HL.out HF.out).mono ?_
    rw [HB.out]
    rintro e w1 ⟨rfl, hb1⟩
    go_wp2
    go_ret3
    exact ⟨_, _, rfl, Row.nil _ _, Row.nil _ _, Apart.nil _, hb1⟩
  · rw [hb, Bool.true_and] at hok
    have HP := Lib.hid hok
    have HB := Lib.hid hb
    clear hb hok
    go_enter Try.func12, Try.ntmps12
    go_wp2_with fail
    refine (impl_BatchValid _ _ _ _ _ _ HL.out HF.out).mono ?_
    rw [HB.out]
    rintro e w1 ⟨rfl, hb1⟩
    go_wp2_with fail
    refine (impl_prefixValid _ _ hp).mono ?_
    rw [HP.out]
    rintro e w2 ⟨rfl, k2⟩
    go_wp2
    go_ret3
    exact ⟨_, _, rfl, Row.nil _ _, Row.nil _ _, Apart.nil _, step hb1 k2⟩

theorem two_empty (w : World) : Row ((w.alloc (.cells #[] 29)).alloc (.cells #[] 29)) w.heap.size (.slice (some ⟨w.heap.size, 0, none⟩) 0 0) [] ∧
    Row ((w.alloc (.cells #[] 29)).alloc (.cells #[] 29)) w.heap.size (.slice (some ⟨w.heap.size + 1, 0, none⟩) 0 0) [] ∧ Apart (.slice (some ⟨w.heap.size, 0, none⟩) 0 0) (.slice (some ⟨w.heap.size + 1, 0, none⟩) 0 0) := by
  have h1 : Row (w.alloc (.cells #[] 29)) w.heap.size (.slice (some ⟨w.heap.size, 0, none⟩) 0 0) [] := World.ownsRow_lit (base := w.heap.size) (e := 29) (size := 2) w #[] 0 (Nat.le_refl _) (by unfold maxLen; omega) rfl
  refine ⟨h1.alloc _, ?_, fun b hb e => ?_⟩
  · have := World.ownsRow_lit (base := w.heap.size) (e := 29) (size := 2) (w.alloc (.cells #[] 29)) #[] 0 (by simp) (by unfold maxLen; omega) rfl
    simp only [World.size_alloc] at this
    exact this
  · simp [Value.ownBlock] at hb e
    omega
set_option maxHeartbeats 1000000 in
theorem spec_SplitBatch_no (w : World) (a : Option Addr) (n c : Nat) (I : Nat → Int) (C : Nat → ByteArray) (p : ByteArray) (h : Lts w a n I C) (hf : Fits n I C) (hn : n ≤ 1048576) (hp : p.size ≤ maxLen) (hok : M.splitOk n I C p = false) :
    Calls Try.prog 13 #[.slice a n c, .string p] w (Split w false [] []) := by
  have HF := Lib.hid hf
  have HL := Lib.hid ((h.on ((Below.refl _ _).alloc (Nat.le_refl _) (.cells #[] 29))).on ((Below.refl _ _).alloc (Nat.le_refl _) (.cells #[] 29)))
  have HE := Lib.hid (two_empty w)
  clear h hf
  unfold M.splitOk at hok
  cases hb : M.batch n I C
  · have HB := Lib.hid hb
    clear hb hok
    go_enter Try.func13, Try.ntmps13
    go_wp2_with fail
    refine (spec_BatchValid _ _ _ _ _ _ HL.out HF.out hn).mono ?_
    rw [HB.out]
    rintro e w1 ⟨rfl, hb1⟩
    go_wp2
    go_ret3
    obtain ⟨e1, e2, e3⟩ := HE.out
    exact ⟨_, _, rfl, e1.on hb1, e2.on hb1, e3, step (by go_grown) hb1⟩
  · rw [hb, Bool.true_and] at hok
    have HP := Lib.hid hok
    have HB := Lib.hid hb
    clear hb hok
    go_enter Try.func13, Try.ntmps13
    go_wp2_with fail
    refine (spec_BatchValid _ _ _ _ _ _ HL.out HF.out hn).mono ?_
    rw [HB.out]
    rintro e w1 ⟨rfl, hb1⟩
    go_wp2_with fail
    refine (spec_l2Prefix _ _ hp).mono ?_
    rw [HP.out]
    rintro e w2 ⟨rfl, rfl⟩
    go_wp2
    go_ret3
    obtain ⟨e1, e2, e3⟩ := HE.out
    exact ⟨_, _, rfl, e1.on hb1, e2.on hb1, e3, step (by go_grown) hb1⟩

set_option maxHeartbeats 2000000 in
theorem spec_SplitBatch_yes (w : World) (a : Option Addr) (n c : Nat) (I : Nat → Int) (C : Nat → ByteArray) (p : ByteArray) (h : Lts w a n I C) (hf : Fits n I C) (hn : n ≤ 1048576) (hp : p.size ≤ maxLen) (hok : M.splitOk n I C p = true) :
    Calls Try.prog 13 #[.slice a n c, .string p] w (Split w true (M.withP p (M.lst I C n)) (M.sansP p (M.lst I C n))) := by
  have HF := Lib.hid hf
  have HL0 := Lib.hid h
  have HL := Lib.hid ((h.on ((Below.refl _ _).alloc (Nat.le_refl _) (.cells #[] 29))).on ((Below.refl _ _).alloc (Nat.le_refl _) (.cells #[] 29)))
  have HE := Lib.hid (two_empty w)
  clear h hf
  unfold M.splitOk at hok
  rw [Bool.and_eq_true] at hok
  have HB := Lib.hid hok.1
  have HP := Lib.hid hok.2
  have hn6 := (M.batch_yes hok.1).1
  clear hok
  go_enter Try.func13, Try.ntmps13
  go_wp2_with fail
  refine (spec_BatchValid _ _ _ _ _ _ HL.out HF.out hn).mono ?_
  rw [HB.out]
  rintro e w1 ⟨rfl, hb1⟩
  go_wp2_with fail
  refine (spec_l2Prefix _ _ hp).mono ?_
  rw [HP.out]
  rintro e w2 ⟨rfl, rfl⟩
  have hb2 := step (w := w) (by go_grown) hb1
  go_wp2
  go_loopw [7, 8, 9] (fun u v i wr => ∃ k : Nat, k ≤ n ∧ i = .int .i64 k ∧ Hid (Row wr w.heap.size u (M.withP p (M.lst I C k))) ∧ Hid (Row wr w.heap.size v (M.sansP p (M.lst I C k))) ∧ Hid (Apart u v) ∧ Below w.heap.size w wr) (fun _ _ i _ => n - (intOf i).toNat)
  case atStart => exact ⟨0, Nat.zero_le _, rfl, HE.out.1.on hb1, HE.out.2.1.on hb1, HE.out.2.2, hb2⟩
  case round =>
    obtain ⟨k, hk, rfl, ru, rv, hap, hb⟩ := hrel
    have hz := hb.size
    by_cases hlt : k < n
    · obtain ⟨b, o, rfl, c0, c1⟩ := (HL0.out.on hb) k hlt
      obtain ⟨i0, i1⟩ := (HF.out k hlt).1
      have s1 := (HF.out k hlt).2
      cases hbg : M.begins (C k) p
      · have HG := Lib.hid hbg
        obtain ⟨e1, e2⟩ := M.split_no (I := I) hbg
        have E1 := Lib.hid e1
        have E2 := Lib.hid e2
        have hle := M.sansP_le p I C k
        clear hbg e1 e2
        go_wp2_with (first
          | (go_at_call 38; refine (spec_l2Begins _ _ _).mono ?_; rw [HG.out]; rintro e w3 ⟨rfl, rfl⟩)
          | (at_builtin; refine wpList_append_letter _ rfl _ _ rfl w.heap.size _ _ rfl (rv.out.alloc _) _ (I k) (C k) rfl ?_ (by omega) (by simp; omega) ?_))
        · simp [go_sem]
        · intro v' w3 hr3 hg3 ho3
          obtain ⟨q1, q2⟩ := two_kept (ru.out.alloc _) hap.out.symm hg3 ho3 (by simp)
          have q3 := below_grown (W := w) (by go_grown) (rv.out.alloc _) (Nat.le_refl _) hg3
          have Q1 := Lib.hid q1
          have Q2 := Lib.hid q2
          have R3 := Lib.hid hr3
          clear hr3 hg3 ho3 q1 q2
          go_wp2
          go_roundw
          case rel => exact ⟨k + 1, by omega, by go_num, by rw [E1.out]; exact Q1, by rw [E2.out]; exact R3, Q2.out.symm, q3⟩
          case measure => simp [intOf]; omega
      · have HG := Lib.hid hbg
        obtain ⟨e1, e2⟩ := M.split_yes (I := I) hbg
        have E1 := Lib.hid e1
        have E2 := Lib.hid e2
        have hle := M.withP_le p I C k
        clear hbg e1 e2
        go_wp2_with (first
          | (go_at_call 38; refine (spec_l2Begins _ _ _).mono ?_; rw [HG.out]; rintro e w3 ⟨rfl, rfl⟩)
          | (at_builtin; refine wpList_append_letter _ rfl _ _ rfl w.heap.size _ _ rfl (ru.out.alloc _) _ (I k) (C k) rfl ?_ (by omega) (by simp; omega) ?_))
        · simp [go_sem]
        · intro v' w3 hr3 hg3 ho3
          obtain ⟨q1, q2⟩ := two_kept (rv.out.alloc _) hap.out hg3 ho3 (by simp)
          have q3 := below_grown (W := w) (by go_grown) (ru.out.alloc _) (Nat.le_refl _) hg3
          have Q1 := Lib.hid q1
          have Q2 := Lib.hid q2
          have R3 := Lib.hid hr3
          clear hr3 hg3 ho3 q1 q2
          go_wp2
          go_roundw
          case rel => exact ⟨k + 1, by omega, by go_num, by rw [E1.out]; exact R3, by rw [E2.out]; exact Q1, Q2.out, q3⟩
          case measure => simp [intOf]; omega
    · obtain rfl : k = n := by omega
      go_wp2
      go_ret3
      exact ⟨_, _, rfl, ru, rv, hap, hb⟩

set_option maxHeartbeats 1000000 in
theorem impl_CountPrefix (w : World) (a : Option Addr) (n c : Nat) (I : Nat → Int) (C : Nat → ByteArray) (p : ByteArray) (h : Lts w a n I C) (hf : Fits n I C) (hp : p.size ≤ maxLen) :
    Calls Try.prog 15 #[.slice a n c, .string p] w fun e w' => e = .returned (.int .i64 (M.countP n I C p)) ∧ Below w.heap.size w w' := by
  cases hok : M.splitOk n I C p
  · have hv := Lib.hid (M.countP_no hok)
    have HC := Lib.hid (impl_SplitBatch_no w a n c I C p h hf hp hok)
    clear h hf hok
    go_enter Try.func15, Try.ntmps15
    go_wp2_with fail
    refine HC.out.mono ?_
    rintro e w1 ⟨v, v', rfl, _, _, _, hb⟩
    go_wp2
    go_ret
    exact ⟨ret_int hv.out.symm, hb⟩
  · have hv := Lib.hid (M.countP_yes hok)
    have HC := Lib.hid (impl_SplitBatch_yes w a n c I C p h hf hp hok)
    clear h hf hok
    go_enter Try.func15, Try.ntmps15
    go_wp2_with fail
    refine HC.out.mono ?_
    rintro e w1 ⟨v, v', rfl, r1, _, _, hb⟩
    obtain ⟨a1, c1, rfl, _, _⟩ := r1.form
    clear r1
    go_wp2
    go_ret
    exact ⟨ret_int hv.out.symm, hb⟩
set_option maxHeartbeats 1000000 in
theorem spec_CountPrefix (w : World) (a : Option Addr) (n c : Nat) (I : Nat → Int) (C : Nat → ByteArray) (p : ByteArray) (h : Lts w a n I C) (hf : Fits n I C) (hn : n ≤ 1048576) (hp : p.size ≤ maxLen) :
    Calls Try.prog 16 #[.slice a n c, .string p] w fun e w' => e = .returned (.int .i64 (M.countP n I C p)) ∧ Below w.heap.size w w' := by
  cases hok : M.splitOk n I C p
  · have hv := Lib.hid (M.countP_no hok)
    have HC := Lib.hid (spec_SplitBatch_no w a n c I C p h hf hn hp hok)
    clear h hf hok
    go_enter Try.func16, Try.ntmps16
    go_wp2_with fail
    refine HC.out.mono ?_
    rintro e w1 ⟨v, v', rfl, _, _, _, hb⟩
    go_wp2
    go_ret
    exact ⟨ret_int hv.out.symm, hb⟩
  · have hv := Lib.hid (M.countP_yes hok)
    have HC := Lib.hid (spec_SplitBatch_yes w a n c I C p h hf hn hp hok)
    clear h hf hok
    go_enter Try.func16, Try.ntmps16
    go_wp2_with fail
    refine HC.out.mono ?_
    rintro e w1 ⟨v, v', rfl, r1, _, _, hb⟩
    obtain ⟨a1, c1, rfl, _, _⟩ := r1.form
    clear r1
    go_wp2
    go_ret
    exact ⟨ret_int hv.out.symm, hb⟩

/-- What SplitBatch returns of letters. -/
def inS (n : Nat) (I : Nat → Int) (C : Nat → ByteArray) (p : ByteArray) : List (Int × ByteArray) := if M.splitOk n I C p = true then M.withP p (M.lst I C n) else []
def outS (n : Nat) (I : Nat → Int) (C : Nat → ByteArray) (p : ByteArray) : List (Int × ByteArray) := if M.splitOk n I C p = true then M.sansP p (M.lst I C n) else []
theorem inS_le (n : Nat) (I : Nat → Int) (C : Nat → ByteArray) (p : ByteArray) : (inS n I C p).length ≤ n := by
  unfold inS; split
  · exact M.withP_le p I C n
  · exact Nat.zero_le _
theorem outS_le (n : Nat) (I : Nat → Int) (C : Nat → ByteArray) (p : ByteArray) : (outS n I C p).length ≤ n := by
  unfold outS; split
  · exact M.sansP_le p I C n
  · exact Nat.zero_le _
theorem impl_Split (w : World) (a : Option Addr) (n c : Nat) (I : Nat → Int) (C : Nat → ByteArray) (p : ByteArray) (h : Lts w a n I C) (hf : Fits n I C) (hp : p.size ≤ maxLen) :
    Calls Try.prog 12 #[.slice a n c, .string p] w (Split w (M.splitOk n I C p) (inS n I C p) (outS n I C p)) := by
  unfold inS outS
  cases hok : M.splitOk n I C p
  · exact impl_SplitBatch_no w a n c I C p h hf hp hok
  · exact impl_SplitBatch_yes w a n c I C p h hf hp hok
theorem spec_Split (w : World) (a : Option Addr) (n c : Nat) (I : Nat → Int) (C : Nat → ByteArray) (p : ByteArray) (h : Lts w a n I C) (hf : Fits n I C) (hn : n ≤ 1048576) (hp : p.size ≤ maxLen) :
    Calls Try.prog 13 #[.slice a n c, .string p] w (Split w (M.splitOk n I C p) (inS n I C p) (outS n I C p)) := by
  unfold inS outS
  cases hok : M.splitOk n I C p
  · exact spec_SplitBatch_no w a n c I C p h hf hn hp hok
  · exact spec_SplitBatch_yes w a n c I C p h hf hn hp hok
end Go.Proofs.Ytfiiakoljkffgaa
