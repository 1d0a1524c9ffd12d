/-
  What SplitBatch and CountPrefix return, in the program and in the model of the document.
-/
import Derived.Test.YtobmenbhbeflhaaSplitM
import Derived.Test.YtobmenbhbeflhaaRow
import Derived.WalkLawsBesides
import Derived.BigGuard
namespace Go.Proofs.Ytobmenbhbeflhaa
open Go.RowKit
open Go.PlainAid (bt get_bt bt_nonneg bt_le)

set_option maxHeartbeats 400000 in
theorem stringslite_HasPrefix (c p : ByteArray) (w : World) :
    Calls Try.prog 52 #[.string c, .string p] w fun e w' => e = .returned (.bool (M.begins c p)) ∧ w = w' := by
  by_cases h : p.size ≤ c.size
  · have hv := Lib.hid (M.begins_long h)
    have hl := Lib.hid (M.list_eq (c.extract 0 p.size) p)
    go_enter Try.func52, Try.ntmps52
    go_wp2
    go_ret
    exact ⟨ret_bool (by rw [hv.out, hl.out]), rfl⟩
  · have hv := Lib.hid (M.begins_short (c := c) (p := p) (by omega))
    go_enter Try.func52, Try.ntmps52
    go_wp2
    go_ret
    exact ⟨ret_bool hv.out.symm, rfl⟩
set_option maxHeartbeats 400000 in
theorem strings_HasPrefix (c p : ByteArray) (w : World) :
    Calls Try.prog 45 #[.string c, .string p] w fun e w' => e = .returned (.bool (M.begins c p)) ∧ w = w' := by
  go_enter Try.func45, Try.ntmps45
  go_wp2_with (go_at_call 52; refine (stringslite_HasPrefix _ _ _).mono ?_; rintro e w1 ⟨rfl, rfl⟩)
  go_ret
  exact ⟨rfl, rfl⟩
theorem prefix_long {p : ByteArray} (h : 7 < p.size) : M.prefixOk p = false := by
  unfold M.prefixOk
  rw [decide_eq_false (show ¬ p.size ≤ 7 by omega), Bool.and_false]
theorem prefix_short {p : ByteArray} (h : p.size ≤ 7) : M.prefixOk p = M.digs p := by
  unfold M.prefixOk
  rw [decide_eq_true h, Bool.and_true]
set_option maxHeartbeats 400000 in
theorem impl_prefixValid (p : ByteArray) (w : World) (hp : p.size ≤ maxLen) :
    Calls Try.prog 42 #[.string p] w fun e w' => e = .returned (.bool (M.prefixOk p)) ∧ Below w.heap.size w w' := by
  by_cases h : p.size ≤ 7
  · have hv := Lib.hid (prefix_short h)
    go_enter Try.func42, Try.ntmps42
    go_wp2_with (go_at_call 51; refine (impl_DigitsValid _ _ hp).mono ?_; rintro e w1 ⟨rfl, hb1⟩; replace hb1 := hb1.below)
    go_ret
    exact ⟨ret_bool hv.out.symm, hb1⟩
  · have hv := Lib.hid (prefix_long (p := p) (by omega))
    have hp' := hp
    unfold maxLen at hp'
    go_enter Try.func42, Try.ntmps42
    go_wp2
    go_ret
    exact ⟨ret_bool hv.out.symm, Below.refl _ _⟩
/-- Two slices of letters of the call's own, apart, and new memory alone. -/
def Split (W : World) (ok : Bool) (L L' : List (Int × ByteArray)) (e : Ending) (w' : World) : Prop :=
  ∃ v v', e = .returned (.tuple #[v, v', .bool ok]) ∧ Row w' W.heap.size v L ∧ Row w' W.heap.size v' L' ∧ Apart v v' ∧ Below W.heap.size W w'

theorem Row.lower0 {w : World} {base base' : Nat} {v : Value} {L : List (Int × ByteArray)} (h : Row w base v L) (hb : base' ≤ base) : Row w base' v L := by
  refine ⟨h.1, ?_⟩
  rcases h.2 with ⟨rfl, hn⟩ | ⟨g, cap, cur, rfl, hbg, rest⟩
  · exact Or.inl ⟨rfl, hn⟩
  · exact Or.inr ⟨g, cap, cur, rfl, Nat.le_trans hb hbg, rest⟩
/-- Two slices of letters of the call's own, apart, and new memory alone. -/
def Two (W : World) (L L' : List (Int × ByteArray)) (e : Ending) (w' : World) : Prop :=
  ∃ v v', e = .returned (.tuple #[v, v']) ∧ Row w' W.heap.size v L ∧ Row w' W.heap.size v' L' ∧ Apart v v' ∧ Below W.heap.size W w'
set_option maxHeartbeats 400000 in
theorem begins_it (w : World) (B : Nat) (i : Int) (s p : ByteArray) (hB : w.cell? ⟨B, 0, none⟩ = some (.string p)) :
    Calls Try.prog 44 #[.agg #[.int .i64 i, .string s], .pointer (some ⟨B, 0, none⟩)] w fun e w' => e = .returned (.bool (M.begins s p)) ∧ Below w.heap.size w w' := by
  have hlt := World.block_lt_of_cell? _ _ hB
  have hc := Lib.hid (strings_HasPrefix s p)
  go_enter Try.func44, Try.ntmps44
  go_wp2_with (go_at_call 45; refine (hc.out _).mono ?_; rintro e w1 ⟨rfl, rfl⟩)
  go_ret
  exact ⟨rfl, by go_grown⟩
set_option maxHeartbeats 2000000 in
theorem divide_split (w : World) (a : Option Addr) (n c : Nat) (I : Nat → Int) (C : Nat → ByteArray) (h : Lts w a n I C) (hf : Fits n I C) (hn : n ≤ 60) (B : Nat) (p : ByteArray) (hB : w.cell? ⟨B, 0, none⟩ = some (.string p)) (f : ByteArray → Bool) (hfun : f = fun c => M.begins c p) :
    Calls Try.prog 43 #[.slice a n c, .func (.func 44) #[] #[.pointer (some ⟨B, 0, none⟩)]] w (Two w (M.withF f (M.lst I C n)) (M.sansF f (M.lst I C n))) := by
  have HF := Lib.hid hf
  have HL := Lib.hid h
  have HFUN := Lib.hid hfun
  have hlt0 := World.block_lt_of_cell? _ _ hB
  have HC : Hid (∀ W : World, Below w.heap.size w W → ∀ (i : Int) (s : ByteArray), Calls Try.prog 44 #[.agg #[.int .i64 i, .string s], .pointer (some ⟨B, 0, none⟩)] W fun e w' => e = .returned (.bool (f s)) ∧ Below W.heap.size W w') := fun W hW i s => by
    rw [hfun]
    exact begins_it W B i s p ((hW.cell (p := ⟨B, 0, none⟩) hlt0).trans hB)
  clear h hf hfun hB
  go_enter Try.func43, Try.ntmps43
  go_wp2
  go_loopw [6, 7, 12] (fun u v i wr => ∃ k : Nat, k ≤ n ∧ i = .int .i64 k ∧ Hid (Row wr w.heap.size u (M.withF f (M.lst I C k))) ∧ Hid (Row wr w.heap.size v (M.sansF f (M.lst I C k))) ∧ Hid (Apart u v) ∧ Below w.heap.size w wr) (fun _ _ i _ => n - (intOf i).toNat)
  case atStart => exact ⟨0, Nat.zero_le _, rfl, Row.nil _ _, Row.nil _ _, Apart.nil _, Below.refl _ _⟩
  case round =>
    obtain ⟨k, hk, rfl, ru, rv, hap, hb⟩ := hrel
    have hz := hb.size
    by_cases hlt : k < n
    · obtain ⟨b, o, rfl, c0, c1⟩ := (HL.out.on hb) k hlt
      cases hbg : f (C k)
      · have HG := Lib.hid hbg
        obtain ⟨e1, e2⟩ := M.filt_no (I := I) hbg
        have E1 := Lib.hid e1
        have E2 := Lib.hid e2
        have hle := M.sansF_le f I C k
        clear hbg e1 e2
        go_wp2_with (first
          | (go_at_call 44; refine (HC.out _ (by go_grown) _ _).mono ?_; rw [HG.out]; rintro e w3 ⟨rfl, kk⟩; have q0 : w3.cell? ⟨wr.heap.size, 0, none⟩ = some (.int .i64 (I k)) := (by rw [kk.cell (by simp)]; simp); have q1 : w3.cell? ⟨wr.heap.size, 1, none⟩ = some (.string (C k)) := (by rw [kk.cell (by simp)]; simp); have k3 : Below wr.heap.size wr w3 := Below.trans (by go_grown) (kk.mono (by simp)); have K3 := Lib.hid k3; have hb3 : Below w.heap.size w w3 := step hb k3; have hz3 := hb3.size; clear kk k3)
          | (at_builtin; refine wpList_append_letter _ rfl _ _ rfl w.heap.size _ _ rfl ((rv.out.on K3.out).alloc _) _ (I k) (C k) rfl ?_ (by omega) (by simp; omega) ?_))
        · simp [go_sem]
        · intro v' w4 hr3 hg3 ho3
          obtain ⟨q1, q2⟩ := two_kept ((ru.out.on K3.out).alloc _) hap.out.symm hg3 ho3 (by simp)
          have q3 := below_grown (W := w) (hb3.alloc hz3 _) ((rv.out.on K3.out).alloc _) (Nat.le_refl _) hg3
          have Q1 := Lib.hid q1
          have Q2 := Lib.hid q2
          have R3 := Lib.hid hr3
          clear hr3 hg3 ho3 q1 q2
          go_wp2
          go_roundw
          case rel => exact ⟨k + 1, by omega, by go_num, by rw [E1.out]; exact Q1, by rw [E2.out]; exact R3, Q2.out.symm, q3⟩
          case measure => simp [intOf]; omega
      · have HG := Lib.hid hbg
        obtain ⟨e1, e2⟩ := M.filt_yes (I := I) hbg
        have E1 := Lib.hid e1
        have E2 := Lib.hid e2
        have hle := M.withF_le f I C k
        clear hbg e1 e2
        go_wp2_with (first
          | (go_at_call 44; refine (HC.out _ (by go_grown) _ _).mono ?_; rw [HG.out]; rintro e w3 ⟨rfl, kk⟩; have q0 : w3.cell? ⟨wr.heap.size, 0, none⟩ = some (.int .i64 (I k)) := (by rw [kk.cell (by simp)]; simp); have q1 : w3.cell? ⟨wr.heap.size, 1, none⟩ = some (.string (C k)) := (by rw [kk.cell (by simp)]; simp); have k3 : Below wr.heap.size wr w3 := Below.trans (by go_grown) (kk.mono (by simp)); have K3 := Lib.hid k3; have hb3 : Below w.heap.size w w3 := step hb k3; have hz3 := hb3.size; clear kk k3)
          | (at_builtin; refine wpList_append_letter _ rfl _ _ rfl w.heap.size _ _ rfl ((ru.out.on K3.out).alloc _) _ (I k) (C k) rfl ?_ (by omega) (by simp; omega) ?_))
        · simp [go_sem]
        · intro v' w4 hr3 hg3 ho3
          obtain ⟨q1, q2⟩ := two_kept ((rv.out.on K3.out).alloc _) hap.out hg3 ho3 (by simp)
          have q3 := below_grown (W := w) (hb3.alloc hz3 _) ((ru.out.on K3.out).alloc _) (Nat.le_refl _) hg3
          have Q1 := Lib.hid q1
          have Q2 := Lib.hid q2
          have R3 := Lib.hid hr3
          clear hr3 hg3 ho3 q1 q2
          go_wp2
          go_roundw
          case rel => exact ⟨k + 1, by omega, by go_num, by rw [E1.out]; exact R3, by rw [E2.out]; exact Q1, Q2.out, q3⟩
          case measure => simp [intOf]; omega
    · obtain rfl : k = n := by omega
      go_wp2
      go_ret2
      exact ⟨_, _, rfl, ru.out, rv.out, hap.out, hb⟩
set_option maxHeartbeats 2000000 in
theorem impl_SplitBatch_yes (w : World) (a : Option Addr) (n c : Nat) (I : Nat → Int) (C : Nat → ByteArray) (p : ByteArray) (h : Lts w a n I C) (hf : Fits n I C) (hp : p.size ≤ maxLen) (hok : M.splitOk n I C p = true) :
    Calls Try.prog 30 #[.slice a n c, .string p] w (Split w true (M.withP p (M.lst I C n)) (M.sansP p (M.lst I C n))) := by
  have HF := Lib.hid hf
  have HL := Lib.hid (h.on ((Below.refl _ _).alloc (Nat.le_refl _) (.cells #[.string p] 9)))
  clear h hf
  have hmf : ∀ (fn : Fn) (first cap : Array Value) (w : World), (Instr.makeFunc fn first cap).run Try.prog w = .ok (.func fn first cap) w := fun _ _ _ _ => rfl
  unfold M.splitOk at hok
  rw [Bool.and_eq_true] at hok
  have HB := Lib.hid hok.1
  have HP := Lib.hid hok.2
  have hn := (M.batch_yes hok.1).1
  clear hok
  go_enter Try.func30, Try.ntmps30
  go_wp2_with fail
  refine (impl_BatchValid _ _ _ _ _ _ HL.out HF.out).mono ?_
  rw [HB.out]
  rintro e w1 ⟨rfl, hb1⟩
  have hc1 : w1.cell? ⟨w.heap.size, 0, none⟩ = some (.string p) := by
    rw [hb1.cell (p := ⟨w.heap.size, 0, none⟩) (by simp)]
    simp
  have hl1 := World.block_lt_of_cell? _ _ hc1
  go_wp2_with fail
  refine (impl_prefixValid _ _ hp).mono ?_
  rw [HP.out]
  rintro e w2 ⟨rfl, k2⟩
  have hc2 : w2.cell? ⟨w.heap.size, 0, none⟩ = some (.string p) := (k2.cell (p := ⟨w.heap.size, 0, none⟩) hl1).trans hc1
  have hb2 := step (step ((Below.refl w.heap.size w).alloc (Nat.le_refl _) (.cells #[.string p] 9)) hb1) k2
  have HL2 := Lib.hid ((HL.out.on hb1).on k2)
  clear hc1 hl1 hb1 k2 HL
  have hz2 := hb2.size
  go_wp2_with fail
  refine (divide_split _ _ _ _ _ _ HL2.out HF.out hn _ p hc2 _ rfl).mono ?_
  rintro e w3 ⟨v, v', rfl, r1, r2, hap, hb3⟩
  go_wp2
  go_ret3
  exact ⟨_, _, rfl, r1.lower0 hz2, r2.lower0 hz2, hap, step hb2 hb3⟩

theorem ret_split {v v' u u' : Value} {b : Bool} (h : v = u) (h' : v' = u') : Ending.returned (.tuple #[v, v', .bool b]) = .returned (.tuple #[u, u', .bool b]) := by rw [h, h']
set_option maxHeartbeats 1000000 in
theorem impl_SplitBatch_no (w : World) (a : Option Addr) (n c : Nat) (I : Nat → Int) (C : Nat → ByteArray) (p : ByteArray) (h : Lts w a n I C) (hf : Fits n I C) (hp : p.size ≤ maxLen) (hok : M.splitOk n I C p = false) :
    Calls Try.prog 30 #[.slice a n c, .string p] w (Split w false [] []) := by
  have HF := Lib.hid hf
  have HL := Lib.hid (h.on ((Below.refl _ _).alloc (Nat.le_refl _) (.cells #[.string p] 9)))
  clear h hf
  unfold M.splitOk at hok
  cases hb : M.batch n I C
  · have HB := Lib.hid hb
    clear hb hok
    go_enter Try.func30, Try.ntmps30
    go_wp2_with fail
    refine (impl_BatchValid _ _ _ _ _ _ HL.out HF.out).mono ?_
    rw [HB.out]
    rintro e w1 ⟨rfl, hb1⟩
    go_wp2
    go_ret3
    exact ⟨_, _, rfl, Row.nil _ _, Row.nil _ _, Apart.nil _, step ((Below.refl _ _).alloc (Nat.le_refl _) _) hb1⟩
  · rw [hb, Bool.true_and] at hok
    have HP := Lib.hid hok
    have HB := Lib.hid hb
    clear hb hok
    go_enter Try.func30, Try.ntmps30
    go_wp2_with fail
    refine (impl_BatchValid _ _ _ _ _ _ HL.out HF.out).mono ?_
    rw [HB.out]
    rintro e w1 ⟨rfl, hb1⟩
    have hc1 : w1.cell? ⟨w.heap.size, 0, none⟩ = some (.string p) := by
      rw [hb1.cell (p := ⟨w.heap.size, 0, none⟩) (by simp)]
      simp
    go_wp2_with fail
    refine (impl_prefixValid _ _ hp).mono ?_
    rw [HP.out]
    rintro e w2 ⟨rfl, k2⟩
    go_wp2
    go_ret3
    exact ⟨_, _, rfl, Row.nil _ _, Row.nil _ _, Apart.nil _, step (step ((Below.refl _ _).alloc (Nat.le_refl _) _) hb1) k2⟩

theorem two_empty (w : World) : Row ((w.alloc (.cells #[] 31)).alloc (.cells #[] 31)) w.heap.size (.slice (some ⟨w.heap.size, 0, none⟩) 0 0) [] ∧
    Row ((w.alloc (.cells #[] 31)).alloc (.cells #[] 31)) w.heap.size (.slice (some ⟨w.heap.size + 1, 0, none⟩) 0 0) [] ∧ Apart (.slice (some ⟨w.heap.size, 0, none⟩) 0 0) (.slice (some ⟨w.heap.size + 1, 0, none⟩) 0 0) := by
  have h1 : Row (w.alloc (.cells #[] 31)) w.heap.size (.slice (some ⟨w.heap.size, 0, none⟩) 0 0) [] := World.ownsRow_lit (base := w.heap.size) (e := 31) (size := 2) w #[] 0 (Nat.le_refl _) (by unfold maxLen; omega) rfl
  refine ⟨h1.alloc _, ?_, fun b hb e => ?_⟩
  · have := World.ownsRow_lit (base := w.heap.size) (e := 31) (size := 2) (w.alloc (.cells #[] 31)) #[] 0 (by simp) (by unfold maxLen; omega) rfl
    simp only [World.size_alloc] at this
    exact this
  · simp [Value.ownBlock] at hb e
    omega
set_option maxHeartbeats 1000000 in
theorem impl_CountPrefix (w : World) (a : Option Addr) (n c : Nat) (I : Nat → Int) (C : Nat → ByteArray) (p : ByteArray) (h : Lts w a n I C) (hf : Fits n I C) (hp : p.size ≤ maxLen) :
    Calls Try.prog 14 #[.slice a n c, .string p] w fun e w' => e = .returned (.int .i64 (M.countP n I C p)) ∧ Below w.heap.size w w' := by
  cases hok : M.splitOk n I C p
  · have hv := Lib.hid (M.countP_no hok)
    have HC := Lib.hid (impl_SplitBatch_no w a n c I C p h hf hp hok)
    clear h hf hok
    go_enter Try.func14, Try.ntmps14
    go_wp2_with fail
    refine HC.out.mono ?_
    rintro e w1 ⟨v, v', rfl, _, _, _, hb⟩
    go_wp2
    go_ret
    exact ⟨ret_int hv.out.symm, hb⟩
  · have hv := Lib.hid (M.countP_yes hok)
    have HC := Lib.hid (impl_SplitBatch_yes w a n c I C p h hf hp hok)
    clear h hf hok
    go_enter Try.func14, Try.ntmps14
    go_wp2_with fail
    refine HC.out.mono ?_
    rintro e w1 ⟨v, v', rfl, r1, _, _, hb⟩
    obtain ⟨a1, c1, rfl, _, _⟩ := r1.form
    clear r1
    go_wp2
    go_ret
    exact ⟨ret_int hv.out.symm, hb⟩
/-- What SplitBatch returns of letters. -/
def inS (n : Nat) (I : Nat → Int) (C : Nat → ByteArray) (p : ByteArray) : List (Int × ByteArray) := if M.splitOk n I C p = true then M.withP p (M.lst I C n) else []
def outS (n : Nat) (I : Nat → Int) (C : Nat → ByteArray) (p : ByteArray) : List (Int × ByteArray) := if M.splitOk n I C p = true then M.sansP p (M.lst I C n) else []
theorem inS_le (n : Nat) (I : Nat → Int) (C : Nat → ByteArray) (p : ByteArray) : (inS n I C p).length ≤ n := by
  unfold inS; split
  · exact M.withP_le p I C n
  · exact Nat.zero_le _
theorem outS_le (n : Nat) (I : Nat → Int) (C : Nat → ByteArray) (p : ByteArray) : (outS n I C p).length ≤ n := by
  unfold outS; split
  · exact M.sansP_le p I C n
  · exact Nat.zero_le _
theorem impl_Split (w : World) (a : Option Addr) (n c : Nat) (I : Nat → Int) (C : Nat → ByteArray) (p : ByteArray) (h : Lts w a n I C) (hf : Fits n I C) (hp : p.size ≤ maxLen) :
    Calls Try.prog 30 #[.slice a n c, .string p] w (Split w (M.splitOk n I C p) (inS n I C p) (outS n I C p)) := by
  unfold inS outS
  cases hok : M.splitOk n I C p
  · exact impl_SplitBatch_no w a n c I C p h hf hp hok
  · exact impl_SplitBatch_yes w a n c I C p h hf hp hok
end Go.Proofs.Ytobmenbhbeflhaa
