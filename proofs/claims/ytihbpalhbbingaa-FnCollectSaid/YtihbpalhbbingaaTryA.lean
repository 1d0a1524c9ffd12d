/-
  What TraysValid and EmptyTrays return, in the program and in the model of the document.
-/
import Derived.Test.YtihbpalhbbingaaTryM
import Derived.Test.YtihbpalhbbingaaTrkA
import Derived.Test.YtihbpalhbbingaaFind
import Derived.BigQuiet
namespace Go.Proofs.Ytihbpalhbbingaa
open Go.RowKit
set_option linter.unusedVariables false

theorem mat_slice {w : World} {base n : Nat} {v : Value} {V : Nat → Value} {MM : Nat → List (Int × ByteArray)} (h : Mat w base v n V MM) : ∃ u c, v = .slice u n c := by
  rcases h.form with ⟨rfl, rfl⟩ | ⟨g, c, rfl, _⟩
  · exact ⟨_, _, rfl⟩
  · exact ⟨_, _, rfl⟩
/-- A tray in memory. -/
theorem mat_at {w : World} {base n c : Nat} {u : Option Addr} {V : Nat → Value} {MM : Nat → List (Int × ByteArray)} (h : Mat w base (.slice u n c) n V MM) {i : Nat} (hi : i < n) :
    ∃ g a d, u = some ⟨g, 0, none⟩ ∧ w.cell? ⟨g, i, none⟩ = some (.slice a (MM i).length d) ∧ Lts w a (MM i).length (nI (MM i)) (nC (MM i)) := by
  obtain ⟨g, d, e, h1, _⟩ := h.cell hi
  cases e
  obtain ⟨a, d', e, _, hl⟩ := (h.2.1 i hi).form
  exact ⟨g, a, d', rfl, by rw [h1, e], hl⟩

set_option maxHeartbeats 2000000 in
theorem spec_TraysValid (w : World) (base : Nat) (v : Value) (n : Nat) (V : Nat → Value) (MM : Nat → List (Int × ByteArray)) (h : Mat w base v n V MM) (hz : Sz n MM) (s : Int) :
    Calls Try.prog 39 #[v, .int .i64 s] w fun e w' => e = .returned (.bool (traysOk n MM s)) ∧ Below w.heap.size w w' := by
  obtain ⟨u, c, rfl⟩ := mat_slice h
  have HM := Lib.hid h
  have HZ := Lib.hid hz
  have hn : n ≤ 1048576 := hz.1
  clear h hz
  go_enter Try.func39, Try.ntmps39
  go_wp2
  go_loop [5] (fun i => ∃ k : Nat, k ≤ n ∧ i = .int .i64 k ∧ Hid (∀ j, j < k → 1 ≤ ((MM j).length : Int) ∧ ((MM j).length : Int) ≤ s)) (fun i => n - (intOf i).toNat)
  case atStart => exact ⟨0, Nat.zero_le _, rfl, fun j hj => absurd hj (by omega)⟩
  case round =>
    obtain ⟨k, hk, rfl, hno⟩ := hrel
    by_cases hlt : k < n
    · obtain ⟨g, a, d, rfl, c0, _⟩ := mat_at HM.out hlt
      by_cases he : 1 ≤ ((MM k).length : Int) ∧ ((MM k).length : Int) ≤ s
      · have HE := Lib.hid he
        have D1 := Lib.hid (decide_eq_true he)
        clear he
        go_wp2_with (go_at_call 51; refine (spec_l1In _ _ _ _).mono ?_; rw [D1.out]; rintro e w1 ⟨rfl, rfl⟩)
        go_round
        case rel => exact ⟨k + 1, by omega, by go_num, fun j hj => by by_cases e : j = k; (subst e; exact HE.out); exact hno.out j (by omega)⟩
        case measure => simp [intOf]; omega
      · have HE := Lib.hid (traysOk_lens (lensIn_no hlt he))
        have D1 := Lib.hid (decide_eq_false he)
        clear he
        go_wp2_with (go_at_call 51; refine (spec_l1In _ _ _ _).mono ?_; rw [D1.out]; rintro e w1 ⟨rfl, rfl⟩)
        go_ret
        exact ⟨ret_bool HE.out.symm, Below.refl _ _⟩
    · obtain rfl : k = n := by omega
      have HA := Lib.hid ((lensIn_iff MM s k).2 hno.out)
      clear hno hlt
      by_cases h1 : 1 ≤ s ∧ s ≤ 20
      · have D1 := Lib.hid (decide_eq_true h1)
        by_cases h2 : k ≤ 60
        · have hv := Lib.hid (traysOk_last (show sizeOk s = true from decide_eq_true h1) h2 HA.out)
          have h9 : (k : Int) ≤ 60 := by omega
          obtain ⟨L, hL⟩ : ∃ L, M.flat MM k = L := ⟨_, rfl⟩
          have HC := Lib.hid (spec_l2Collect w base (.slice u k c) k V MM HM.out HZ.out.1 HZ.out.2.1)
          have HF := Lib.hid HZ.out.2.2
          have hl := HZ.out.2.1
          rw [hL] at HC HF hv hl
          clear h1 hL
          go_wp2_with (first
            | (go_at_call 57; refine (spec_l5Size _ _).mono ?_; rw [D1.out]; rintro e w1 ⟨rfl, rfl⟩)
            | (go_at_call 32; refine HC.out.mono ?_; rintro e w1 ⟨v1, rfl, r1, b1⟩; obtain ⟨a1, c1, rfl, _, hl1⟩ := r1.form; have HL1 := Lib.hid hl1; clear hl1 r1)
            | (go_at_call 33; refine (spec_BatchValid _ _ _ _ _ _ HL1.out HF.out hl).mono ?_; rintro e w2 ⟨rfl, b2⟩))
          go_ret
          exact ⟨ret_bool hv.out.symm, sstep b1 b2⟩
        · have hv := Lib.hid (traysOk_many (MM := MM) (s := s) h2)
          have h9 : ¬ (k : Int) ≤ 60 := by omega
          clear h1
          go_wp2_with (go_at_call 57; refine (spec_l5Size _ _).mono ?_; rw [D1.out]; rintro e w1 ⟨rfl, rfl⟩)
          go_ret
          exact ⟨ret_bool hv.out.symm, Below.refl _ _⟩
      · have D1 := Lib.hid (decide_eq_false h1)
        have hv := Lib.hid (traysOk_size (n := k) (MM := MM) (show sizeOk s = false from decide_eq_false h1))
        clear h1
        go_wp2_with (go_at_call 57; refine (spec_l5Size _ _).mono ?_; rw [D1.out]; rintro e w1 ⟨rfl, rfl⟩)
        go_ret
        exact ⟨ret_bool hv.out.symm, Below.refl _ _⟩

set_option maxHeartbeats 2000000 in
theorem impl_TraysValid (w : World) (base : Nat) (v : Value) (n : Nat) (V : Nat → Value) (MM : Nat → List (Int × ByteArray)) (h : Mat w base v n V MM) (hz : Sz n MM) (s : Int) :
    Calls Try.prog 14 #[v, .int .i64 s] w fun e w' => e = .returned (.bool (traysOk n MM s)) ∧ Below w.heap.size w w' := by
  obtain ⟨u, c, rfl⟩ := mat_slice h
  have HM := Lib.hid h
  have HZ := Lib.hid hz
  have hn : n ≤ 1048576 := hz.1
  clear h hz
  by_cases h1 : 1 ≤ s ∧ s ≤ 20
  · have D1 := Lib.hid (decide_eq_true h1)
    by_cases h2 : n ≤ 60
    · have h9 : ¬ (60 : Int) < (n : Int) := by omega
      have HS1 := Lib.hid h1
      clear h1
      go_enter Try.func14, Try.ntmps14
      go_wp2_with (go_at_call 41; refine (impl_traySize _ _).mono ?_; rw [D1.out]; rintro e w1 ⟨rfl, rfl⟩)
      go_loop [17] (fun i => ∃ k : Nat, k ≤ n ∧ i = .int .i64 k ∧ Hid (∀ j, j < k → 1 ≤ ((MM j).length : Int) ∧ ((MM j).length : Int) ≤ s)) (fun i => n - (intOf i).toNat)
      case atStart => exact ⟨0, Nat.zero_le _, rfl, fun j hj => absurd hj (by omega)⟩
      case round =>
        obtain ⟨k, hk, rfl, hno⟩ := hrel
        by_cases hlt : k < n
        · obtain ⟨g, a, d, rfl, c0, _⟩ := mat_at HM.out hlt
          have HB := Lib.hid (fun h => traysOk_lens (n := n) (MM := MM) (s := s) (lensIn_no hlt h))
          obtain ⟨m, hm⟩ : ∃ m, (MM k).length = m := ⟨_, rfl⟩
          rw [hm] at c0 HB
          have HMM := Lib.hid hm
          clear hm
          by_cases e0 : m = 0
          · have hv := Lib.hid (HB.out (by omega))
            have b0 : ((m : Int) == 0) = true := by rw [e0]; rfl
            have b1 : (m == 0) = true := by rw [e0]; rfl
            have E0 := Lib.hid e0
            clear e0
            go_wp2
            go_ret
            exact ⟨ret_bool hv.out.symm, Below.refl _ _⟩
          · have b0 : ((m : Int) == 0) = false := by rw [beq_eq_false_iff_ne]; omega
            have b1 : (m == 0) = false := by rw [beq_eq_false_iff_ne]; exact e0
            by_cases e1 : s < (m : Int)
            · have hv := Lib.hid (HB.out (by omega))
              go_wp2
              go_ret
              exact ⟨ret_bool hv.out.symm, Below.refl _ _⟩
            · have HE : Hid (1 ≤ ((MM k).length : Int) ∧ ((MM k).length : Int) ≤ s) := by rw [Hid, HMM.out]; omega
              go_wp2
              go_round
              case rel => exact ⟨k + 1, by omega, by go_num, fun j hj => by by_cases e : j = k; (subst e; exact HE.out); exact hno.out j (by omega)⟩
              case measure => simp [intOf]; omega
        · obtain rfl : k = n := by omega
          have HA := Lib.hid ((lensIn_iff MM s k).2 hno.out)
          have hv := Lib.hid (traysOk_last (show sizeOk s = true from D1.out) h2 HA.out)
          obtain ⟨L, hL⟩ : ∃ L, M.flat MM k = L := ⟨_, rfl⟩
          have HC := Lib.hid (slices_Concat w base (.slice u k c) k V MM HM.out HZ.out.1 HZ.out.2.1)
          have HF := Lib.hid HZ.out.2.2
          rw [hL] at HC HF hv
          clear hL hno hlt
          go_wp2_with (first
            | (go_at_call 31; refine HC.out.mono ?_; rintro e w1 ⟨v1, rfl, r1, b1⟩; obtain ⟨a1, c1, rfl, _, hl1⟩ := r1.form; have HL1 := Lib.hid hl1; clear hl1 r1)
            | (go_at_call 19; refine (impl_BatchValid _ _ _ _ _ _ HL1.out HF.out).mono ?_; rintro e w2 ⟨rfl, b2⟩))
          go_ret
          exact ⟨ret_bool hv.out.symm, sstep b1 b2⟩
    · have hv := Lib.hid (traysOk_many (MM := MM) (s := s) h2)
      have h9 : (60 : Int) < (n : Int) := by omega
      clear h1
      go_enter Try.func14, Try.ntmps14
      go_wp2_with (go_at_call 41; refine (impl_traySize _ _).mono ?_; rw [D1.out]; rintro e w1 ⟨rfl, rfl⟩)
      go_ret
      exact ⟨ret_bool hv.out.symm, Below.refl _ _⟩
  · have D1 := Lib.hid (decide_eq_false h1)
    have hv := Lib.hid (traysOk_size (n := n) (MM := MM) (show sizeOk s = false from decide_eq_false h1))
    clear h1
    go_enter Try.func14, Try.ntmps14
    go_wp2_with (go_at_call 41; refine (impl_traySize _ _).mono ?_; rw [D1.out]; rintro e w1 ⟨rfl, rfl⟩)
    go_ret
    exact ⟨ret_bool hv.out.symm, Below.refl _ _⟩
end Go.Proofs.Ytihbpalhbbingaa

/-
  What EmptyTrays, TrayOf and LabelOf return, in the program and in the model of the document.
-/
namespace Go.Proofs.Ytihbpalhbbingaa
open Go.RowKit
set_option linter.unusedVariables false

/-- Letters, and whether there are any. -/
def RowFound (w : World) (ok : Bool) (L : List (Int × ByteArray)) (e : Ending) (w' : World) : Prop := ∃ v, e = .returned (.tuple #[v, .bool ok]) ∧ Row w' w.heap.size v L ∧ Below w.heap.size w w'
theorem empty_no {n : Nat} {MM : Nat → List (Int × ByteArray)} (h : traysOk n MM 20 = false) : empty n MM = [] := if_neg (by rw [h]; decide)
theorem empty_yes {n : Nat} {MM : Nat → List (Int × ByteArray)} (h : traysOk n MM 20 = true) : empty n MM = M.flat MM n := if_pos h

set_option maxHeartbeats 1000000 in
theorem spec_EmptyTrays (w : World) (base : Nat) (v : Value) (n : Nat) (V : Nat → Value) (MM : Nat → List (Int × ByteArray)) (h : Mat w base v n V MM) (hz : Sz n MM) :
    Calls Try.prog 18 #[v] w (RowFound w (traysOk n MM 20) (empty n MM)) := by
  have HM := Lib.hid h
  have HZ := Lib.hid hz
  have HT := Lib.hid (spec_TraysValid w base v n V MM h hz 20)
  clear h hz
  cases ho : traysOk n MM 20
  · rw [empty_no ho]
    have HO := Lib.hid ho
    clear ho
    go_enter Try.func18, Try.ntmps18
    go_wp2_with (go_at_call 39; refine HT.out.mono ?_; rw [HO.out]; rintro e w1 ⟨rfl, b1⟩)
    go_ret2
    exact ⟨_, rfl, (one_row w1).lower b1.size, sstep b1 (below_alloc0 _ _)⟩
  · rw [empty_yes ho]
    have HO := Lib.hid ho
    clear ho
    have HC := Lib.hid (fun W (hW : Below w.heap.size w W) => spec_l2Collect W base v n V MM (HM.out.on hW) HZ.out.1 HZ.out.2.1)
    go_enter Try.func18, Try.ntmps18
    go_wp2_with (first
      | (go_at_call 39; refine HT.out.mono ?_; rw [HO.out]; rintro e w1 ⟨rfl, b1⟩)
      | (go_at_call 32; refine (HC.out _ b1).mono ?_; rintro e w2 ⟨v1, rfl, r1, b2⟩))
    go_ret2
    exact ⟨_, rfl, r1.lower b1.size, sstep b1 b2⟩

set_option maxHeartbeats 1000000 in
theorem impl_EmptyTrays (w : World) (base : Nat) (v : Value) (n : Nat) (V : Nat → Value) (MM : Nat → List (Int × ByteArray)) (h : Mat w base v n V MM) (hz : Sz n MM) :
    Calls Try.prog 16 #[v] w (RowFound w (traysOk n MM 20) (empty n MM)) := by
  have HM := Lib.hid h
  have HZ := Lib.hid hz
  have HT := Lib.hid (impl_TraysValid w base v n V MM h hz 20)
  clear h hz
  cases ho : traysOk n MM 20
  · rw [empty_no ho]
    have HO := Lib.hid ho
    clear ho
    go_enter Try.func16, Try.ntmps16
    go_wp2_with (go_at_call 14; refine HT.out.mono ?_; rw [HO.out]; rintro e w1 ⟨rfl, b1⟩)
    go_ret2
    exact ⟨_, rfl, Row.nil _ _, b1⟩
  · rw [empty_yes ho]
    have HO := Lib.hid ho
    clear ho
    have HC := Lib.hid (fun W (hW : Below w.heap.size w W) => slices_Concat W base v n V MM (HM.out.on hW) HZ.out.1 HZ.out.2.1)
    go_enter Try.func16, Try.ntmps16
    go_wp2_with (first
      | (go_at_call 14; refine HT.out.mono ?_; rw [HO.out]; rintro e w1 ⟨rfl, b1⟩)
      | (go_at_call 31; refine (HC.out _ b1).mono ?_; rintro e w2 ⟨v1, rfl, r1, b2⟩))
    go_ret2
    exact ⟨_, rfl, r1.lower b1.size, sstep b1 b2⟩

set_option maxHeartbeats 1000000 in
theorem hasLetter_it (w : World) (B : Nat) (x : Int) (a : Option Addr) (n c : Nat) (I : Nat → Int) (C : Nat → ByteArray) (h : Lts w a n I C) (hf : Fits n I C) (hB : w.cell? ⟨B, 0, none⟩ = some (.int .i64 x)) :
    Calls Try.prog 37 #[.slice a n c, .pointer (some ⟨B, 0, none⟩)] w fun e w' => e = .returned (.bool (decide (0 ≤ M.findLetter n I C x))) ∧ Below w.heap.size w w' := by
  have HL := Lib.hid h
  have HF := Lib.hid hf
  obtain ⟨z, hz⟩ : ∃ z, M.findLetter n I C x = z := ⟨_, rfl⟩
  have HZ := Lib.hid hz
  rw [hz]
  clear h hf hz
  go_enter Try.func37, Try.ntmps37
  go_wp2_with (go_at_call 38; refine (impl_FindLetter _ _ _ _ _ _ HL.out HF.out x).mono ?_; rw [HZ.out]; rintro e w1 ⟨rfl, b1⟩)
  go_ret
  exact ⟨rfl, b1⟩

set_option maxHeartbeats 2000000 in
theorem index_tray (w : World) (base n c : Nat) (u : Option Addr) (V : Nat → Value) (MM : Nat → List (Int × ByteArray)) (h : Mat w base (.slice u n c) n V MM) (hz : Sz n MM) (B : Nat) (x : Int) (hB : w.cell? ⟨B, 0, none⟩ = some (.int .i64 x)) :
    Calls Try.prog 36 #[.slice u n c, .func (.func 37) #[] #[.pointer (some ⟨B, 0, none⟩)]] w fun e w' => e = .returned (.int .i64 (trayAt x MM n)) ∧ Below w.heap.size w w' := by
  have HM := Lib.hid h
  have HZ := Lib.hid hz
  have hn : n ≤ 1048576 := hz.1
  have l1 := World.block_lt_of_cell? _ _ hB
  have HC := Lib.hid (fun W (hW : Below w.heap.size w W) k a c (hk : k < n) (hl : Lts W a (MM k).length (nI (MM k)) (nC (MM k))) => hasLetter_it W B x a (MM k).length c _ _ hl (hz.one hk).2 ((hW.cell (p := ⟨B, 0, none⟩) l1).trans hB))
  clear h hz hB l1
  go_enter Try.func36, Try.ntmps36
  go_wp2
  go_loopw [8] (fun i wr => ∃ k : Nat, k ≤ n ∧ i = .int .i64 k ∧ Hid (∀ j, j < k → has x (MM j) = false) ∧ Below w.heap.size w wr) (fun i _ => n - (intOf i).toNat)
  case atStart => exact ⟨0, Nat.zero_le _, rfl, fun j hj => absurd hj (by omega), Below.refl _ _⟩
  case round =>
    obtain ⟨k, hk, rfl, hno, hb⟩ := hrel
    by_cases hlt : k < n
    · obtain ⟨g, a, d, rfl, c0, hl⟩ := mat_at (HM.out.on hb) hlt
      have HL := Lib.hid hl
      clear hl
      cases hh : has x (MM k)
      · have HH : Hid (decide (0 ≤ M.findLetter (MM k).length (nI (MM k)) (nC (MM k)) x) = false) := hh
        have HG := Lib.hid hh
        clear hh
        go_wp2_with (go_at_call 37; refine (HC.out _ hb k _ _ hlt HL.out).mono ?_; rw [HH.out]; rintro e w1 ⟨rfl, hb1⟩)
        go_roundw
        case rel => exact ⟨k + 1, by omega, by go_num, fun j hj => by by_cases e : j = k; (subst e; exact HG.out); exact hno.out j (by omega), sstep hb hb1⟩
        case measure => simp [intOf]; omega
      · have HH : Hid (decide (0 ≤ M.findLetter (MM k).length (nI (MM k)) (nC (MM k)) x) = true) := hh
        have hv := Lib.hid (trayAt_hit hlt hh hno.out)
        clear hh
        go_wp2_with (go_at_call 37; refine (HC.out _ hb k _ _ hlt HL.out).mono ?_; rw [HH.out]; rintro e w1 ⟨rfl, hb1⟩)
        go_ret
        exact ⟨ret_int hv.out.symm, sstep hb hb1⟩
    · obtain rfl : k = n := by omega
      have hv := Lib.hid (trayAt_miss (n := k) hno.out)
      go_wp2
      go_ret
      exact ⟨ret_int hv.out.symm, hb⟩

set_option maxHeartbeats 1000000 in
theorem impl_TrayOf (w : World) (base : Nat) (v : Value) (n : Nat) (V : Nat → Value) (MM : Nat → List (Int × ByteArray)) (h : Mat w base v n V MM) (hz : Sz n MM) (x : Int) :
    Calls Try.prog 12 #[v, .int .i64 x] w fun e w' => e = .returned (.int .i64 (trayOf n MM x)) ∧ Below w.heap.size w w' := by
  have hmf : ∀ (fn : Fn) (first cap : Array Value) (w : World), (Instr.makeFunc fn first cap).run Try.prog w = .ok (.func fn first cap) w := fun _ _ _ _ => rfl
  obtain ⟨u, c, rfl⟩ := mat_slice h
  have HB0 := Lib.hid (below_alloc0 w (.cells #[.int .i64 x] 3))
  have HM := Lib.hid (h.on HB0.out)
  have HZ := Lib.hid hz
  clear h hz
  have HT := Lib.hid (impl_TraysValid _ base (.slice u n c) n V MM HM.out HZ.out 20)
  cases ho : traysOk n MM 20
  · have hv := Lib.hid (trayOf_no (x := x) ho)
    have HO := Lib.hid ho
    clear ho
    go_enter Try.func12, Try.ntmps12
    go_wp2_with (go_at_call 14; refine HT.out.mono ?_; rw [HO.out]; rintro e w1 ⟨rfl, b1⟩)
    go_ret
    exact ⟨ret_int hv.out.symm, sstep HB0.out b1⟩
  · have hv := Lib.hid (trayOf_yes (x := x) ho)
    have HO := Lib.hid ho
    clear ho
    go_enter Try.func12, Try.ntmps12
    go_wp2_with (first
      | (go_at_call 14; refine HT.out.mono ?_; rw [HO.out]; rintro e w1 ⟨rfl, b1⟩; have cB : w1.cell? ⟨w.heap.size, 0, none⟩ = some (.int .i64 x) := (b1.cell (p := ⟨w.heap.size, 0, none⟩) (by simp)).trans (by simp); have HM1 := Lib.hid (HM.out.on b1); have HB1 := Lib.hid (sstep HB0.out b1); clear b1)
      | (go_at_call 36; refine (index_tray _ base n c u V MM HM1.out HZ.out w.heap.size x cB).mono ?_; rintro e w2 ⟨rfl, b2⟩))
    go_ret
    exact ⟨ret_int hv.out.symm, sstep HB1.out b2⟩

set_option maxHeartbeats 1000000 in
theorem spec_TrayOf (w : World) (base : Nat) (v : Value) (n : Nat) (V : Nat → Value) (MM : Nat → List (Int × ByteArray)) (h : Mat w base v n V MM) (hz : Sz n MM) (x : Int) :
    Calls Try.prog 13 #[v, .int .i64 x] w fun e w' => e = .returned (.int .i64 (trayOf n MM x)) ∧ Below w.heap.size w w' := by
  obtain ⟨u, c, rfl⟩ := mat_slice h
  have HM := Lib.hid h
  have HZ := Lib.hid hz
  have hn : n ≤ 1048576 := hz.1
  clear h hz
  have HT := Lib.hid (fun W (hW : Below w.heap.size w W) => spec_TraysValid W base (.slice u n c) n V MM (HM.out.on hW) HZ.out 20)
  cases ho : traysOk n MM 20
  · have hv := Lib.hid (trayOf_no (x := x) ho)
    have HO := Lib.hid ho
    clear ho
    go_enter Try.func13, Try.ntmps13
    by_cases h0 : 0 < n
    · go_wp2
      refine wp_loop_rounds 1 ?_
      rw [rounds_succ]
      go_wp2_with (go_at_call 39; refine (HT.out _ (Below.refl _ _)).mono ?_; rw [HO.out]; rintro e w1 ⟨rfl, b1⟩)
      go_ret
      exact ⟨ret_int hv.out.symm, b1⟩
    · obtain rfl : n = 0 := by omega
      go_wp2
      go_rounds 1
      go_ret
      exact ⟨ret_int hv.out.symm, Below.refl _ _⟩
  · have hv := Lib.hid (trayOf_yes (x := x) ho)
    have HO := Lib.hid ho
    clear ho
    go_enter Try.func13, Try.ntmps13
    go_wp2
    go_loopw [5] (fun i wr => ∃ k : Nat, k ≤ n ∧ i = .int .i64 k ∧ Hid (∀ j, j < k → has x (MM j) = false) ∧ Hid (Below w.heap.size w wr)) (fun i _ => n - (intOf i).toNat)
    case atStart => exact ⟨0, Nat.zero_le _, rfl, fun j hj => absurd hj (by omega), Below.refl _ _⟩
    case round =>
      obtain ⟨k, hk, rfl, hno, hb⟩ := hrel
      by_cases hlt : k < n
      · obtain ⟨z, hz⟩ : ∃ z, M.findLetter (MM k).length (nI (MM k)) (nC (MM k)) x = z := ⟨_, rfl⟩
        have HZF := Lib.hid hz
        have HL1 := (HZ.out.one hlt).1
        have HF1 := Lib.hid (HZ.out.one hlt).2
        have hlt' : (k : Int) < (n : Int) := by omega
        have hk0 : (0 : Int) ≤ (k : Int) := by omega
        have hdz : has x (MM k) = decide (0 ≤ z) := by unfold has; rw [hz]
        cases hh : has x (MM k)
        · have HG := Lib.hid hh
          rw [hh] at hdz
          have hz0 : ¬ 0 ≤ z := by simpa using hdz.symm
          clear hh hz hdz
          go_wp2_with (first
            | (go_at_call 39; refine (HT.out _ hb.out).mono ?_; rw [HO.out]; rintro e w1 ⟨rfl, b1⟩; have HB1 := Lib.hid (sstep hb.out b1); obtain ⟨g, a, d, e1, c0, hl⟩ := mat_at (HM.out.on HB1.out) hlt; cases e1; have HLL := Lib.hid hl; clear b1 hl)
            | (go_at_call 40; refine (spec_FindLetter _ _ _ _ _ _ HLL.out HF1.out HL1 x).mono ?_; rw [HZF.out]; rintro e w2 ⟨rfl, b2⟩))
          go_roundw
          case rel => exact ⟨k + 1, by omega, by go_num, fun j hj => by by_cases e : j = k; (subst e; exact HG.out); exact hno.out j (by omega), sstep HB1.out b2⟩
          case measure => simp [intOf]; omega
        · have hvv := Lib.hid (hv.out.trans (trayAt_hit hlt hh hno.out))
          rw [hh] at hdz
          have hz0 : 0 ≤ z := by simpa using hdz.symm
          clear hh hz hdz
          go_wp2_with (first
            | (go_at_call 39; refine (HT.out _ hb.out).mono ?_; rw [HO.out]; rintro e w1 ⟨rfl, b1⟩; have HB1 := Lib.hid (sstep hb.out b1); obtain ⟨g, a, d, e1, c0, hl⟩ := mat_at (HM.out.on HB1.out) hlt; cases e1; have HLL := Lib.hid hl; clear b1 hl)
            | (go_at_call 40; refine (spec_FindLetter _ _ _ _ _ _ HLL.out HF1.out HL1 x).mono ?_; rw [HZF.out]; rintro e w2 ⟨rfl, b2⟩))
          go_ret
          exact ⟨ret_int hvv.out.symm, sstep HB1.out b2⟩
      · obtain rfl : k = n := by omega
        have hvv := Lib.hid (hv.out.trans (trayAt_miss (n := k) hno.out))
        go_wp2
        go_ret
        exact ⟨ret_int hvv.out.symm, hb.out⟩

theorem label_yes {n : Nat} {I : Nat → Int} {C : Nat → ByteArray} (h : M.batch n I C = true) (h0 : 0 < n) : label n I C = C 0 ++ ⟨#[45]⟩ ++ C (n - 1) := if_pos ⟨h, h0⟩
theorem label_no {n : Nat} {I : Nat → Int} {C : Nat → ByteArray} (h : ¬ (M.batch n I C = true ∧ 0 < n)) : label n I C = ⟨#[]⟩ := if_neg h
theorem ret_string {a b : ByteArray} (h : a = b) : Ending.returned (.string a) = .returned (.string b) := by rw [h]

end Go.Proofs.Ytihbpalhbbingaa
