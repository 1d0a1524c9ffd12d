/-
  What EmptyTrays, TrayOf and LabelOf return, in the program and in the model of the document.
-/
import Derived.Test.YtmekhbekjfandaaTry
import Derived.Test.YtmekhbekjfandaaFind
import Derived.BigQuiet
namespace Go.Proofs.Ytmekhbekjfandaa
open Go.RowKit
set_option linter.unusedVariables false

/-- Letters, and whether there are any. -/
def RowFound (w : World) (ok : Bool) (L : List (Int × ByteArray)) (e : Ending) (w' : World) : Prop := ∃ v, e = .returned (.tuple #[v, .bool ok]) ∧ Row w' w.heap.size v L ∧ Below w.heap.size w w'
theorem empty_no {n : Nat} {MM : Nat → List (Int × ByteArray)} (h : traysOk n MM 20 = false) : empty n MM = [] := if_neg (by rw [h]; decide)
theorem empty_yes {n : Nat} {MM : Nat → List (Int × ByteArray)} (h : traysOk n MM 20 = true) : empty n MM = M.flat MM n := if_pos h

set_option maxHeartbeats 1000000 in
theorem spec_EmptyTrays (w : World) (base : Nat) (v : Value) (n : Nat) (V : Nat → Value) (MM : Nat → List (Int × ByteArray)) (h : Mat w base v n V MM) (hz : Sz n MM) :
    Calls Try.prog 25 #[v] w (RowFound w (traysOk n MM 20) (empty n MM)) := by
  have HM := Lib.hid h
  have HZ := Lib.hid hz
  have HT := Lib.hid (spec_TraysValid w base v n V MM h hz 20)
  clear h hz
  cases ho : traysOk n MM 20
  · rw [empty_no ho]
    have HO := Lib.hid ho
    clear ho
    go_enter Try.func25, Try.ntmps25
    go_wp2_with (go_at_call 47; refine HT.out.mono ?_; rw [HO.out]; rintro e w1 ⟨rfl, b1⟩)
    go_ret2
    exact ⟨_, rfl, (one_row w1).lower b1.size, sstep b1 (below_alloc0 _ _)⟩
  · rw [empty_yes ho]
    have HO := Lib.hid ho
    clear ho
    have HC := Lib.hid (fun W (hW : Below w.heap.size w W) => spec_l2Collect W base v n V MM (HM.out.on hW) HZ.out.1 HZ.out.2.1)
    go_enter Try.func25, Try.ntmps25
    go_wp2_with (first
      | (go_at_call 47; refine HT.out.mono ?_; rw [HO.out]; rintro e w1 ⟨rfl, b1⟩)
      | (go_at_call 51; refine (HC.out _ b1).mono ?_; rintro e w2 ⟨v1, rfl, r1, b2⟩))
    go_ret2
    exact ⟨_, rfl, r1.lower b1.size, sstep b1 b2⟩

set_option maxHeartbeats 1000000 in
theorem impl_EmptyTrays (w : World) (base : Nat) (v : Value) (n : Nat) (V : Nat → Value) (MM : Nat → List (Int × ByteArray)) (h : Mat w base v n V MM) (hz : Sz n MM) :
    Calls Try.prog 23 #[v] w (RowFound w (traysOk n MM 20) (empty n MM)) := by
  have HM := Lib.hid h
  have HZ := Lib.hid hz
  have HT := Lib.hid (impl_TraysValid w base v n V MM h hz 20)
  clear h hz
  cases ho : traysOk n MM 20
  · rw [empty_no ho]
    have HO := Lib.hid ho
    clear ho
    go_enter Try.func23, Try.ntmps23
    go_wp2_with (go_at_call 21; refine HT.out.mono ?_; rw [HO.out]; rintro e w1 ⟨rfl, b1⟩)
    go_ret2
    exact ⟨_, rfl, Row.nil _ _, b1⟩
  · rw [empty_yes ho]
    have HO := Lib.hid ho
    clear ho
    have HC := Lib.hid (fun W (hW : Below w.heap.size w W) => slices_Concat W base v n V MM (HM.out.on hW) HZ.out.1 HZ.out.2.1)
    go_enter Try.func23, Try.ntmps23
    go_wp2_with (first
      | (go_at_call 21; refine HT.out.mono ?_; rw [HO.out]; rintro e w1 ⟨rfl, b1⟩)
      | (go_at_call 50; refine (HC.out _ b1).mono ?_; rintro e w2 ⟨v1, rfl, r1, b2⟩))
    go_ret2
    exact ⟨_, rfl, r1.lower b1.size, sstep b1 b2⟩

set_option maxHeartbeats 1000000 in
theorem hasLetter_it (w : World) (B : Nat) (x : Int) (a : Option Addr) (n c : Nat) (I : Nat → Int) (C : Nat → ByteArray) (h : Lts w a n I C) (hf : Fits n I C) (hB : w.cell? ⟨B, 0, none⟩ = some (.int .i64 x)) :
    Calls Try.prog 45 #[.slice a n c, .pointer (some ⟨B, 0, none⟩)] w fun e w' => e = .returned (.bool (decide (0 ≤ M.findLetter n I C x))) ∧ Below w.heap.size w w' := by
  have HL := Lib.hid h
  have HF := Lib.hid hf
  obtain ⟨z, hz⟩ : ∃ z, M.findLetter n I C x = z := ⟨_, rfl⟩
  have HZ := Lib.hid hz
  rw [hz]
  clear h hf hz
  go_enter Try.func45, Try.ntmps45
  go_wp2_with (go_at_call 46; refine (impl_FindLetter _ _ _ _ _ _ HL.out HF.out x).mono ?_; rw [HZ.out]; rintro e w1 ⟨rfl, b1⟩)
  go_ret
  exact ⟨rfl, b1⟩

set_option maxHeartbeats 2000000 in
theorem index_tray (w : World) (base n c : Nat) (u : Option Addr) (V : Nat → Value) (MM : Nat → List (Int × ByteArray)) (h : Mat w base (.slice u n c) n V MM) (hz : Sz n MM) (B : Nat) (x : Int) (hB : w.cell? ⟨B, 0, none⟩ = some (.int .i64 x)) :
    Calls Try.prog 44 #[.slice u n c, .func (.func 45) #[] #[.pointer (some ⟨B, 0, none⟩)]] w fun e w' => e = .returned (.int .i64 (trayAt x MM n)) ∧ Below w.heap.size w w' := by
  have HM := Lib.hid h
  have HZ := Lib.hid hz
  have hn : n ≤ 1048576 := hz.1
  have l1 := World.block_lt_of_cell? _ _ hB
  have HC := Lib.hid (fun W (hW : Below w.heap.size w W) k a c (hk : k < n) (hl : Lts W a (MM k).length (nI (MM k)) (nC (MM k))) => hasLetter_it W B x a (MM k).length c _ _ hl (hz.one hk).2 ((hW.cell (p := ⟨B, 0, none⟩) l1).trans hB))
  clear h hz hB l1
  go_enter Try.func44, Try.ntmps44
  go_wp2
  go_loopw [8] (fun i wr => ∃ k : Nat, k ≤ n ∧ i = .int .i64 k ∧ Hid (∀ j, j < k → has x (MM j) = false) ∧ Below w.heap.size w wr) (fun i _ => n - (intOf i).toNat)
  case atStart => exact ⟨0, Nat.zero_le _, rfl, fun j hj => absurd hj (by omega), Below.refl _ _⟩
  case round =>
    obtain ⟨k, hk, rfl, hno, hb⟩ := hrel
    by_cases hlt : k < n
    · obtain ⟨g, a, d, rfl, c0, hl⟩ := mat_at (HM.out.on hb) hlt
      have HL := Lib.hid hl
      clear hl
      cases hh : has x (MM k)
      · have HH : Hid (decide (0 ≤ M.findLetter (MM k).length (nI (MM k)) (nC (MM k)) x) = false) := hh
        have HG := Lib.hid hh
        clear hh
        go_wp2_with (go_at_call 45; refine (HC.out _ hb k _ _ hlt HL.out).mono ?_; rw [HH.out]; rintro e w1 ⟨rfl, hb1⟩)
        go_roundw
        case rel => exact ⟨k + 1, by omega, by go_num, fun j hj => by by_cases e : j = k; (subst e; exact HG.out); exact hno.out j (by omega), sstep hb hb1⟩
        case measure => simp [intOf]; omega
      · have HH : Hid (decide (0 ≤ M.findLetter (MM k).length (nI (MM k)) (nC (MM k)) x) = true) := hh
        have hv := Lib.hid (trayAt_hit hlt hh hno.out)
        clear hh
        go_wp2_with (go_at_call 45; refine (HC.out _ hb k _ _ hlt HL.out).mono ?_; rw [HH.out]; rintro e w1 ⟨rfl, hb1⟩)
        go_ret
        exact ⟨ret_int hv.out.symm, sstep hb hb1⟩
    · obtain rfl : k = n := by omega
      have hv := Lib.hid (trayAt_miss (n := k) hno.out)
      go_wp2
      go_ret
      exact ⟨ret_int hv.out.symm, hb⟩

set_option maxHeartbeats 1000000 in
theorem impl_TrayOf (w : World) (base : Nat) (v : Value) (n : Nat) (V : Nat → Value) (MM : Nat → List (Int × ByteArray)) (h : Mat w base v n V MM) (hz : Sz n MM) (x : Int) :
    Calls Try.prog 19 #[v, .int .i64 x] w fun e w' => e = .returned (.int .i64 (trayOf n MM x)) ∧ Below w.heap.size w w' := by
  have hmf : ∀ (fn : Fn) (first cap : Array Value) (w : World), (Instr.makeFunc fn first cap).run Try.prog w = .ok (.func fn first cap) w := fun _ _ _ _ => rfl
  obtain ⟨u, c, rfl⟩ := mat_slice h
  have HB0 := Lib.hid (below_alloc0 w (.cells #[.int .i64 x] 3))
  have HM := Lib.hid (h.on HB0.out)
  have HZ := Lib.hid hz
  clear h hz
  have HT := Lib.hid (impl_TraysValid _ base (.slice u n c) n V MM HM.out HZ.out 20)
  cases ho : traysOk n MM 20
  · have hv := Lib.hid (trayOf_no (x := x) ho)
    have HO := Lib.hid ho
    clear ho
    go_enter Try.func19, Try.ntmps19
    go_wp2_with (go_at_call 21; refine HT.out.mono ?_; rw [HO.out]; rintro e w1 ⟨rfl, b1⟩)
    go_ret
    exact ⟨ret_int hv.out.symm, sstep HB0.out b1⟩
  · have hv := Lib.hid (trayOf_yes (x := x) ho)
    have HO := Lib.hid ho
    clear ho
    go_enter Try.func19, Try.ntmps19
    go_wp2_with (first
      | (go_at_call 21; refine HT.out.mono ?_; rw [HO.out]; rintro e w1 ⟨rfl, b1⟩; have cB : w1.cell? ⟨w.heap.size, 0, none⟩ = some (.int .i64 x) := (b1.cell (p := ⟨w.heap.size, 0, none⟩) (by simp)).trans (by simp); have HM1 := Lib.hid (HM.out.on b1); have HB1 := Lib.hid (sstep HB0.out b1); clear b1)
      | (go_at_call 44; refine (index_tray _ base n c u V MM HM1.out HZ.out w.heap.size x cB).mono ?_; rintro e w2 ⟨rfl, b2⟩))
    go_ret
    exact ⟨ret_int hv.out.symm, sstep HB1.out b2⟩

set_option maxHeartbeats 1000000 in
theorem spec_TrayOf (w : World) (base : Nat) (v : Value) (n : Nat) (V : Nat → Value) (MM : Nat → List (Int × ByteArray)) (h : Mat w base v n V MM) (hz : Sz n MM) (x : Int) :
    Calls Try.prog 20 #[v, .int .i64 x] w fun e w' => e = .returned (.int .i64 (trayOf n MM x)) ∧ Below w.heap.size w w' := by
  obtain ⟨u, c, rfl⟩ := mat_slice h
  have HM := Lib.hid h
  have HZ := Lib.hid hz
  have hn : n ≤ 1048576 := hz.1
  clear h hz
  have HT := Lib.hid (fun W (hW : Below w.heap.size w W) => spec_TraysValid W base (.slice u n c) n V MM (HM.out.on hW) HZ.out 20)
  cases ho : traysOk n MM 20
  · have hv := Lib.hid (trayOf_no (x := x) ho)
    have HO := Lib.hid ho
    clear ho
    go_enter Try.func20, Try.ntmps20
    by_cases h0 : 0 < n
    · go_wp2
      refine wp_loop_rounds 1 ?_
      rw [rounds_succ]
      go_wp2_with (go_at_call 47; refine (HT.out _ (Below.refl _ _)).mono ?_; rw [HO.out]; rintro e w1 ⟨rfl, b1⟩)
      go_ret
      exact ⟨ret_int hv.out.symm, b1⟩
    · obtain rfl : n = 0 := by omega
      go_wp2
      go_rounds 1
      go_ret
      exact ⟨ret_int hv.out.symm, Below.refl _ _⟩
  · have hv := Lib.hid (trayOf_yes (x := x) ho)
    have HO := Lib.hid ho
    clear ho
    go_enter Try.func20, Try.ntmps20
    go_wp2
    go_loopw [5] (fun i wr => ∃ k : Nat, k ≤ n ∧ i = .int .i64 k ∧ Hid (∀ j, j < k → has x (MM j) = false) ∧ Hid (Below w.heap.size w wr)) (fun i _ => n - (intOf i).toNat)
    case atStart => exact ⟨0, Nat.zero_le _, rfl, fun j hj => absurd hj (by omega), Below.refl _ _⟩
    case round =>
      obtain ⟨k, hk, rfl, hno, hb⟩ := hrel
      by_cases hlt : k < n
      · obtain ⟨z, hz⟩ : ∃ z, M.findLetter (MM k).length (nI (MM k)) (nC (MM k)) x = z := ⟨_, rfl⟩
        have HZF := Lib.hid hz
        have HL1 := (HZ.out.one hlt).1
        have HF1 := Lib.hid (HZ.out.one hlt).2
        have hlt' : (k : Int) < (n : Int) := by omega
        have hk0 : (0 : Int) ≤ (k : Int) := by omega
        have hdz : has x (MM k) = decide (0 ≤ z) := by unfold has; rw [hz]
        cases hh : has x (MM k)
        · have HG := Lib.hid hh
          rw [hh] at hdz
          have hz0 : ¬ 0 ≤ z := by simpa using hdz.symm
          clear hh hz hdz
          go_wp2_with (first
            | (go_at_call 47; refine (HT.out _ hb.out).mono ?_; rw [HO.out]; rintro e w1 ⟨rfl, b1⟩; have HB1 := Lib.hid (sstep hb.out b1); obtain ⟨g, a, d, e1, c0, hl⟩ := mat_at (HM.out.on HB1.out) hlt; cases e1; have HLL := Lib.hid hl; clear b1 hl)
            | (go_at_call 48; refine (spec_FindLetter _ _ _ _ _ _ HLL.out HF1.out HL1 x).mono ?_; rw [HZF.out]; rintro e w2 ⟨rfl, b2⟩))
          go_roundw
          case rel => exact ⟨k + 1, by omega, by go_num, fun j hj => by by_cases e : j = k; (subst e; exact HG.out); exact hno.out j (by omega), sstep HB1.out b2⟩
          case measure => simp [intOf]; omega
        · have hvv := Lib.hid (hv.out.trans (trayAt_hit hlt hh hno.out))
          rw [hh] at hdz
          have hz0 : 0 ≤ z := by simpa using hdz.symm
          clear hh hz hdz
          go_wp2_with (first
            | (go_at_call 47; refine (HT.out _ hb.out).mono ?_; rw [HO.out]; rintro e w1 ⟨rfl, b1⟩; have HB1 := Lib.hid (sstep hb.out b1); obtain ⟨g, a, d, e1, c0, hl⟩ := mat_at (HM.out.on HB1.out) hlt; cases e1; have HLL := Lib.hid hl; clear b1 hl)
            | (go_at_call 48; refine (spec_FindLetter _ _ _ _ _ _ HLL.out HF1.out HL1 x).mono ?_; rw [HZF.out]; rintro e w2 ⟨rfl, b2⟩))
          go_ret
          exact ⟨ret_int hvv.out.symm, sstep HB1.out b2⟩
      · obtain rfl : k = n := by omega
        have hvv := Lib.hid (hv.out.trans (trayAt_miss (n := k) hno.out))
        go_wp2
        go_ret
        exact ⟨ret_int hvv.out.symm, hb.out⟩

theorem label_yes {n : Nat} {I : Nat → Int} {C : Nat → ByteArray} (h : M.batch n I C = true) (h0 : 0 < n) : label n I C = C 0 ++ ⟨#[45]⟩ ++ C (n - 1) := if_pos ⟨h, h0⟩
theorem label_no {n : Nat} {I : Nat → Int} {C : Nat → ByteArray} (h : ¬ (M.batch n I C = true ∧ 0 < n)) : label n I C = ⟨#[]⟩ := if_neg h
theorem ret_string {a b : ByteArray} (h : a = b) : Ending.returned (.string a) = .returned (.string b) := by rw [h]

set_option maxHeartbeats 1000000 in
theorem spec_LabelOf (w : World) (a : Option Addr) (n c : Nat) (I : Nat → Int) (C : Nat → ByteArray) (h : Lts w a n I C) (hf : Fits n I C) (hn : n ≤ 1048576) :
    Calls Try.prog 17 #[.slice a n c] w fun e w' => e = .returned (.string (label n I C)) ∧ Below w.heap.size w w' := by
  have HL := Lib.hid h
  have HF := Lib.hid hf
  clear h hf
  cases hb : M.batch n I C
  · have hv := Lib.hid (label_no (n := n) (I := I) (C := C) (by rw [hb]; simp))
    have h0 := M.batch_pos hb
    have HB := Lib.hid hb
    have b0 : ((n : Int) == 0) = false := by rw [beq_eq_false_iff_ne]; omega
    have b1 : (n == 0) = false := by rw [beq_eq_false_iff_ne]; omega
    clear hb
    go_enter Try.func17, Try.ntmps17
    go_wp2_with (go_at_call 37; refine (spec_BatchValid _ _ _ _ _ _ HL.out HF.out hn).mono ?_; rw [HB.out]; rintro e w1 ⟨rfl, b1⟩; have HB1 := Lib.hid b1; have HL1 := Lib.hid (HL.out.on b1); clear b1)
    go_ret
    exact ⟨ret_string hv.out.symm, HB1.out⟩
  · have HB := Lib.hid hb
    by_cases h0 : 0 < n
    · have hv := Lib.hid (label_yes hb h0)
      have b0 : ((n : Int) == 0) = false := by rw [beq_eq_false_iff_ne]; omega
      have b1 : (n == 0) = false := by rw [beq_eq_false_iff_ne]; omega
      obtain ⟨m, rfl⟩ : ∃ m, n = m + 1 := ⟨n - 1, by omega⟩
      obtain ⟨b, o, rfl, c0, c1⟩ := HL.out 0 (by omega)
      have hs0 := (M.code_yes ((M.batch_yes hb).2 0 (by omega)).1).2
      have hs1 := (M.code_yes ((M.batch_yes hb).2 m (by omega)).1).2
      have s0 : IntKind.i64.wrap (((m + 1 : Nat) : Int) - 1) = (m : Int) := by rw [IntWalk.i64_in _ (by omega)]; omega
      have s1 : IntKind.i64.wrap ((m : Int) + 1 - 1) = (m : Int) := by rw [IntWalk.i64_in _ (by omega)]; omega
      have hm0 : (0 : Int) < ((m + 1 : Nat) : Int) := by omega
      have hm1 : (0 : Int) < (m : Int) + 1 := by omega
      clear hb c0 c1
      go_enter Try.func17, Try.ntmps17
      go_wp2_with (go_at_call 37; refine (spec_BatchValid _ _ _ _ _ _ HL.out HF.out hn).mono ?_; rw [HB.out]; rintro e w1 ⟨rfl, b1⟩; have HB1 := Lib.hid b1; have HL1 := Lib.hid (HL.out.on b1); clear b1; obtain ⟨_, _, e0, _, c1⟩ := HL1.out 0 (by omega); cases e0; obtain ⟨_, _, e1, _, d1⟩ := HL1.out m (by omega); cases e1; rw [Nat.zero_mul, Nat.add_zero] at c1)
      go_quiet (fail)
      go_wp2
      go_ret
      exact ⟨ret_string hv.out.symm, HB1.out.trans ⟨rfl, rfl, rfl, Nat.le_refl _, fun _ _ => rfl⟩⟩
    · obtain rfl : n = 0 := by omega
      have hv := Lib.hid (label_no (n := 0) (I := I) (C := C) (by simp))
      clear hb
      go_enter Try.func17, Try.ntmps17
      go_wp2_with (go_at_call 37; refine (spec_BatchValid _ _ _ _ _ _ HL.out HF.out hn).mono ?_; rw [HB.out]; rintro e w1 ⟨rfl, b1⟩; have HB1 := Lib.hid b1; have HL1 := Lib.hid (HL.out.on b1); clear b1)
      go_ret
      exact ⟨ret_string hv.out.symm, by first | exact HB1.out | exact Below.refl _ _⟩

set_option maxHeartbeats 1000000 in
theorem impl_LabelOf (w : World) (a : Option Addr) (n c : Nat) (I : Nat → Int) (C : Nat → ByteArray) (h : Lts w a n I C) (hf : Fits n I C) (hn : n ≤ 1048576) :
    Calls Try.prog 16 #[.slice a n c] w fun e w' => e = .returned (.string (label n I C)) ∧ Below w.heap.size w w' := by
  have HL := Lib.hid h
  have HF := Lib.hid hf
  clear h hf
  cases hb : M.batch n I C
  · have hv := Lib.hid (label_no (n := n) (I := I) (C := C) (by rw [hb]; simp))
    have h0 := M.batch_pos hb
    have HB := Lib.hid hb
    have b0 : ((n : Int) == 0) = false := by rw [beq_eq_false_iff_ne]; omega
    have b1 : (n == 0) = false := by rw [beq_eq_false_iff_ne]; omega
    clear hb
    go_enter Try.func16, Try.ntmps16
    go_wp2_with (go_at_call 13; refine (impl_BatchValid _ _ _ _ _ _ HL.out HF.out).mono ?_; rw [HB.out]; rintro e w1 ⟨rfl, b1⟩; have HB1 := Lib.hid b1; have HL1 := Lib.hid (HL.out.on b1); clear b1)
    go_ret
    exact ⟨ret_string hv.out.symm, HB1.out⟩
  · have HB := Lib.hid hb
    by_cases h0 : 0 < n
    · have hv := Lib.hid (label_yes hb h0)
      have b0 : ((n : Int) == 0) = false := by rw [beq_eq_false_iff_ne]; omega
      have b1 : (n == 0) = false := by rw [beq_eq_false_iff_ne]; omega
      obtain ⟨m, rfl⟩ : ∃ m, n = m + 1 := ⟨n - 1, by omega⟩
      obtain ⟨b, o, rfl, c0, c1⟩ := HL.out 0 (by omega)
      have hs0 := (M.code_yes ((M.batch_yes hb).2 0 (by omega)).1).2
      have hs1 := (M.code_yes ((M.batch_yes hb).2 m (by omega)).1).2
      have s0 : IntKind.i64.wrap (((m + 1 : Nat) : Int) - 1) = (m : Int) := by rw [IntWalk.i64_in _ (by omega)]; omega
      have s1 : IntKind.i64.wrap ((m : Int) + 1 - 1) = (m : Int) := by rw [IntWalk.i64_in _ (by omega)]; omega
      have hm0 : (0 : Int) < ((m + 1 : Nat) : Int) := by omega
      have hm1 : (0 : Int) < (m : Int) + 1 := by omega
      clear hb c0 c1
      go_enter Try.func16, Try.ntmps16
      go_wp2_with (go_at_call 13; refine (impl_BatchValid _ _ _ _ _ _ HL.out HF.out).mono ?_; rw [HB.out]; rintro e w1 ⟨rfl, b1⟩; have HB1 := Lib.hid b1; have HL1 := Lib.hid (HL.out.on b1); clear b1; obtain ⟨_, _, e0, _, c1⟩ := HL1.out 0 (by omega); cases e0; obtain ⟨_, _, e1, _, d1⟩ := HL1.out m (by omega); cases e1; rw [Nat.zero_mul, Nat.add_zero] at c1)
      go_quiet (fail)
      go_wp2
      go_ret
      exact ⟨ret_string hv.out.symm, HB1.out.trans ⟨rfl, rfl, rfl, Nat.le_refl _, fun _ _ => rfl⟩⟩
    · obtain rfl : n = 0 := by omega
      have hv := Lib.hid (label_no (n := 0) (I := I) (C := C) (by simp))
      clear hb
      go_enter Try.func16, Try.ntmps16
      go_wp2_with (go_at_call 13; refine (impl_BatchValid _ _ _ _ _ _ HL.out HF.out).mono ?_; rw [HB.out]; rintro e w1 ⟨rfl, b1⟩; have HB1 := Lib.hid b1; have HL1 := Lib.hid (HL.out.on b1); clear b1)
      go_ret
      exact ⟨ret_string hv.out.symm, by first | exact HB1.out | exact Below.refl _ _⟩
end Go.Proofs.Ytmekhbekjfandaa
