/-
  What FillTrays, FillByPrefix and RepackTrays of the model return.
-/
import Derived.Test.YtobmenbhbeflhaaFill
import Derived.Test.YtobmenbhbeflhaaTry2
namespace Go.Proofs.Ytobmenbhbeflhaa
open Go.RowKit
open Go.PlainAid (bt get_bt bt_nonneg bt_le)
set_option linter.unusedVariables false

theorem mat_none (w : World) (MM : Nat → List (Int × ByteArray)) : Mat (w.alloc (.cells #[] 23)) w.heap.size (.slice (some ⟨w.heap.size, 0, none⟩) 0 0) 0 (fun _ => .slice none 0 0) MM :=
  ⟨World.ownsRow_lit (base := w.heap.size) (e := 23) (size := 1) w #[] 0 (Nat.le_refl _) (by unfold maxLen; omega) rfl, fun i hi => absurd hi (by omega), fun i j hi => absurd hi (by omega)⟩
theorem fillN_le {n : Nat} {I : Nat → Int} {C : Nat → ByteArray} {s d : Int} : fillN n I C s d ≤ 60 := by
  unfold fillN
  split
  · rename_i h
    unfold fillOk at h
    rw [Bool.and_eq_true] at h
    have := (M.batch_yes h.1).1
    have := fN_le I C s d.toNat n
    omega
  · exact Nat.zero_le _
theorem fillM_len {n : Nat} {I : Nat → Int} {C : Nat → ByteArray} {s d : Int} {i : Nat} (hi : i < fillN n I C s d) : (fM I C s d.toNat n i).length ≤ 60 := by
  unfold fillN at hi
  split at hi
  · rename_i h
    unfold fillOk at h
    rw [Bool.and_eq_true] at h
    have := (M.batch_yes h.1).1
    have := fM_len I C s d.toNat n i hi
    omega
  · omega

set_option maxHeartbeats 1000000 in
theorem spec_l5RawFillByPrefix (w : World) (a : Option Addr) (n c : Nat) (I : Nat → Int) (C : Nat → ByteArray) (h : Lts w a n I C) (hf : Fits n I C) (hn : n ≤ 1048576) (s d : Int) :
    Calls Try.prog 26 #[.slice a n c, .int .i64 s, .int .i64 d] w (TraysRes w (fillOk n I C s d) (fillN n I C s d) (fM I C s (d : Int).toNat n)) := by
  have HL := Lib.hid h
  have HF := Lib.hid hf
  clear h hf
  cases hb : M.batch n I C
  · have HO := Lib.hid (fillOk_1 (s := s) (d := d) hb)
    have HN := Lib.hid (fillN_no HO.out)
    have HB := Lib.hid hb
    rw [HO.out]
    clear hb
    go_enter Try.func26, Try.ntmps26
    go_wp2_with (first | (go_at_call 18; refine (spec_BatchValid _ _ _ _ _ _ HL.out HF.out hn).mono ?_; rw [HB.out]; rintro e w1 ⟨rfl, b1⟩; have HB1 := Lib.hid b1; have HL1 := Lib.hid (HL.out.on b1); clear b1))
    go_ret2
    exact ⟨_, _, rfl, by rw [HN.out]; exact (mat_none w1 _).lower HB1.out.size, sstep HB1.out (below_alloc0 _ _)⟩
  · have HB := Lib.hid hb
    by_cases hs : 1 ≤ s ∧ s ≤ 20
    · have D1 := Lib.hid (decide_eq_true hs)
      have HS := Lib.hid hs
      by_cases hd : 0 ≤ d ∧ d ≤ 7
      · have D2 := Lib.hid (decide_eq_true hd)
        have HO := Lib.hid (fillOk_4 (s := s) (d := d) hb (show sizeOk s = true from D1.out) hd)
        have HN := Lib.hid (fillN_yes HO.out)
        rw [HO.out]
        obtain ⟨e, rfl⟩ : ∃ e : Nat, d = e := ⟨d.toNat, by omega⟩
        clear hb hs
        go_enter Try.func26, Try.ntmps26
        go_wp2_with (first | (go_at_call 18; refine (spec_BatchValid _ _ _ _ _ _ HL.out HF.out hn).mono ?_; rw [HB.out]; rintro e w1 ⟨rfl, b1⟩; have HB1 := Lib.hid b1; have HL1 := Lib.hid (HL.out.on b1); clear b1) | (go_at_call 39; refine (spec_l5Size _ _).mono ?_; rw [D1.out]; rintro e w2 ⟨rfl, rfl⟩) | (go_at_call 34; refine (spec_l1In _ _ _ _).mono ?_; rw [D2.out]; rintro e w3 ⟨rfl, rfl⟩) | (go_at_call 40; refine (spec_l5Fill _ _ _ _ _ _ HL1.out HB.out s HS.out e (by omega)).mono ?_; rintro e w4 ⟨v4, V4, rfl, m4, b4⟩))
        go_ret2
        exact ⟨_, _, rfl, by rw [HN.out]; exact m4.lower HB1.out.size, sstep HB1.out b4⟩
      · have D2 := Lib.hid (decide_eq_false hd)
        have HO := Lib.hid (fillOk_3 (n := n) (I := I) (C := C) (s := s) (d := d) hd)
        have HN := Lib.hid (fillN_no HO.out)
        rw [HO.out]
        clear hb hs hd
        go_enter Try.func26, Try.ntmps26
        go_wp2_with (first | (go_at_call 18; refine (spec_BatchValid _ _ _ _ _ _ HL.out HF.out hn).mono ?_; rw [HB.out]; rintro e w1 ⟨rfl, b1⟩; have HB1 := Lib.hid b1; have HL1 := Lib.hid (HL.out.on b1); clear b1) | (go_at_call 39; refine (spec_l5Size _ _).mono ?_; rw [D1.out]; rintro e w2 ⟨rfl, rfl⟩) | (go_at_call 34; refine (spec_l1In _ _ _ _).mono ?_; rw [D2.out]; rintro e w3 ⟨rfl, rfl⟩))
        go_ret2
        exact ⟨_, _, rfl, by rw [HN.out]; exact (mat_none w1 _).lower HB1.out.size, sstep HB1.out (below_alloc0 _ _)⟩
    · have D1 := Lib.hid (decide_eq_false hs)
      have HO := Lib.hid (fillOk_2 (n := n) (I := I) (C := C) (s := s) (d := d) (show sizeOk s = false from D1.out))
      have HN := Lib.hid (fillN_no HO.out)
      rw [HO.out]
      clear hb hs
      go_enter Try.func26, Try.ntmps26
      go_wp2_with (first | (go_at_call 18; refine (spec_BatchValid _ _ _ _ _ _ HL.out HF.out hn).mono ?_; rw [HB.out]; rintro e w1 ⟨rfl, b1⟩; have HB1 := Lib.hid b1; have HL1 := Lib.hid (HL.out.on b1); clear b1) | (go_at_call 39; refine (spec_l5Size _ _).mono ?_; rw [D1.out]; rintro e w2 ⟨rfl, rfl⟩))
      go_ret2
      exact ⟨_, _, rfl, by rw [HN.out]; exact (mat_none w1 _).lower HB1.out.size, sstep HB1.out (below_alloc0 _ _)⟩

set_option maxHeartbeats 1000000 in
theorem spec_FillByPrefix (w : World) (a : Option Addr) (n c : Nat) (I : Nat → Int) (C : Nat → ByteArray) (h : Lts w a n I C) (hf : Fits n I C) (hn : n ≤ 1048576) (s d : Int) :
    Calls Try.prog 7 #[.slice a n c, .int .i64 s, .int .i64 d] w (TraysRes w (fillOk n I C s d) (fillN n I C s d) (fM I C s (d : Int).toNat n)) := by
  have HQ := Lib.hid (spec_l5RawFillByPrefix w a n c I C h hf hn s d)
  have HN := Lib.hid (show fillN n I C s d ≤ 60 from fillN_le)
  have HLn := Lib.hid (fun i (hi : i < fillN n I C s d) => fillM_len hi)
  obtain ⟨N, hN⟩ : ∃ N, fillN n I C s d = N := ⟨_, rfl⟩
  obtain ⟨MM, hM⟩ : ∃ MM, fM I C s (d : Int).toNat n = MM := ⟨_, rfl⟩
  obtain ⟨ok, hok⟩ : ∃ ok, fillOk n I C s d = ok := ⟨_, rfl⟩
  rw [hN, hM, hok] at HQ ⊢
  rw [hN, hM] at HLn
  rw [hN] at HN
  clear h hf hN hM hok
  go_enter Try.func7, Try.ntmps7
  go_wp2_with (first
    | (go_at_call 26; refine HQ.out.mono ?_; rintro e w1 ⟨v1, V1, rfl, m1, b1⟩; have M1 := Lib.hid m1; have B1 := Lib.hid b1; clear m1 b1)
    | (go_at_call 27; refine (l9Own_any _ _ _ _ _ _ M1.out (by have := HN.out; omega) (fun i hi => by have := HLn.out i hi; omega)).mono ?_; rintro e w2 ⟨g2, c2, V2, rfl, m2, b2⟩))
  go_ret2
  exact ⟨_, _, rfl, m2.lower B1.out.size, sstep B1.out b2⟩

/-- What RepackTrays returns. -/
def repOk (n : Nat) (MM : Nat → List (Int × ByteArray)) (s : Int) : Bool := traysOk n MM 20 && sizeOk s
def repN (n : Nat) (MM : Nat → List (Int × ByteArray)) (s : Int) : Nat := if repOk n MM s = true then fN (nI (M.flat MM n)) (nC (M.flat MM n)) s 0 (M.flat MM n).length else 0
def repM (n : Nat) (MM : Nat → List (Int × ByteArray)) (s : Int) : Nat → List (Int × ByteArray) := fM (nI (M.flat MM n)) (nC (M.flat MM n)) s 0 (M.flat MM n).length
theorem traysOk_bat {n : Nat} {MM : Nat → List (Int × ByteArray)} {s : Int} (h : traysOk n MM s = true) : bat (M.flat MM n) = true := by
  unfold traysOk at h
  rw [Bool.and_eq_true, Bool.and_eq_true, Bool.and_eq_true] at h
  exact h.2.2.2
theorem repOk_1 {n : Nat} {MM : Nat → List (Int × ByteArray)} {s : Int} (h : traysOk n MM 20 = false) : repOk n MM s = false := by unfold repOk; rw [h]; rfl
theorem repOk_2 {n : Nat} {MM : Nat → List (Int × ByteArray)} {s : Int} (h : sizeOk s = false) : repOk n MM s = false := by unfold repOk; rw [h]; simp
theorem repOk_3 {n : Nat} {MM : Nat → List (Int × ByteArray)} {s : Int} (h1 : traysOk n MM 20 = true) (h2 : sizeOk s = true) : repOk n MM s = true := by unfold repOk; rw [h1, h2]; rfl
theorem repN_no {n : Nat} {MM : Nat → List (Int × ByteArray)} {s : Int} (h : repOk n MM s = false) : repN n MM s = 0 := if_neg (by rw [h]; decide)
theorem repN_yes {n : Nat} {MM : Nat → List (Int × ByteArray)} {s : Int} (h : repOk n MM s = true) : repN n MM s = fN (nI (M.flat MM n)) (nC (M.flat MM n)) s 0 (M.flat MM n).length := if_pos h
theorem rep_le {n : Nat} {MM : Nat → List (Int × ByteArray)} {s : Int} : repN n MM s ≤ 60 ∧ ∀ i, i < repN n MM s → (repM n MM s i).length ≤ 60 := by
  cases h : repOk n MM s
  · rw [repN_no h]; exact ⟨Nat.zero_le _, fun i hi => absurd hi (by omega)⟩
  · rw [repN_yes h]
    unfold repOk at h
    rw [Bool.and_eq_true] at h
    have hb := (M.batch_yes (traysOk_bat h.1)).1
    have h1 := fN_le (nI (M.flat MM n)) (nC (M.flat MM n)) s 0 (M.flat MM n).length
    exact ⟨by omega, fun i hi => by have := fM_len (nI (M.flat MM n)) (nC (M.flat MM n)) s 0 (M.flat MM n).length i hi; unfold repM; omega⟩

end Go.Proofs.Ytobmenbhbeflhaa
