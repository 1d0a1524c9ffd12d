/-
  What FillTrays, FillByPrefix and RepackTrays of the model return.
-/
import Derived.Test.YtihbpalhbbingaaFill
import Derived.Test.YtihbpalhbbingaaTryA
namespace Go.Proofs.Ytihbpalhbbingaa
open Go.RowKit
open Go.PlainAid (bt get_bt bt_nonneg bt_le)
set_option linter.unusedVariables false

theorem mat_none (w : World) (MM : Nat → List (Int × ByteArray)) : Mat (w.alloc (.cells #[] 25)) w.heap.size (.slice (some ⟨w.heap.size, 0, none⟩) 0 0) 0 (fun _ => .slice none 0 0) MM :=
  ⟨World.ownsRow_lit (base := w.heap.size) (e := 25) (size := 1) w #[] 0 (Nat.le_refl _) (by unfold maxLen; omega) rfl, fun i hi => absurd hi (by omega), fun i j hi => absurd hi (by omega)⟩
theorem fillN_le {n : Nat} {I : Nat → Int} {C : Nat → ByteArray} {s d : Int} : fillN n I C s d ≤ 60 := by
  unfold fillN
  split
  · rename_i h
    unfold fillOk at h
    rw [Bool.and_eq_true] at h
    have := (M.batch_yes h.1).1
    have := fN_le I C s d.toNat n
    omega
  · exact Nat.zero_le _
theorem fillM_len {n : Nat} {I : Nat → Int} {C : Nat → ByteArray} {s d : Int} {i : Nat} (hi : i < fillN n I C s d) : (fM I C s d.toNat n i).length ≤ 60 := by
  unfold fillN at hi
  split at hi
  · rename_i h
    unfold fillOk at h
    rw [Bool.and_eq_true] at h
    have := (M.batch_yes h.1).1
    have := fM_len I C s d.toNat n i hi
    omega
  · omega

/-- What RepackTrays returns. -/
def repOk (n : Nat) (MM : Nat → List (Int × ByteArray)) (s : Int) : Bool := traysOk n MM 20 && sizeOk s
def repN (n : Nat) (MM : Nat → List (Int × ByteArray)) (s : Int) : Nat := if repOk n MM s = true then fN (nI (M.flat MM n)) (nC (M.flat MM n)) s 0 (M.flat MM n).length else 0
def repM (n : Nat) (MM : Nat → List (Int × ByteArray)) (s : Int) : Nat → List (Int × ByteArray) := fM (nI (M.flat MM n)) (nC (M.flat MM n)) s 0 (M.flat MM n).length
theorem traysOk_bat {n : Nat} {MM : Nat → List (Int × ByteArray)} {s : Int} (h : traysOk n MM s = true) : bat (M.flat MM n) = true := by
  unfold traysOk at h
  rw [Bool.and_eq_true, Bool.and_eq_true, Bool.and_eq_true] at h
  exact h.2.2.2
theorem repOk_1 {n : Nat} {MM : Nat → List (Int × ByteArray)} {s : Int} (h : traysOk n MM 20 = false) : repOk n MM s = false := by unfold repOk; rw [h]; rfl
theorem repOk_2 {n : Nat} {MM : Nat → List (Int × ByteArray)} {s : Int} (h : sizeOk s = false) : repOk n MM s = false := by unfold repOk; rw [h]; simp
theorem repOk_3 {n : Nat} {MM : Nat → List (Int × ByteArray)} {s : Int} (h1 : traysOk n MM 20 = true) (h2 : sizeOk s = true) : repOk n MM s = true := by unfold repOk; rw [h1, h2]; rfl
theorem repN_no {n : Nat} {MM : Nat → List (Int × ByteArray)} {s : Int} (h : repOk n MM s = false) : repN n MM s = 0 := if_neg (by rw [h]; decide)
theorem repN_yes {n : Nat} {MM : Nat → List (Int × ByteArray)} {s : Int} (h : repOk n MM s = true) : repN n MM s = fN (nI (M.flat MM n)) (nC (M.flat MM n)) s 0 (M.flat MM n).length := if_pos h
theorem rep_le {n : Nat} {MM : Nat → List (Int × ByteArray)} {s : Int} : repN n MM s ≤ 60 ∧ ∀ i, i < repN n MM s → (repM n MM s i).length ≤ 60 := by
  cases h : repOk n MM s
  · rw [repN_no h]; exact ⟨Nat.zero_le _, fun i hi => absurd hi (by omega)⟩
  · rw [repN_yes h]
    unfold repOk at h
    rw [Bool.and_eq_true] at h
    have hb := (M.batch_yes (traysOk_bat h.1)).1
    have h1 := fN_le (nI (M.flat MM n)) (nC (M.flat MM n)) s 0 (M.flat MM n).length
    exact ⟨by omega, fun i hi => by have := fM_len (nI (M.flat MM n)) (nC (M.flat MM n)) s 0 (M.flat MM n).length i hi; unfold repM; omega⟩

set_option maxHeartbeats 1000000 in
theorem spec_l5RawRepack (w : World) (base : Nat) (v : Value) (n : Nat) (V : Nat → Value) (MM : Nat → List (Int × ByteArray)) (h : Mat w base v n V MM) (hz : Sz n MM) (s : Int) :
    Calls Try.prog 44 #[v, .int .i64 s] w (TraysRes w (repOk n MM s) (repN n MM s) (repM n MM s)) := by
  have HM := Lib.hid h
  have HZ := Lib.hid hz
  have HT := Lib.hid (spec_TraysValid w base v n V MM h hz 20)
  clear h hz
  cases ho : traysOk n MM 20
  · have HO := Lib.hid ho
    have HR := Lib.hid (repOk_1 (s := s) ho)
    have HN := Lib.hid (repN_no HR.out)
    rw [HR.out]
    clear ho
    go_enter Try.func44, Try.ntmps44
    go_wp2_with (go_at_call 39; refine HT.out.mono ?_; rw [HO.out]; rintro e w1 ⟨rfl, b1⟩)
    go_ret2
    exact ⟨_, _, rfl, by rw [HN.out]; exact (mat_none w1 _).lower b1.size, sstep b1 (below_alloc0 _ _)⟩
  · have HO := Lib.hid ho
    by_cases hs : 1 ≤ s ∧ s ≤ 20
    · have D1 := Lib.hid (decide_eq_true hs)
      have HS := Lib.hid hs
      have HR := Lib.hid (repOk_3 (s := s) ho (show sizeOk s = true from D1.out))
      have HN := Lib.hid (repN_yes HR.out)
      have HB := Lib.hid (traysOk_bat ho)
      rw [HR.out]
      have HC := Lib.hid (fun W (hW : Below w.heap.size w W) => spec_l2Collect W base v n V MM (HM.out.on hW) HZ.out.1 HZ.out.2.1)
      unfold repM
      obtain ⟨L, hL⟩ : ∃ L, M.flat MM n = L := ⟨_, rfl⟩
      rw [hL] at HC HB HN ⊢
      clear ho hs hL
      go_enter Try.func44, Try.ntmps44
      go_wp2_with (first
        | (go_at_call 39; refine HT.out.mono ?_; rw [HO.out]; rintro e w1 ⟨rfl, b1⟩; have HB1 := Lib.hid b1; clear b1)
        | (go_at_call 57; refine (spec_l5Size _ _).mono ?_; rw [D1.out]; rintro e w2 ⟨rfl, rfl⟩)
        | (go_at_call 32; refine (HC.out _ HB1.out).mono ?_; rintro e w2 ⟨v1, rfl, r1, b2⟩; obtain ⟨a1, c1, rfl, _, hl1⟩ := r1.form; have HL1 := Lib.hid hl1; have HB2 := Lib.hid (sstep HB1.out b2); clear hl1 r1 b2)
        | (go_at_call 53; refine (spec_l5Fill _ _ _ _ _ _ HL1.out HB.out s HS.out 0 (by omega)).mono ?_; rintro e w4 ⟨v4, V4, rfl, m4, b4⟩))
      go_ret2
      exact ⟨_, _, rfl, by rw [HN.out]; exact m4.lower HB2.out.size, sstep HB2.out b4⟩
    · have D1 := Lib.hid (decide_eq_false hs)
      have HR := Lib.hid (repOk_2 (n := n) (MM := MM) (show sizeOk s = false from D1.out))
      have HN := Lib.hid (repN_no HR.out)
      rw [HR.out]
      clear ho hs
      go_enter Try.func44, Try.ntmps44
      go_wp2_with (first
        | (go_at_call 39; refine HT.out.mono ?_; rw [HO.out]; rintro e w1 ⟨rfl, b1⟩)
        | (go_at_call 57; refine (spec_l5Size _ _).mono ?_; rw [D1.out]; rintro e w2 ⟨rfl, rfl⟩))
      go_ret2
      exact ⟨_, _, rfl, by rw [HN.out]; exact (mat_none w1 _).lower b1.size, sstep b1 (below_alloc0 _ _)⟩

set_option maxHeartbeats 1000000 in
theorem spec_RepackTrays (w : World) (base : Nat) (v : Value) (n : Nat) (V : Nat → Value) (MM : Nat → List (Int × ByteArray)) (h : Mat w base v n V MM) (hz : Sz n MM) (s : Int) :
    Calls Try.prog 23 #[v, .int .i64 s] w (TraysRes w (repOk n MM s) (repN n MM s) (repM n MM s)) := by
  have HQ := Lib.hid (spec_l5RawRepack w base v n V MM h hz s)
  obtain ⟨h1, h2⟩ := rep_le (n := n) (MM := MM) (s := s)
  obtain ⟨N, hN⟩ : ∃ N, repN n MM s = N := ⟨_, rfl⟩
  obtain ⟨M2, hM⟩ : ∃ M2, repM n MM s = M2 := ⟨_, rfl⟩
  obtain ⟨ok, hok⟩ : ∃ ok, repOk n MM s = ok := ⟨_, rfl⟩
  rw [hN, hM, hok] at HQ ⊢
  rw [hN, hM] at h2
  rw [hN] at h1
  have HLn := Lib.hid h2
  clear h hz hN hM hok h2
  go_enter Try.func23, Try.ntmps23
  go_wp2_with (first
    | (go_at_call 44; refine HQ.out.mono ?_; rintro e w1 ⟨v1, V1, rfl, m1, b1⟩; have M1 := Lib.hid m1; have B1 := Lib.hid b1; clear m1 b1)
    | (go_at_call 45; refine (l9Own_any _ _ _ _ _ _ M1.out (by omega) (fun i hi => by have := HLn.out i hi; omega)).mono ?_; rintro e w2 ⟨g2, c2, V2, rfl, m2, b2⟩))
  go_ret2
  exact ⟨_, _, rfl, m2.lower B1.out.size, sstep B1.out b2⟩
end Go.Proofs.Ytihbpalhbbingaa
