/-
  Read-only contracts over slices that may share their block (by gen_matr.py, from Fill2).
-/
import Derived.Test.YtihbpalhbbingaaFill
import Derived.Test.YtihbpalhbbingaaTryA
import Derived.Test.YtihbpalhbbingaaFill2
import Derived.Test.YtihbpalhbbingaaMatR
import Derived.Test.YtihbpalhbbingaaTyR
import Derived.Test.YtihbpalhbbingaaPutA
namespace Go.Proofs.Ytihbpalhbbingaa
open Go.RowKit
open Go.PlainAid (bt get_bt bt_nonneg bt_le)
set_option linter.unusedVariables false

set_option maxHeartbeats 1000000 in
theorem spec_l5RawRepack_r (w : World) (base : Nat) (v : Value) (n : Nat) (V : Nat → Value) (MM : Nat → List (Int × ByteArray)) (h : MatR w base v n V MM) (hz : Sz n MM) (s : Int) :
    Calls Try.prog 44 #[v, .int .i64 s] w (TraysRes w (repOk n MM s) (repN n MM s) (repM n MM s)) := by
  have HM := Lib.hid h
  have HZ := Lib.hid hz
  have HT := Lib.hid (spec_TraysValid_r w base v n V MM h hz 20)
  clear h hz
  cases ho : traysOk n MM 20
  · have HO := Lib.hid ho
    have HR := Lib.hid (repOk_1 (s := s) ho)
    have HN := Lib.hid (repN_no HR.out)
    rw [HR.out]
    clear ho
    go_enter Try.func44, Try.ntmps44
    go_wp2_with (go_at_call 39; refine HT.out.mono ?_; rw [HO.out]; rintro e w1 ⟨rfl, b1⟩)
    go_ret2
    exact ⟨_, _, rfl, by rw [HN.out]; exact (mat_none w1 _).lower b1.size, sstep b1 (below_alloc0 _ _)⟩
  · have HO := Lib.hid ho
    by_cases hs : 1 ≤ s ∧ s ≤ 20
    · have D1 := Lib.hid (decide_eq_true hs)
      have HS := Lib.hid hs
      have HR := Lib.hid (repOk_3 (s := s) ho (show sizeOk s = true from D1.out))
      have HN := Lib.hid (repN_yes HR.out)
      have HB := Lib.hid (traysOk_bat ho)
      rw [HR.out]
      have HC := Lib.hid (fun W (hW : Below w.heap.size w W) => spec_l2Collect_r W base v n V MM (HM.out.on hW) HZ.out.1 HZ.out.2.1)
      unfold repM
      obtain ⟨L, hL⟩ : ∃ L, M.flat MM n = L := ⟨_, rfl⟩
      rw [hL] at HC HB HN ⊢
      clear ho hs hL
      go_enter Try.func44, Try.ntmps44
      go_wp2_with (first
        | (go_at_call 39; refine HT.out.mono ?_; rw [HO.out]; rintro e w1 ⟨rfl, b1⟩; have HB1 := Lib.hid b1; clear b1)
        | (go_at_call 57; refine (spec_l5Size _ _).mono ?_; rw [D1.out]; rintro e w2 ⟨rfl, rfl⟩)
        | (go_at_call 32; refine (HC.out _ HB1.out).mono ?_; rintro e w2 ⟨v1, rfl, r1, b2⟩; obtain ⟨a1, c1, rfl, _, hl1⟩ := r1.form; have HL1 := Lib.hid hl1; have HB2 := Lib.hid (sstep HB1.out b2); clear hl1 r1 b2)
        | (go_at_call 53; refine (spec_l5Fill _ _ _ _ _ _ HL1.out HB.out s HS.out 0 (by omega)).mono ?_; rintro e w4 ⟨v4, V4, rfl, m4, b4⟩))
      go_ret2
      exact ⟨_, _, rfl, by rw [HN.out]; exact m4.lower HB2.out.size, sstep HB2.out b4⟩
    · have D1 := Lib.hid (decide_eq_false hs)
      have HR := Lib.hid (repOk_2 (n := n) (MM := MM) (show sizeOk s = false from D1.out))
      have HN := Lib.hid (repN_no HR.out)
      rw [HR.out]
      clear ho hs
      go_enter Try.func44, Try.ntmps44
      go_wp2_with (first
        | (go_at_call 39; refine HT.out.mono ?_; rw [HO.out]; rintro e w1 ⟨rfl, b1⟩)
        | (go_at_call 57; refine (spec_l5Size _ _).mono ?_; rw [D1.out]; rintro e w2 ⟨rfl, rfl⟩))
      go_ret2
      exact ⟨_, _, rfl, by rw [HN.out]; exact (mat_none w1 _).lower b1.size, sstep b1 (below_alloc0 _ _)⟩

set_option maxHeartbeats 1000000 in
theorem spec_RepackTrays_r (w : World) (base : Nat) (v : Value) (n : Nat) (V : Nat → Value) (MM : Nat → List (Int × ByteArray)) (h : MatR w base v n V MM) (hz : Sz n MM) (s : Int) :
    Calls Try.prog 23 #[v, .int .i64 s] w (TraysRes w (repOk n MM s) (repN n MM s) (repM n MM s)) := by
  have HQ := Lib.hid (spec_l5RawRepack_r w base v n V MM h hz s)
  obtain ⟨h1, h2⟩ := rep_le (n := n) (MM := MM) (s := s)
  obtain ⟨N, hN⟩ : ∃ N, repN n MM s = N := ⟨_, rfl⟩
  obtain ⟨M2, hM⟩ : ∃ M2, repM n MM s = M2 := ⟨_, rfl⟩
  obtain ⟨ok, hok⟩ : ∃ ok, repOk n MM s = ok := ⟨_, rfl⟩
  rw [hN, hM, hok] at HQ ⊢
  rw [hN, hM] at h2
  rw [hN] at h1
  have HLn := Lib.hid h2
  clear h hz hN hM hok h2
  go_enter Try.func23, Try.ntmps23
  go_wp2_with (first
    | (go_at_call 44; refine HQ.out.mono ?_; rintro e w1 ⟨v1, V1, rfl, m1, b1⟩; have M1 := Lib.hid m1; have B1 := Lib.hid b1; clear m1 b1)
    | (go_at_call 45; refine (l9Own_any _ _ _ _ _ _ M1.out (by omega) (fun i hi => by have := HLn.out i hi; omega)).mono ?_; rintro e w2 ⟨g2, c2, V2, rfl, m2, b2⟩))
  go_ret2
  exact ⟨_, _, rfl, m2.lower B1.out.size, sstep B1.out b2⟩

end Go.Proofs.Ytihbpalhbbingaa

/-
  Read-only contracts over slices that may share their block (by gen_matr.py, from FillI).
-/
namespace Go.Proofs.Ytihbpalhbbingaa
open Go.RowKit
open Go.PlainAid (bt get_bt bt_nonneg bt_le)
set_option linter.unusedVariables false

set_option maxHeartbeats 1000000 in
theorem impl_RepackTrays_r (w : World) (base : Nat) (v : Value) (n : Nat) (V : Nat → Value) (MM : Nat → List (Int × ByteArray)) (h : MatR w base v n V MM) (hz : Sz n MM) (s : Int) :
    Calls Try.prog 22 #[v, .int .i64 s] w (TraysRes w (repOk n MM s) (repN n MM s) (repM n MM s)) := by
  have HQ := Lib.hid (impl_EmptyTrays_r w base v n V MM h hz)
  have HZ := Lib.hid hz
  clear h hz
  cases ho : traysOk n MM 20
  · have HR := Lib.hid (repOk_1 (s := s) ho)
    have HN := Lib.hid (repN_no HR.out)
    rw [ho] at HQ
    rw [HR.out]
    clear ho
    go_enter Try.func22, Try.ntmps22
    go_wp2_with (go_at_call 16; refine HQ.out.mono ?_; rintro e w1 ⟨v1, rfl, r1, b1⟩)
    go_ret2
    exact ⟨.slice none 0 0, fun _ => .slice none 0 0, rfl, by rw [HN.out]; exact Mat.nil _ _ _ _, b1⟩
  · rw [ho, empty_yes ho] at HQ
    have HB := Lib.hid (traysOk_bat ho)
    have HFL := Lib.hid HZ.out.2.2
    have hR : repOk n MM s = fillOk (M.flat MM n).length (nI (M.flat MM n)) (nC (M.flat MM n)) s 0 := by
      unfold repOk fillOk
      rw [ho, show M.batch (M.flat MM n).length (nI (M.flat MM n)) (nC (M.flat MM n)) = true from HB.out]
      simp
    have hNN : repN n MM s = fillN (M.flat MM n).length (nI (M.flat MM n)) (nC (M.flat MM n)) s 0 := by
      unfold repN fillN
      rw [hR]
      rfl
    have hMM : repM n MM s = fM (nI (M.flat MM n)) (nC (M.flat MM n)) s (0 : Int).toNat (M.flat MM n).length := rfl
    rw [hR, hNN, hMM]
    obtain ⟨L, hL⟩ : ∃ L, M.flat MM n = L := ⟨_, rfl⟩
    rw [hL] at HQ HFL ⊢
    clear ho hR hNN hMM hL HB
    have HFT := Lib.hid (fun W a c hl => impl_FillTrays W a L.length c (nI L) (nC L) hl HFL.out s)
    obtain ⟨N, hN⟩ : ∃ N, fillN L.length (nI L) (nC L) s 0 = N := ⟨_, rfl⟩
    obtain ⟨M2, hM2⟩ : ∃ M2, fM (nI L) (nC L) s (0 : Int).toNat L.length = M2 := ⟨_, rfl⟩
    obtain ⟨ok, hok⟩ : ∃ ok, fillOk L.length (nI L) (nC L) s 0 = ok := ⟨_, rfl⟩
    rw [hN, hM2, hok] at HFT ⊢
    clear hN hM2 hok
    go_enter Try.func22, Try.ntmps22
    go_wp2_with (first
      | (go_at_call 16; refine HQ.out.mono ?_; rintro e w1 ⟨v1, rfl, r1, b1⟩; obtain ⟨a1, c1, rfl, _, hl1⟩ := r1.form; have HL1 := Lib.hid hl1; have HB1 := Lib.hid b1; clear hl1 r1 b1)
      | (go_at_call 25; refine (HFT.out _ _ _ HL1.out).mono ?_; rintro e w2 ⟨v2, V2, rfl, m2, b2⟩))
    go_ret2
    exact ⟨_, _, rfl, m2.lower HB1.out.size, sstep HB1.out b2⟩

end Go.Proofs.Ytihbpalhbbingaa
