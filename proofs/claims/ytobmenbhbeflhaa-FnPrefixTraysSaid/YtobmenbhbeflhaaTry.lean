/-
  What TraysValid and EmptyTrays return, in the program and in the model of the document.
-/
import Derived.Test.YtobmenbhbeflhaaTryM
import Derived.Test.YtobmenbhbeflhaaTrkA
namespace Go.Proofs.Ytobmenbhbeflhaa
open Go.RowKit
set_option linter.unusedVariables false

theorem mat_slice {w : World} {base n : Nat} {v : Value} {V : Nat → Value} {MM : Nat → List (Int × ByteArray)} (h : Mat w base v n V MM) : ∃ u c, v = .slice u n c := by
  rcases h.form with ⟨rfl, rfl⟩ | ⟨g, c, rfl, _⟩
  · exact ⟨_, _, rfl⟩
  · exact ⟨_, _, rfl⟩
/-- A tray in memory. -/
theorem mat_at {w : World} {base n c : Nat} {u : Option Addr} {V : Nat → Value} {MM : Nat → List (Int × ByteArray)} (h : Mat w base (.slice u n c) n V MM) {i : Nat} (hi : i < n) :
    ∃ g a d, u = some ⟨g, 0, none⟩ ∧ w.cell? ⟨g, i, none⟩ = some (.slice a (MM i).length d) ∧ Lts w a (MM i).length (nI (MM i)) (nC (MM i)) := by
  obtain ⟨g, d, e, h1, _⟩ := h.cell hi
  cases e
  obtain ⟨a, d', e, _, hl⟩ := (h.2.1 i hi).form
  exact ⟨g, a, d', rfl, by rw [h1, e], hl⟩

set_option maxHeartbeats 2000000 in
theorem impl_TraysValid (w : World) (base : Nat) (v : Value) (n : Nat) (V : Nat → Value) (MM : Nat → List (Int × ByteArray)) (h : Mat w base v n V MM) (hz : Sz n MM) (s : Int) :
    Calls Try.prog 11 #[v, .int .i64 s] w fun e w' => e = .returned (.bool (traysOk n MM s)) ∧ Below w.heap.size w w' := by
  obtain ⟨u, c, rfl⟩ := mat_slice h
  have HM := Lib.hid h
  have HZ := Lib.hid hz
  have hn : n ≤ 1048576 := hz.1
  clear h hz
  by_cases h1 : 1 ≤ s ∧ s ≤ 20
  · have D1 := Lib.hid (decide_eq_true h1)
    by_cases h2 : n ≤ 60
    · have h9 : ¬ (60 : Int) < (n : Int) := by omega
      have HS1 := Lib.hid h1
      clear h1
      go_enter Try.func11, Try.ntmps11
      go_wp2_with (go_at_call 23; refine (impl_traySize _ _).mono ?_; rw [D1.out]; rintro e w1 ⟨rfl, rfl⟩)
      go_loop [17] (fun i => ∃ k : Nat, k ≤ n ∧ i = .int .i64 k ∧ Hid (∀ j, j < k → 1 ≤ ((MM j).length : Int) ∧ ((MM j).length : Int) ≤ s)) (fun i => n - (intOf i).toNat)
      case atStart => exact ⟨0, Nat.zero_le _, rfl, fun j hj => absurd hj (by omega)⟩
      case round =>
        obtain ⟨k, hk, rfl, hno⟩ := hrel
        by_cases hlt : k < n
        · obtain ⟨g, a, d, rfl, c0, _⟩ := mat_at HM.out hlt
          have HB := Lib.hid (fun h => traysOk_lens (n := n) (MM := MM) (s := s) (lensIn_no hlt h))
          obtain ⟨m, hm⟩ : ∃ m, (MM k).length = m := ⟨_, rfl⟩
          rw [hm] at c0 HB
          have HMM := Lib.hid hm
          clear hm
          by_cases e0 : m = 0
          · have hv := Lib.hid (HB.out (by omega))
            have b0 : ((m : Int) == 0) = true := by rw [e0]; rfl
            have b1 : (m == 0) = true := by rw [e0]; rfl
            have E0 := Lib.hid e0
            clear e0
            go_wp2
            go_ret
            exact ⟨ret_bool hv.out.symm, Below.refl _ _⟩
          · have b0 : ((m : Int) == 0) = false := by rw [beq_eq_false_iff_ne]; omega
            have b1 : (m == 0) = false := by rw [beq_eq_false_iff_ne]; exact e0
            by_cases e1 : s < (m : Int)
            · have hv := Lib.hid (HB.out (by omega))
              go_wp2
              go_ret
              exact ⟨ret_bool hv.out.symm, Below.refl _ _⟩
            · have HE : Hid (1 ≤ ((MM k).length : Int) ∧ ((MM k).length : Int) ≤ s) := by rw [Hid, HMM.out]; omega
              go_wp2
              go_round
              case rel => exact ⟨k + 1, by omega, by go_num, fun j hj => by by_cases e : j = k; (subst e; exact HE.out); exact hno.out j (by omega)⟩
              case measure => simp [intOf]; omega
        · obtain rfl : k = n := by omega
          have HA := Lib.hid ((lensIn_iff MM s k).2 hno.out)
          have hv := Lib.hid (traysOk_last (show sizeOk s = true from D1.out) h2 HA.out)
          obtain ⟨L, hL⟩ : ∃ L, M.flat MM k = L := ⟨_, rfl⟩
          have HC := Lib.hid (slices_Concat w base (.slice u k c) k V MM HM.out HZ.out.1 HZ.out.2.1)
          have HF := Lib.hid HZ.out.2.2
          rw [hL] at HC HF hv
          clear hL hno hlt
          go_wp2_with (first
            | (go_at_call 28; refine HC.out.mono ?_; rintro e w1 ⟨v1, rfl, r1, b1⟩; obtain ⟨a1, c1, rfl, _, hl1⟩ := r1.form; have HL1 := Lib.hid hl1; clear hl1 r1)
            | (go_at_call 22; refine (impl_BatchValid _ _ _ _ _ _ HL1.out HF.out).mono ?_; rintro e w2 ⟨rfl, b2⟩))
          go_ret
          exact ⟨ret_bool hv.out.symm, sstep b1 b2⟩
    · have hv := Lib.hid (traysOk_many (MM := MM) (s := s) h2)
      have h9 : (60 : Int) < (n : Int) := by omega
      clear h1
      go_enter Try.func11, Try.ntmps11
      go_wp2_with (go_at_call 23; refine (impl_traySize _ _).mono ?_; rw [D1.out]; rintro e w1 ⟨rfl, rfl⟩)
      go_ret
      exact ⟨ret_bool hv.out.symm, Below.refl _ _⟩
  · have D1 := Lib.hid (decide_eq_false h1)
    have hv := Lib.hid (traysOk_size (n := n) (MM := MM) (show sizeOk s = false from decide_eq_false h1))
    clear h1
    go_enter Try.func11, Try.ntmps11
    go_wp2_with (go_at_call 23; refine (impl_traySize _ _).mono ?_; rw [D1.out]; rintro e w1 ⟨rfl, rfl⟩)
    go_ret
    exact ⟨ret_bool hv.out.symm, Below.refl _ _⟩
end Go.Proofs.Ytobmenbhbeflhaa
