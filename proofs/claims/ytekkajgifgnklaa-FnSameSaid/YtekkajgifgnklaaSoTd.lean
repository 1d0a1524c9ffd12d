/-
  Whether two lists of strings agree.
-/
import Derived.Test.YtekkajgifgnklaaSoT
namespace Go.Proofs.Ytekkajgifgnklaa
open Go.RowKit
set_option linter.unusedVariables false

set_option maxHeartbeats 1000000 in
theorem soTexts_any (w : World) (b1 b2 : Nat) (v v' : Value) (L L' : List ByteArray) (h : SRow w b1 v L) (h' : SRow w b2 v' L') (hn : L.length ≤ 1048576) (hn' : L'.length ≤ 1048576) :
    Calls Try.prog 16 #[v, v'] w fun e w' => e = .returned (.bool (decide (L = L'))) ∧ Below w.heap.size w w' := by
  obtain ⟨a, c, rfl, _, hl⟩ := h.form
  obtain ⟨a', c', rfl, _, hl'⟩ := h'.form
  have HL := Lib.hid hl
  have HL' := Lib.hid hl'
  clear h h' hl hl'
  obtain ⟨D, hD⟩ : ∃ D, decide (L = L') = D := ⟨_, rfl⟩
  rw [hD]
  have HD := Lib.hid hD
  clear hD
  by_cases hlen : L.length = L'.length
  · obtain ⟨n, hn0⟩ : ∃ n, L.length = n := ⟨_, rfl⟩
    have HN1 := Lib.hid hn0
    have HN2 : Hid (L'.length = n) := hlen.symm.trans hn0
    rw [← hlen, hn0] at HL'
    rw [hn0] at HL hn
    rw [← hlen, hn0]
    clear hlen hn0 hn'
    go_enter Try.func16, Try.ntmps16
    go_wp2
    go_loopw [5] (fun i wr => ∃ k : Nat, k ≤ n ∧ i = .int .i64 k ∧ Hid (∀ j, j < k → sC L j = sC L' j) ∧ Below w.heap.size w wr) (fun i _ => n - (intOf i).toNat)
    case atStart => exact ⟨0, Nat.zero_le _, rfl, (fun j hj => by omega), Below.refl _ _⟩
    case round =>
      obtain ⟨k, hk, rfl, hq, hb⟩ := hrel
      have hz := hb.size
      by_cases hlt : k < n
      · obtain ⟨b, o, rfl, c0⟩ := (HL.out.on hb) k hlt
        obtain ⟨b', o', rfl, c0'⟩ := (HL'.out.on hb) k hlt
        by_cases he : sC L k = sC L' k
        · have HQ2 : Hid (∀ j, j < k + 1 → sC L j = sC L' j) := fun j hj => by
            by_cases e : j = k
            · subst e; exact he
            · exact hq.out j (by omega)
          have hd : ((sC L k).toList == (sC L' k).toList) = true := by rw [he]; simp
          generalize sC L k = x at c0 hd
          generalize sC L' k = x' at c0' hd
          clear he hq
          go_wp2
          go_region
          all_goals
            go_wp2
            exact ⟨⟨k + 1, by omega, by go_num, HQ2, by first | exact hb | exact hb.drew⟩, by simp [intOf]; omega⟩
        · have hd : ((sC L k).toList == (sC L' k).toList) = false := by rw [M.list_eq]; exact decide_eq_false he
          have hD2 : Hid (D = false) := by
            have h1 := HD.out
            rw [decide_eq_false (fun e => he (by rw [e]))] at h1
            exact h1.symm
          generalize sC L k = x at c0 hd
          generalize sC L' k = x' at c0' hd
          clear he hq
          go_wp2
          go_region
          all_goals
            go_wp2
            go_ret
            exact ⟨ret_bool hD2.out.symm, by first | exact hb | exact hb.drew⟩
      · obtain rfl : k = n := by omega
        have hD2 : Hid (D = true) := by
          have h1 := HD.out
          rw [decide_eq_true (List.ext_getElem (HN1.out.trans HN2.out.symm) fun i h1 h2 => by
            have := hq.out i (by rw [← HN1.out]; exact h1)
            rw [sC_at h1, sC_at h2] at this
            exact this)] at h1
          exact h1.symm
        clear hq
        go_wp2
        go_ret
        exact ⟨ret_bool hD2.out.symm, hb⟩
  · have hD2 : Hid (D = false) := by
      have h1 := HD.out
      rw [decide_eq_false (fun e => hlen (by rw [e]))] at h1
      exact h1.symm
    have q1 : ((L.length : Int) == (L'.length : Int)) = false := by rw [beq_eq_false_iff_ne]; omega
    have q2 : ((L.length : Int) != (L'.length : Int)) = true := by unfold bne; rw [q1]; rfl
    generalize L.length = n at HL q1 q2 ⊢
    generalize L'.length = m at HL' q1 q2 ⊢
    clear hlen
    go_enter Try.func16, Try.ntmps16
    go_wp2
    go_ret
    exact ⟨ret_bool hD2.out.symm, Below.refl _ _⟩
end Go.Proofs.Ytekkajgifgnklaa
