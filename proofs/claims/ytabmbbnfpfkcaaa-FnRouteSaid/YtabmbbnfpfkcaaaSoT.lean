/-
  What the law's own text says of strings and of orders: whether two lists agree, whether one has a string.
-/
import Derived.Test.YtabmbbnfpfkcaaaStrA
import Derived.Test.YtabmbbnfpfkcaaaPlan
import Derived.Test.YtabmbbnfpfkcaaaFRow
import Derived.Test.YtabmbbnfpfkcaaaDelM
namespace Go.Proofs.Ytabmbbnfpfkcaaa
open Go.RowKit
open Go.PlainAid (bt get_bt bt_nonneg bt_le)
set_option linter.unusedVariables false

set_option maxHeartbeats 1000000 in
theorem soTexts_same (w : World) (a a' : Option Addr) (n c c' : Nat) (S : Nat → ByteArray) (h : Strs w a n S) (h' : Strs w a' n S) (hn : n ≤ 1048576) :
    Calls Try.prog 24 #[.slice a n c, .slice a' n c'] w fun e w' => e = .returned (.bool true) ∧ Below w.heap.size w w' := by
  have HL := Lib.hid h
  have HL' := Lib.hid h'
  clear h h'
  go_enter Try.func24, Try.ntmps24
  go_wp2
  go_loopw [5] (fun i wr => ∃ k : Nat, k ≤ n ∧ i = .int .i64 k ∧ Below w.heap.size w wr) (fun i _ => n - (intOf i).toNat)
  case atStart => exact ⟨0, Nat.zero_le _, rfl, Below.refl _ _⟩
  case round =>
    obtain ⟨k, hk, rfl, hb⟩ := hrel
    have hz := hb.size
    by_cases hlt : k < n
    · obtain ⟨b, o, rfl, c0⟩ := (HL.out.on hb) k hlt
      obtain ⟨b', o', rfl, c0'⟩ := (HL'.out.on hb) k hlt
      have hd : ((S k).toList == (S k).toList) = true := by simp
      go_wp2
      go_region
      all_goals
        go_wp2
        exact ⟨⟨k + 1, by omega, by go_num, by first | exact hb | exact hb.drew⟩, by simp [intOf]; omega⟩
    · obtain rfl : k = n := by omega
      go_wp2
      go_ret
      exact ⟨rfl, hb⟩
theorem soTexts_row (w : World) (b1 b2 : Nat) (v v' : Value) (L : List ByteArray) (h : SRow w b1 v L) (h' : SRow w b2 v' L) (hn : L.length ≤ 1048576) :
    Calls Try.prog 24 #[v, v'] w fun e w' => e = .returned (.bool true) ∧ Below w.heap.size w w' := by
  obtain ⟨a, c, rfl, _, hl⟩ := h.form
  obtain ⟨a', c', rfl, _, hl'⟩ := h'.form
  exact soTexts_same w a a' L.length c c' _ hl hl' hn
set_option maxHeartbeats 1000000 in
theorem soHas_any (w : World) (base : Nat) (v : Value) (L : List ByteArray) (h : SRow w base v L) (hn : L.length ≤ 1048576) (s : ByteArray) :
    Calls Try.prog 25 #[v, .string s] w fun e w' => e = .returned (.bool (M.has s L)) ∧ w = w' := by
  obtain ⟨a, c, rfl, _, hl⟩ := h.form
  have HL := Lib.hid hl
  have HM : Hid (∀ j, j < L.length → sC L j ∈ L) := fun j hj => by rw [sC_at hj]; exact List.getElem_mem hj
  have HN : Hid ((∀ j, j < L.length → sC L j ≠ s) → M.has s L = false) := fun hno => M.has_no fun hm => by
    obtain ⟨j, hj, e⟩ := List.getElem_of_mem hm
    exact hno j hj (by rw [sC_at hj]; exact e)
  obtain ⟨n, hln⟩ : ∃ n, L.length = n := ⟨_, rfl⟩
  rw [hln] at HL HM HN hn ⊢
  clear h hl hln
  go_enter Try.func25, Try.ntmps25
  go_wp2
  go_loop [5] (fun i => ∃ k : Nat, k ≤ n ∧ i = .int .i64 k ∧ Hid (∀ j, j < k → sC L j ≠ s)) (fun i => n - (intOf i).toNat)
  case atStart => exact ⟨0, Nat.zero_le _, rfl, fun j hj => absurd hj (by omega)⟩
  case round =>
    obtain ⟨k, hk, rfl, hno⟩ := hrel
    by_cases hlt : k < n
    · obtain ⟨b, o, rfl, c0⟩ := HL.out k hlt
      by_cases he : sC L k = s
      · have hd : ((sC L k).toList == s.toList) = true := by rw [he]; simp
        have hv : Hid (M.has s L = true) := M.has_iff.2 (he ▸ HM.out k hlt)
        clear he
        go_wp2
        go_ret
        exact ⟨ret_bool hv.out.symm, rfl⟩
      · have hd : ((sC L k).toList == s.toList) = false := neq_list0 he
        have HE := Lib.hid he
        clear he
        go_wp2
        go_round
        case rel => exact ⟨k + 1, by omega, by go_num, fun q hq => by by_cases e : q = k; (subst e; exact HE.out); exact hno.out q (by omega)⟩
        case measure => simp [intOf]; omega
    · obtain rfl : k = n := by omega
      have hv := Lib.hid (HN.out hno.out)
      go_wp2
      go_ret
      exact ⟨ret_bool hv.out.symm, rfl⟩
end Go.Proofs.Ytabmbbnfpfkcaaa
