/-
  What the law's own text says of strings and of orders: whether two lists agree, whether one has a string.
-/
import Derived.Test.YtghgipcblhfceaaSCat
import Derived.Test.YtghgipcblhfceaaPlan
import Derived.Test.YtghgipcblhfceaaFRow
import Derived.Test.YtghgipcblhfceaaDelM
namespace Go.Proofs.Ytghgipcblhfceaa
open Go.RowKit
open Go.PlainAid (bt get_bt bt_nonneg bt_le)
set_option linter.unusedVariables false

set_option maxHeartbeats 1000000 in
theorem soHas_any (w : World) (base : Nat) (v : Value) (L : List ByteArray) (h : SRow w base v L) (hn : L.length ≤ 1048576) (s : ByteArray) :
    Calls Try.prog 9 #[v, .string s] w fun e w' => e = .returned (.bool (M.has s L)) ∧ w = w' := by
  obtain ⟨a, c, rfl, _, hl⟩ := h.form
  have HL := Lib.hid hl
  have HM : Hid (∀ j, j < L.length → sC L j ∈ L) := fun j hj => by rw [sC_at hj]; exact List.getElem_mem hj
  have HN : Hid ((∀ j, j < L.length → sC L j ≠ s) → M.has s L = false) := fun hno => M.has_no fun hm => by
    obtain ⟨j, hj, e⟩ := List.getElem_of_mem hm
    exact hno j hj (by rw [sC_at hj]; exact e)
  obtain ⟨n, hln⟩ : ∃ n, L.length = n := ⟨_, rfl⟩
  rw [hln] at HL HM HN hn ⊢
  clear h hl hln
  go_enter Try.func9, Try.ntmps9
  go_wp2
  go_loop [5] (fun i => ∃ k : Nat, k ≤ n ∧ i = .int .i64 k ∧ Hid (∀ j, j < k → sC L j ≠ s)) (fun i => n - (intOf i).toNat)
  case atStart => exact ⟨0, Nat.zero_le _, rfl, fun j hj => absurd hj (by omega)⟩
  case round =>
    obtain ⟨k, hk, rfl, hno⟩ := hrel
    by_cases hlt : k < n
    · obtain ⟨b, o, rfl, c0⟩ := HL.out k hlt
      by_cases he : sC L k = s
      · have hd : ((sC L k).toList == s.toList) = true := by rw [he]; simp
        have hv : Hid (M.has s L = true) := M.has_iff.2 (he ▸ HM.out k hlt)
        clear he
        go_wp2
        go_ret
        exact ⟨ret_bool hv.out.symm, rfl⟩
      · have hd : ((sC L k).toList == s.toList) = false := neq_list0 he
        have HE := Lib.hid he
        clear he
        go_wp2
        go_round
        case rel => exact ⟨k + 1, by omega, by go_num, fun q hq => by by_cases e : q = k; (subst e; exact HE.out); exact hno.out q (by omega)⟩
        case measure => simp [intOf]; omega
    · obtain rfl : k = n := by omega
      have hv := Lib.hid (HN.out hno.out)
      go_wp2
      go_ret
      exact ⟨ret_bool hv.out.symm, rfl⟩
end Go.Proofs.Ytghgipcblhfceaa
