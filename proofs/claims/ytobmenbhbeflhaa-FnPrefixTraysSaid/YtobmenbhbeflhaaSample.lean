/-
  Every k-th letter: what SampleLetters returns, in the program and in the model of the document.
-/
import Derived.Test.YtobmenbhbeflhaaPass
namespace Go.Proofs.Ytobmenbhbeflhaa
open Go.RowKit
open Go.PlainAid (bt get_bt bt_nonneg bt_le)

/-- The letters with the indices 0, k, .. (t of them). -/
def M.smp (I : Nat → Int) (C : Nat → ByteArray) (k : Nat) : Nat → List (Int × ByteArray)
  | 0 => []
  | t + 1 => M.smp I C k t ++ [(I (t * k), C (t * k))]
theorem M.smp_succ (I : Nat → Int) (C : Nat → ByteArray) (k t : Nat) : M.smp I C k (t + 1) = M.smp I C k t ++ [(I (t * k), C (t * k))] := rfl
theorem M.smp_len (I : Nat → Int) (C : Nat → ByteArray) (k : Nat) : ∀ t, (M.smp I C k t).length = t
  | 0 => rfl
  | t + 1 => by rw [M.smp_succ, List.length_append, M.smp_len I C k t]; rfl
def M.smpOk (n : Nat) (I : Nat → Int) (C : Nat → ByteArray) (x : Int) : Bool := M.batch n I C && decide (1 ≤ x ∧ x ≤ 60)
def M.smpL (n : Nat) (I : Nat → Int) (C : Nat → ByteArray) (x : Int) : List (Int × ByteArray) := if M.smpOk n I C x = true then M.smp I C x.toNat ((n + x.toNat - 1) / x.toNat) else []
theorem M.smp_end {n k t : Nat} (hk : 1 ≤ k) (h1 : n ≤ t * k) (h2 : t = 0 ∨ (t - 1) * k < n) : t = (n + k - 1) / k := by
  symm
  apply Nat.div_eq_of_lt_le
  · rcases h2 with rfl | h2
    · omega
    · cases t with
      | zero => omega
      | succ t =>
        rw [Nat.add_sub_cancel] at h2
        rw [Nat.succ_mul]
        omega
  · rw [Nat.succ_mul]
    omega
theorem M.smpL_le {n : Nat} {I : Nat → Int} {C : Nat → ByteArray} {x : Int} : (M.smpL n I C x).length ≤ 1048576 := by
  unfold M.smpL
  by_cases h : M.smpOk n I C x = true
  · rw [if_pos h, M.smp_len]
    unfold M.smpOk at h
    rw [Bool.and_eq_true] at h
    have h1 := (M.batch_yes h.1).1
    have h2 := of_decide_eq_true h.2
    exact Nat.le_trans (Nat.div_le_self _ _) (by omega)
  · rw [if_neg h]; exact Nat.zero_le _
theorem M.smp_no {n : Nat} {I : Nat → Int} {C : Nat → ByteArray} {x : Int} (h : M.batch n I C = false ∨ x < 1 ∨ 60 < x) : M.smpOk n I C x = false ∧ M.smpL n I C x = [] := by
  have e : M.smpOk n I C x = false := by
    unfold M.smpOk
    rcases h with h | h
    · rw [h]; rfl
    · rw [decide_eq_false (show ¬ (1 ≤ x ∧ x ≤ 60) by omega), Bool.and_false]
  refine ⟨e, ?_⟩
  unfold M.smpL
  rw [if_neg (by rw [e]; decide)]
theorem M.smp_yes {n : Nat} {I : Nat → Int} {C : Nat → ByteArray} {x : Int} (h : M.batch n I C = true) (h1 : 1 ≤ x) (h2 : x ≤ 60) : M.smpOk n I C x = true ∧ M.smpL n I C x = M.smp I C x.toNat ((n + x.toNat - 1) / x.toNat) := by
  have e : M.smpOk n I C x = true := by
    unfold M.smpOk
    rw [h, decide_eq_true (show 1 ≤ x ∧ x ≤ 60 from ⟨h1, h2⟩)]; rfl
  refine ⟨e, ?_⟩
  unfold M.smpL
  rw [if_pos e]

end Go.Proofs.Ytobmenbhbeflhaa
