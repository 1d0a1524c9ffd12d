/-
  A rule is added or removed, on paper.
-/
import Derived.Test.YtkbebpadbdhnhaaRulM
import Derived.Test.YtkbebpadbdhnhaaFCat
namespace Go.Proofs.Ytkbebpadbdhnhaa
open Go.RowKit
set_option linter.unusedVariables false
theorem M.rankC (S : Nat → ByteArray) (c : ByteArray) (n : Nat) : (M.rankTo S c n = -1 ∧ ∀ j, j < n → S j ≠ c) ∨ ∃ k : Nat, k < n ∧ S k = c ∧ (∀ j, j < k → S j ≠ c) ∧ M.rankTo S c n = (k : Int) := by
  by_cases h : ∃ j, j < n ∧ S j = c
  · right
    obtain ⟨j, hj, e⟩ := h
    induction j using Nat.strongRecOn with
    | ind j ih =>
      by_cases h2 : ∃ i, i < j ∧ S i = c
      · obtain ⟨i, hi, e2⟩ := h2
        exact ih i hi (by omega) e2
      · have hno : ∀ i, i < j → S i ≠ c := fun i hi e2 => h2 ⟨i, hi, e2⟩
        exact ⟨j, hj, e, hno, M.rank_hit hj e hno⟩
  · have hno : ∀ j, j < n → S j ≠ c := fun j hj e => h ⟨j, hj, e⟩
    exact Or.inl ⟨M.rank_miss hno, hno⟩
/-- The rules with another one, or with another end of one of them. -/
def M.addRaw (P N : Nat → ByteArray) (n : Nat) (x y : ByteArray) : List (ByteArray × ByteArray) :=
  if M.rankTo P x n < 0 then M.flst P N n ++ [(x, y)] else (M.flst P N n).set (M.rankTo P x n).toNat (x, y)
theorem M.addRaw_new {P N : Nat → ByteArray} {n : Nat} {x y : ByteArray} (h : M.rankTo P x n = -1) : M.addRaw P N n x y = M.flst P N n ++ [(x, y)] := by unfold M.addRaw; exact if_pos (by omega)
theorem M.addRaw_old {P N : Nat → ByteArray} {n k : Nat} {x y : ByteArray} (h : M.rankTo P x n = (k : Int)) : M.addRaw P N n x y = (M.flst P N n).set k (x, y) := by unfold M.addRaw; rw [if_neg (by omega), h, Int.toNat_natCast]
theorem M.addRaw_len (P N : Nat → ByteArray) (n : Nat) (x y : ByteArray) : (M.addRaw P N n x y).length ≤ n + 1 := by
  unfold M.addRaw
  split
  · rw [List.length_append, M.flst_length]; exact Nat.le_refl _
  · rw [List.length_set, M.flst_length]; omega
def M.addROk (P N : Nat → ByteArray) (n : Nat) (x y : ByteArray) : Bool := M.rul n P N && M.rul (M.addRaw P N n x y).length (nF (M.addRaw P N n x y)) (nT (M.addRaw P N n x y))
def M.addRL (P N : Nat → ByteArray) (n : Nat) (x y : ByteArray) : List (ByteArray × ByteArray) := if M.addROk P N n x y = true then M.addRaw P N n x y else []
theorem M.addRL_le (P N : Nat → ByteArray) (n : Nat) (x y : ByteArray) : (M.addRL P N n x y).length ≤ n + 1 := by
  unfold M.addRL
  split
  · exact M.addRaw_len P N n x y
  · exact Nat.zero_le _
theorem M.addRL_small (P N : Nat → ByteArray) (n : Nat) (x y : ByteArray) (hn : n ≤ 1048576) : (M.addRL P N n x y).length ≤ 1048576 := by
  unfold M.addRL
  split
  · rename_i h
    unfold M.addROk at h
    rw [Bool.and_eq_true] at h
    have := (M.rul_yes h.2).1
    omega
  · exact Nat.zero_le _
theorem M.addR_no {P N : Nat → ByteArray} {n : Nat} {x y : ByteArray} (h : M.rul n P N = false ∨ M.rul (M.addRaw P N n x y).length (nF (M.addRaw P N n x y)) (nT (M.addRaw P N n x y)) = false) : M.addROk P N n x y = false ∧ M.addRL P N n x y = [] := by
  have e : M.addROk P N n x y = false := by
    unfold M.addROk
    rcases h with h | h
    · rw [h, Bool.false_and]
    · rw [h, Bool.and_false]
  exact ⟨e, by unfold M.addRL; rw [e]; rfl⟩
theorem M.addR_yes {P N : Nat → ByteArray} {n : Nat} {x y : ByteArray} (h : M.rul n P N = true) (h2 : M.rul (M.addRaw P N n x y).length (nF (M.addRaw P N n x y)) (nT (M.addRaw P N n x y)) = true) : M.addROk P N n x y = true ∧ M.addRL P N n x y = M.addRaw P N n x y := by
  have e : M.addROk P N n x y = true := by unfold M.addROk; rw [h, h2]; rfl
  exact ⟨e, by unfold M.addRL; exact if_pos e⟩
/-- Rules in a row have fitting sizes. -/
theorem FFits.rowR {L : List (ByteArray × ByteArray)} (h : ∀ p ∈ L, p.1.size ≤ maxLen ∧ p.2.size ≤ maxLen) : FFits L.length (nF L) (nT L) := fun i hi => by
  rw [nF_at hi, nT_at hi]; exact h _ (List.getElem_mem hi)
theorem flst_fits {P N : Nat → ByteArray} {n : Nat} (h : FFits n P N) : ∀ p ∈ M.flst P N n, p.1.size ≤ maxLen ∧ p.2.size ≤ maxLen := by
  intro p hp
  unfold M.flst at hp
  obtain ⟨i, hi, rfl⟩ := List.mem_map.1 hp
  exact h i (List.mem_range.1 hi)
theorem fits_addR {P N : Nat → ByteArray} {n : Nat} (h : FFits n P N) {x y : ByteArray} (hx : x.size ≤ maxLen) (hy : y.size ≤ maxLen) : FFits (M.addRaw P N n x y).length (nF (M.addRaw P N n x y)) (nT (M.addRaw P N n x y)) := FFits.rowR fun p hp => by
  have h0 := flst_fits h
  unfold M.addRaw at hp
  split at hp
  · rcases List.mem_append.1 hp with hp | hp
    · exact h0 p hp
    · obtain rfl := List.mem_singleton.1 hp
      exact ⟨hx, hy⟩
  · rcases List.mem_or_eq_of_mem_set hp with hp | rfl
    · exact h0 p hp
    · exact ⟨hx, hy⟩
/-- The rules but one. -/
def M.sansAt (P N : Nat → ByteArray) (n k : Nat) : List (ByteArray × ByteArray) := M.flst P N k ++ M.flst (fun i => P (k + 1 + i)) (fun i => N (k + 1 + i)) (n - (k + 1))
theorem M.sansAt_len {P N : Nat → ByteArray} {n k : Nat} (h : k < n) : (M.sansAt P N n k).length = n - 1 := by
  unfold M.sansAt
  rw [List.length_append, M.flst_length, M.flst_length]; omega
def M.remROk (P N : Nat → ByteArray) (n : Nat) (x : ByteArray) : Bool := M.rul n P N && decide (0 ≤ M.rankTo P x n)
def M.remRL (P N : Nat → ByteArray) (n : Nat) (x : ByteArray) : List (ByteArray × ByteArray) := if M.remROk P N n x = true then M.sansAt P N n (M.rankTo P x n).toNat else []
theorem M.remR_no {P N : Nat → ByteArray} {n : Nat} {x : ByteArray} (h : M.rul n P N = false ∨ M.rankTo P x n = -1) : M.remROk P N n x = false ∧ M.remRL P N n x = [] := by
  have e : M.remROk P N n x = false := by
    unfold M.remROk
    rcases h with h | h
    · rw [h, Bool.false_and]
    · rw [h, Bool.and_eq_false_iff]; exact Or.inr rfl
  exact ⟨e, by unfold M.remRL; rw [e]; rfl⟩
theorem M.remR_yes {P N : Nat → ByteArray} {n k : Nat} {x : ByteArray} (h : M.rul n P N = true) (h2 : M.rankTo P x n = (k : Int)) : M.remROk P N n x = true ∧ M.remRL P N n x = M.sansAt P N n k := by
  have e : M.remROk P N n x = true := by unfold M.remROk; rw [h, h2, Bool.true_and]; exact decide_eq_true (by omega)
  exact ⟨e, by unfold M.remRL; rw [if_pos e, h2, Int.toNat_natCast]⟩
theorem M.remRL_le (P N : Nat → ByteArray) (n : Nat) (x : ByteArray) : (M.remRL P N n x).length ≤ n := by
  rcases M.rankC P x n with ⟨h, _⟩ | ⟨k, hk, _, _, h⟩
  · rw [(M.remR_no (Or.inr h)).2]; exact Nat.zero_le _
  · cases hr : M.rul n P N
    · rw [(M.remR_no (Or.inl hr)).2]; exact Nat.zero_le _
    · rw [(M.remR_yes hr h).2, M.sansAt_len hk]; omega
theorem M.remRL_small (P N : Nat → ByteArray) (n : Nat) (x : ByteArray) (hn : n ≤ 1048576) : (M.remRL P N n x).length ≤ 1048576 := Nat.le_trans (M.remRL_le P N n x) hn
end Go.Proofs.Ytkbebpadbdhnhaa
