/-
  Letters that are compared one by one; where the letters with a prefix stand.
-/
import Derived.Test.YtobmenbhbeflhaaMark
import Derived.Test.YtobmenbhbeflhaaSplitM
import Derived.Test.YtobmenbhbeflhaaMatL
import Derived.Test.YtobmenbhbeflhaaSample
namespace Go.Proofs.Ytobmenbhbeflhaa
open Go.RowKit

set_option maxHeartbeats 1000000 in
theorem soBatch_same (w : World) (a a' : Option Addr) (n c c' : Nat) (I : Nat → Int) (C : Nat → ByteArray) (h : Lts w a n I C) (h' : Lts w a' n I C) (hn : n ≤ 1048576) :
    Calls Try.prog 9 #[.slice a n c, .slice a' n c'] w fun e w' => e = .returned (.bool true) ∧ Below w.heap.size w w' := by
  have HL := Lib.hid h
  have HL' := Lib.hid h'
  clear h h'
  go_enter Try.func9, Try.ntmps9
  go_wp2
  go_loopw [5] (fun i wr => ∃ k : Nat, k ≤ n ∧ i = .int .i64 k ∧ Below w.heap.size w wr) (fun i _ => n - (intOf i).toNat)
  case atStart => exact ⟨0, Nat.zero_le _, rfl, Below.refl _ _⟩
  case round =>
    obtain ⟨k, hk, rfl, hb⟩ := hrel
    have hz := hb.size
    by_cases hlt : k < n
    · obtain ⟨b, o, rfl, c0, c1⟩ := (HL.out.on hb) k hlt
      obtain ⟨b', o', rfl, c0', c1'⟩ := (HL'.out.on hb) k hlt
      go_wp2
      go_region
      all_goals
        go_wp2
        exact ⟨⟨k + 1, by omega, by go_num, by go_grown⟩, by simp [intOf]; omega⟩
    · obtain rfl : k = n := by omega
      go_wp2
      go_ret
      exact ⟨rfl, hb⟩
theorem soBatch_row (w : World) (b1 b2 : Nat) (v v' : Value) (L : List (Int × ByteArray)) (h : Row w b1 v L) (h' : Row w b2 v' L) (hn : L.length ≤ 1048576) :
    Calls Try.prog 9 #[v, v'] w fun e w' => e = .returned (.bool true) ∧ Below w.heap.size w w' := by
  obtain ⟨a, c, rfl, _, hL⟩ := h.form
  obtain ⟨a', c', rfl, _, hL'⟩ := h'.form
  exact soBatch_same w a a' L.length c c' _ _ hL hL' hn
theorem lst_cut (I : Nat → Int) (C : Nat → ByteArray) (j : Nat) : ∀ n, j < n → ∃ R, M.lst I C n = M.lst I C j ++ (I j, C j) :: R
  | 0, h => absurd h (by omega)
  | n + 1, h => by
    by_cases e : j = n
    · subst e; exact ⟨[], M.lst_succ I C j⟩
    · obtain ⟨R, hR⟩ := lst_cut I C j n (by omega)
      exact ⟨R ++ [(I n, C n)], by rw [M.lst_succ, hR, List.append_assoc, List.cons_append]⟩
theorem withP_at {p : ByteArray} {I : Nat → Int} {C : Nat → ByteArray} {j n : Nat} (hj : j < n) (h : M.begins (C j) p = true) :
    (M.withP p (M.lst I C j)).length < (M.withP p (M.lst I C n)).length ∧ nI (M.withP p (M.lst I C n)) (M.withP p (M.lst I C j)).length = I j ∧ nC (M.withP p (M.lst I C n)) (M.withP p (M.lst I C j)).length = C j := by
  obtain ⟨R, hR⟩ := lst_cut I C j n hj
  have e : M.withP p (M.lst I C n) = M.withP p (M.lst I C j) ++ (I j, C j) :: M.withP p R := by
    rw [hR]; unfold M.withP; rw [List.filter_append, List.filter_cons, h]; rfl
  rw [e]
  refine ⟨by simp, ?_, ?_⟩
  · rw [nI_at (by simp)]; simp
  · rw [nC_at (by simp)]; simp
theorem sansP_at {p : ByteArray} {I : Nat → Int} {C : Nat → ByteArray} {j n : Nat} (hj : j < n) (h : M.begins (C j) p = false) :
    (M.sansP p (M.lst I C j)).length < (M.sansP p (M.lst I C n)).length ∧ nI (M.sansP p (M.lst I C n)) (M.sansP p (M.lst I C j)).length = I j ∧ nC (M.sansP p (M.lst I C n)) (M.sansP p (M.lst I C j)).length = C j := by
  obtain ⟨R, hR⟩ := lst_cut I C j n hj
  have e : M.sansP p (M.lst I C n) = M.sansP p (M.lst I C j) ++ (I j, C j) :: M.sansP p R := by
    rw [hR]; unfold M.sansP; rw [List.filter_append, List.filter_cons, h]; rfl
  rw [e]
  refine ⟨by simp, ?_, ?_⟩
  · rw [nI_at (by simp)]; simp
  · rw [nC_at (by simp)]; simp
end Go.Proofs.Ytobmenbhbeflhaa

/-
  How many letters slices have together.
-/
namespace Go.Proofs.Ytobmenbhbeflhaa
open Go.RowKit

theorem tot_mul {M : Nat → List (Int × ByteArray)} : ∀ {n : Nat}, (∀ i, i < n → (M i).length ≤ 60) → tot M n ≤ 60 * n
  | 0, _ => Nat.zero_le _
  | n + 1, h => by
    have h1 := tot_mul (M := M) (n := n) (fun i hi => h i (by omega))
    have h2 := h n (by omega)
    show tot M n + (M n).length ≤ _
    omega
theorem tot_le {M : Nat → List (Int × ByteArray)} {n : Nat} (hn : n ≤ 60) (h : ∀ i, i < n → (M i).length ≤ 60) : tot M n ≤ 1048576 := by
  have := tot_mul h
  omega
end Go.Proofs.Ytobmenbhbeflhaa

/-
  Which letters a sample has.
-/
namespace Go.Proofs.Ytobmenbhbeflhaa
open Go.RowKit

theorem below_drewS {B : Nat} {a w : World} (h : Below B a w) (n : Nat) : Below B a (w.drewN n) := ⟨h.os, h.tape, h.output, h.size, h.block⟩
theorem M.smp_get (I : Nat → Int) (C : Nat → ByteArray) (k : Nat) : ∀ {t i : Nat}, i < t → nI (M.smp I C k t) i = I (i * k) ∧ nC (M.smp I C k t) i = C (i * k)
  | 0, _, h => absurd h (by omega)
  | t + 1, i, h => by
    have hl := M.smp_len I C k t
    have hlen : i < (M.smp I C k (t + 1)).length := by rw [M.smp_len]; exact h
    rw [nI_at hlen, nC_at hlen]
    by_cases e : i < t
    · have hi : i < (M.smp I C k t).length := by omega
      have h2 := M.smp_get I C k e
      rw [nI_at hi, nC_at hi] at h2
      have : (M.smp I C k (t + 1))[i] = (M.smp I C k t)[i] := by
        show (M.smp I C k t ++ [(I (t * k), C (t * k))])[i] = _
        exact List.getElem_append_left hi
      rw [this]
      exact h2
    · obtain rfl : i = t := by omega
      have : (M.smp I C k (i + 1))[i] = (I (i * k), C (i * k)) := by
        simp [M.smp_succ, hl]
      rw [this]
      exact ⟨rfl, rfl⟩
theorem M.smp_one (I : Nat → Int) (C : Nat → ByteArray) : ∀ n, M.smp I C 1 n = M.lst I C n
  | 0 => rfl
  | n + 1 => by rw [M.smp_succ, M.smp_one I C n, M.lst_succ, Nat.mul_one]
theorem M.smp_ix {n q t i : Nat} (hq : 0 < q) (ht : (n + q - 1) / q = t) (hi : i < t) : i * q < n := by
  have h1 : (i + 1) * q ≤ n + q - 1 := by
    have : i + 1 ≤ (n + q - 1) / q := by omega
    exact (Nat.le_div_iff_mul_le hq).1 this
  rw [Nat.succ_mul] at h1
  omega
end Go.Proofs.Ytobmenbhbeflhaa
