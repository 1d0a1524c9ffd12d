/-
  The turned plan puts turned letters into the turned order. No program is named here.
-/
import Derived.Test.YthnaglnmmgpiaaaMgN8
import Derived.Test.YthnaglnmmgpiaaaMgN10
namespace Go.Proofs.Ythnaglnmmgpiaaa
open Go.RowKit
set_option linter.unusedVariables false

theorem tL_rev (L : List ByteArray) : tL true L.length (sC L) = L.reverse := by
  show sst (fun t => sC L (L.length - 1 - t)) L.length = _
  apply List.ext_getElem
  · simp [sst]
  · intro i h1 h2
    simp only [sst, List.getElem_map, List.getElem_range, List.getElem_reverse]
    rw [sC_at (by simp at h2; omega)]
theorem rev_at {L : List ByteArray} {i : Nat} (h : i < L.length) : sC L.reverse i = sC L (L.length - 1 - i) := by
  rw [sC_at (by simpa using h), sC_at (by omega), List.getElem_reverse]
theorem plan_rev {b p : Int} {L : List ByteArray} (h : M.plan b p L.length (sC L) = true) : M.plan b p L.reverse.length (sC L.reverse) = true := by
  obtain ⟨h1, h2⟩ := M.plan_yes h
  rw [List.length_reverse, M.plan_fit h1, M.diffTo_iff]
  have hd := (M.diffTo_iff _ _).1 h2
  intro i hi
  rw [rev_at hi]
  refine ⟨(hd _ (by omega)).1, fun k hk e => ?_⟩
  rw [rev_at (by omega)] at e
  exact (hd (L.length - 1 - k) (by omega)).2 (L.length - 1 - i) (by omega) e.symm
theorem rank_cases2 (S : Nat → ByteArray) (c : ByteArray) (n : Nat) : (M.rankTo S c n = -1 ∧ ∀ j, j < n → S j ≠ c) ∨ ∃ k : Nat, k < n ∧ S k = c ∧ (∀ j, j < k → S j ≠ c) ∧ M.rankTo S c n = (k : Int) := by
  by_cases h : ∃ j, j < n ∧ S j = c
  · right
    obtain ⟨j, hj, e⟩ := h
    induction j using Nat.strongRecOn with
    | ind j ih =>
      by_cases h2 : ∃ i, i < j ∧ S i = c
      · obtain ⟨i, hi, e2⟩ := h2
        exact ih i hi (by omega) e2
      · have hno : ∀ i, i < j → S i ≠ c := fun i hi e2 => h2 ⟨i, hi, e2⟩
        exact ⟨j, hj, e, hno, M.rank_hit hj e hno⟩
  · left
    have hno : ∀ j, j < n → S j ≠ c := fun j hj e => h ⟨j, hj, e⟩
    exact ⟨M.rank_miss hno, hno⟩
/-- The rank in the turned round. -/
theorem rank_rev {L : List ByteArray} (h : M.diffTo (sC L) L.length = true) (c : ByteArray) : (M.rankTo (sC L) c L.length = -1 ∧ M.rankTo (sC L.reverse) c L.length = -1) ∨ ∃ k : Nat, k < L.length ∧ M.rankTo (sC L) c L.length = (k : Int) ∧ M.rankTo (sC L.reverse) c L.length = ((L.length - 1 - k : Nat) : Int) := by
  have hd := (M.diffTo_iff _ _).1 h
  rcases rank_cases2 (sC L) c L.length with ⟨h1, h2⟩ | ⟨k, hk, h1, h2, h3⟩
  · refine Or.inl ⟨h1, ?_⟩
    rcases rank_cases2 (sC L.reverse) c L.length with ⟨g1, _⟩ | ⟨j, hj, g1, _, _⟩
    · exact g1
    · rw [rev_at hj] at g1
      exact absurd g1 (h2 _ (by omega))
  · refine Or.inr ⟨k, hk, h3, ?_⟩
    rcases rank_cases2 (sC L.reverse) c L.length with ⟨_, g2⟩ | ⟨j, hj, g1, _, g3⟩
    · have := g2 (L.length - 1 - k) (by omega)
      rw [rev_at (by omega), show L.length - 1 - (L.length - 1 - k) = k by omega] at this
      exact absurd h1 this
    · rw [g3]
      rw [rev_at hj] at g1
      have : L.length - 1 - j = k := by
        rcases Nat.lt_trichotomy (L.length - 1 - j) k with h4 | h4 | h4
        · exact absurd (g1.trans h1.symm) ((hd k hk).2 _ h4)
        · exact h4
        · exact absurd (h1.trans g1.symm) ((hd (L.length - 1 - j) (by omega)).2 _ h4)
      omega
theorem flat_rev (F : Nat → List (Int × ByteArray)) : ∀ n, (M.flat F n).reverse = M.flat (fun v => (F (n - 1 - v)).reverse) n
  | 0 => rfl
  | n + 1 => by
    have h := flat_add (fun v => (F (n - v)).reverse) 1 n
    show (M.flat F n ++ F n).reverse = M.flat (fun v => (F (n + 1 - 1 - v)).reverse) (n + 1)
    rw [Nat.add_sub_cancel, Nat.add_comm n 1, h, List.reverse_append, flat_rev F n]
    have e1 : M.flat (fun v => (F (n - v)).reverse) 1 = (F n).reverse := by
      show [] ++ (F (n - 0)).reverse = _
      rw [List.nil_append, Nat.sub_zero]
    rw [e1]
    congr 1
    exact M.flat_congr fun v _ => by rw [show n - 1 - v = n - (1 + v) by omega]
theorem srt_rev {L : List ByteArray} (h : M.diffTo (sC L) L.length = true) (B : List (Int × ByteArray)) : srt L.length (sC L.reverse) B.reverse = (srt L.length (sC L) B).reverse := by
  unfold srt
  rw [flat_rev]
  refine M.flat_congr fun v hv => ?_
  rw [← List.filter_reverse]
  congr 1
  funext y
  unfold hasR rkN
  rcases rank_rev h y.2 with ⟨h1, h2⟩ | ⟨k, hk, h1, h2⟩
  · rw [h1, h2]; rfl
  · rw [h1, h2, decide_eq_true (by omega), decide_eq_true (by omega), Int.toNat_natCast, Int.toNat_natCast, Bool.true_and, Bool.true_and]
    rw [Bool.eq_iff_iff, beq_iff_eq, beq_iff_eq]
    omega
/-- The law's letters: numbered from 1, codes of the round. -/
def turnC (L : List ByteArray) (s l : Nat) (i : Nat) : ByteArray := sC L ((i * s + l) % L.length)
def turnI (i : Nat) : Int := 1 + (i : Int)
theorem turn_batch {b p : Int} {L : List ByteArray} (h : M.plan b p L.length (sC L) = true) (s l : Nat) : BatchL (M.lst turnI (turnC L s l) L.length) := by
  obtain ⟨h1, h2⟩ := M.plan_yes h
  have hd := (M.diffTo_iff _ _).1 h2
  have hf := M.fits_yes h1
  refine ⟨fun x hx => ?_, ?_, by rw [lst_len]; omega⟩
  · unfold M.lst at hx
    obtain ⟨i, hi, rfl⟩ := List.mem_map.1 hx
    have := List.mem_range.1 hi
    exact ⟨(hd _ (Nat.mod_lt _ (by omega))).1, by show 1 ≤ 1 + (i : Int); omega, by show 1 + (i : Int) ≤ 9999; omega⟩
  · unfold M.lst
    rw [List.map_map, List.pairwise_map]
    refine List.pairwise_lt_range.imp fun {x y} hxy e => ?_
    have : (1 : Int) + (x : Int) = 1 + (y : Int) := e
    omega
theorem run_srt3 {b p : Int} {n : Nat} {S : Nat → ByteArray} {L : List (Int × ByteArray)} (hp : M.plan b p n S = true) (hL : BatchL L) : runList b p n S L.length (nI L) (nC L) = srt n S L := by
  have h : runOk b p n S L.length (nI L) (nC L) = true := by
    unfold runOk
    rw [hp, (batchL_list _).2 hL]
    rfl
  have := runList_srt h
  rw [lst_nI] at this
  exact this
theorem below_drewT {B : Nat} {a w : World} (h : Below B a w) (n : Nat) : Below B a (w.drewN n) := ⟨h.os, h.tape, h.output, h.size, h.block⟩
theorem held_nine {w w' : World} {P Q R : Nat} {x1 x2 x3 y1 y2 y3 z1 z2 z3 : Value} (h : (w.cell? ⟨P, 0, none⟩ = some x1 ∧ w.cell? ⟨P, 1, none⟩ = some x2 ∧ w.cell? ⟨P, 2, none⟩ = some x3) ∧ (w.cell? ⟨Q, 0, none⟩ = some y1 ∧ w.cell? ⟨Q, 1, none⟩ = some y2 ∧ w.cell? ⟨Q, 2, none⟩ = some y3) ∧ (w.cell? ⟨R, 0, none⟩ = some z1 ∧ w.cell? ⟨R, 1, none⟩ = some z2 ∧ w.cell? ⟨R, 2, none⟩ = some z3)) (hb : Below w.heap.size w w') (hP : P < w.heap.size) (hQ : Q < w.heap.size) (hR : R < w.heap.size) :
    (w'.cell? ⟨P, 0, none⟩ = some x1 ∧ w'.cell? ⟨P, 1, none⟩ = some x2 ∧ w'.cell? ⟨P, 2, none⟩ = some x3) ∧ (w'.cell? ⟨Q, 0, none⟩ = some y1 ∧ w'.cell? ⟨Q, 1, none⟩ = some y2 ∧ w'.cell? ⟨Q, 2, none⟩ = some y3) ∧ (w'.cell? ⟨R, 0, none⟩ = some z1 ∧ w'.cell? ⟨R, 1, none⟩ = some z2 ∧ w'.cell? ⟨R, 2, none⟩ = some z3) :=
  ⟨⟨(hb.cell (p := ⟨P, 0, none⟩) hP).trans h.1.1, (hb.cell (p := ⟨P, 1, none⟩) hP).trans h.1.2.1, (hb.cell (p := ⟨P, 2, none⟩) hP).trans h.1.2.2⟩, ⟨(hb.cell (p := ⟨Q, 0, none⟩) hQ).trans h.2.1.1, (hb.cell (p := ⟨Q, 1, none⟩) hQ).trans h.2.1.2.1, (hb.cell (p := ⟨Q, 2, none⟩) hQ).trans h.2.1.2.2⟩, ⟨(hb.cell (p := ⟨R, 0, none⟩) hR).trans h.2.2.1, (hb.cell (p := ⟨R, 1, none⟩) hR).trans h.2.2.2.1, (hb.cell (p := ⟨R, 2, none⟩) hR).trans h.2.2.2.2⟩⟩
end Go.Proofs.Ythnaglnmmgpiaaa
