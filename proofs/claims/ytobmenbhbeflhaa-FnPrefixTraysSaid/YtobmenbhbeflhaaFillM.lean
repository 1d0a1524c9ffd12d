/-
  Letters put into trays, one tray after the other: plain functions. No program is named here.
-/
import Derived.Test.YtobmenbhbeflhaaTryM
namespace Go.Proofs.Ytobmenbhbeflhaa
open Go.RowKit
set_option linter.unusedVariables false

/-- The first digits of a code. -/
def pre (C : Nat → ByteArray) (d i : Nat) : ByteArray := (C i).extract 0 d
/-- A new tray begins for the letter i. -/
def cutAt (C : Nat → ByteArray) (s : Int) (d i N : Nat) (MM : Nat → List (Int × ByteArray)) : Bool :=
  decide (N = 0) || (decide (((MM (N - 1)).length : Int) = s) || decide (pre C d i ≠ pre C d (i - 1)))
/-- Trays behind the first i letters. -/
def fillTo (I : Nat → Int) (C : Nat → ByteArray) (s : Int) (d : Nat) : Nat → Nat × (Nat → List (Int × ByteArray))
  | 0 => (0, fun _ => [])
  | i + 1 =>
    let p := fillTo I C s d i
    if cutAt C s d i p.1 p.2 = true then (p.1 + 1, upd p.2 p.1 [(I i, C i)]) else (p.1, upd p.2 (p.1 - 1) (p.2 (p.1 - 1) ++ [(I i, C i)]))
def fN (I : Nat → Int) (C : Nat → ByteArray) (s : Int) (d i : Nat) : Nat := (fillTo I C s d i).1
def fM (I : Nat → Int) (C : Nat → ByteArray) (s : Int) (d i : Nat) : Nat → List (Int × ByteArray) := (fillTo I C s d i).2
section
variable {I : Nat → Int} {C : Nat → ByteArray} {s : Int} {d i : Nat}
theorem fill_cut (h : cutAt C s d i (fN I C s d i) (fM I C s d i) = true) : fN I C s d (i + 1) = fN I C s d i + 1 ∧ fM I C s d (i + 1) = upd (fM I C s d i) (fN I C s d i) [(I i, C i)] := by
  unfold fN fM at *
  constructor
  · show (if _ then _ else _ : Nat × (Nat → List (Int × ByteArray))).1 = _
    rw [if_pos h]
  · show (if _ then _ else _ : Nat × (Nat → List (Int × ByteArray))).2 = _
    rw [if_pos h]
theorem fill_stay (h : cutAt C s d i (fN I C s d i) (fM I C s d i) = false) : fN I C s d (i + 1) = fN I C s d i ∧ fM I C s d (i + 1) = upd (fM I C s d i) (fN I C s d i - 1) (fM I C s d i (fN I C s d i - 1) ++ [(I i, C i)]) := by
  unfold fN fM at *
  constructor
  · show (if _ then _ else _ : Nat × (Nat → List (Int × ByteArray))).1 = _
    rw [if_neg (by rw [h]; decide)]
  · show (if _ then _ else _ : Nat × (Nat → List (Int × ByteArray))).2 = _
    rw [if_neg (by rw [h]; decide)]
theorem cut_none {MM : Nat → List (Int × ByteArray)} : cutAt C s d i 0 MM = true := by unfold cutAt; simp
theorem cut_some {N : Nat} {MM : Nat → List (Int × ByteArray)} (h : 0 < N) : cutAt C s d i N MM = (decide (((MM (N - 1)).length : Int) = s) || decide (pre C d i ≠ pre C d (i - 1))) := by
  unfold cutAt; rw [decide_eq_false (by omega)]; rfl
theorem stay_pos {N : Nat} {MM : Nat → List (Int × ByteArray)} (h : cutAt C s d i N MM = false) : 0 < N := by
  rcases Nat.eq_zero_or_pos N with e | e
  · subst e; rw [cut_none] at h; cases h
  · exact e
end
section
variable (I : Nat → Int) (C : Nat → ByteArray) (s : Int) (d : Nat)
theorem fN_zero : fN I C s d 0 = 0 := rfl
theorem fM_zero : fM I C s d 0 = fun _ => [] := rfl
theorem fN_le : ∀ i, fN I C s d i ≤ i
  | 0 => Nat.le_refl 0
  | i + 1 => by
    have := fN_le i
    cases h : cutAt C s d i (fN I C s d i) (fM I C s d i)
    · rw [(fill_stay h).1]; omega
    · rw [(fill_cut h).1]; omega
theorem fN_pos : ∀ i, 0 < fN I C s d (i + 1) := fun i => by
  cases h : cutAt C s d i (fN I C s d i) (fM I C s d i)
  · rw [(fill_stay h).1]; exact stay_pos h
  · rw [(fill_cut h).1]; omega
theorem flat_upd_last {MM : Nat → List (Int × ByteArray)} {N : Nat} {L : List (Int × ByteArray)} : ∀ {k : Nat}, k ≤ N → M.flat (upd MM N L) k = M.flat MM k
  | 0, _ => rfl
  | k + 1, h => by
    show M.flat (upd MM N L) k ++ upd MM N L k = M.flat MM k ++ MM k
    rw [flat_upd_last (by omega), upd_other _ _ (by omega)]
/-- No letter is lost, and all are in order. -/
theorem flat_fill : ∀ i, M.flat (fM I C s d i) (fN I C s d i) = M.lst I C i
  | 0 => rfl
  | i + 1 => by
    have ih := flat_fill i
    cases h : cutAt C s d i (fN I C s d i) (fM I C s d i)
    · obtain ⟨e1, e2⟩ := fill_stay (I := I) h
      rw [e1, e2]
      obtain ⟨N, hN⟩ : ∃ N, fN I C s d i = N + 1 := ⟨fN I C s d i - 1, by have := stay_pos h; omega⟩
      rw [hN] at ih ⊢
      rw [M.lst_succ, ← ih]
      show M.flat (upd _ N _) N ++ upd _ N _ N = (M.flat _ N ++ _) ++ _
      rw [flat_upd_last (Nat.le_refl _), upd_same]
      simp
    · obtain ⟨e1, e2⟩ := fill_cut (I := I) h
      rw [e1, e2, M.lst_succ, ← ih]
      show M.flat (upd _ _ _) _ ++ upd _ _ _ _ = _
      rw [flat_upd_last (Nat.le_refl _), upd_same]
theorem tot_fill (i : Nat) : tot (fM I C s d i) (fN I C s d i) = i := by rw [← tot_flat, flat_fill, M.lst_length]
/-- Each tray has a letter, and not too many. -/
theorem fill_len (hs : 1 ≤ s) : ∀ i j, j < fN I C s d i → 1 ≤ ((fM I C s d i j).length : Int) ∧ ((fM I C s d i j).length : Int) ≤ s
  | 0, j, h => absurd h (by rw [fN_zero]; omega)
  | i + 1, j, h => by
    have ih := fill_len hs i
    cases hc : cutAt C s d i (fN I C s d i) (fM I C s d i)
    · obtain ⟨e1, e2⟩ := fill_stay (I := I) hc
      rw [e1] at h
      rw [e2]
      by_cases e : j = fN I C s d i - 1
      · subst e
        rw [upd_same, List.length_append]
        have := ih _ h
        have hp := stay_pos hc
        rw [cut_some hp] at hc
        have hne : ¬ ((fM I C s d i (fN I C s d i - 1)).length : Int) = s := by
          intro e; rw [decide_eq_true e] at hc; cases hc
        simp only [List.length_singleton]
        omega
      · rw [upd_other _ _ e]; exact ih j h
    · obtain ⟨e1, e2⟩ := fill_cut (I := I) hc
      rw [e1] at h
      rw [e2]
      by_cases e : j = fN I C s d i
      · subst e; rw [upd_same]; simp only [List.length_singleton]; omega
      · rw [upd_other _ _ e]; exact ih j (by omega)
theorem fM_len (i j : Nat) (h : j < fN I C s d i) : (fM I C s d i j).length ≤ i := by
  have h1 := tot_mono (fM I C s d i) (i := j + 1) (n := fN I C s d i) h
  rw [tot_fill] at h1
  have h2 : tot (fM I C s d i) (j + 1) = tot (fM I C s d i) j + (fM I C s d i j).length := rfl
  omega
end
/-- Letters, a size, a number of digits: what is asked of them. -/
def fillOk (n : Nat) (I : Nat → Int) (C : Nat → ByteArray) (s d : Int) : Bool := M.batch n I C && (sizeOk s && decide (0 ≤ d ∧ d ≤ 7))
def fillN (n : Nat) (I : Nat → Int) (C : Nat → ByteArray) (s d : Int) : Nat := if fillOk n I C s d = true then fN I C s d.toNat n else 0
theorem fillOk_1 {n : Nat} {I : Nat → Int} {C : Nat → ByteArray} {s d : Int} (h : M.batch n I C = false) : fillOk n I C s d = false := by unfold fillOk; rw [h]; rfl
theorem fillOk_2 {n : Nat} {I : Nat → Int} {C : Nat → ByteArray} {s d : Int} (h : sizeOk s = false) : fillOk n I C s d = false := by unfold fillOk; rw [h]; simp
theorem fillOk_3 {n : Nat} {I : Nat → Int} {C : Nat → ByteArray} {s d : Int} (h : ¬ (0 ≤ d ∧ d ≤ 7)) : fillOk n I C s d = false := by unfold fillOk; rw [decide_eq_false h]; simp
theorem fillOk_4 {n : Nat} {I : Nat → Int} {C : Nat → ByteArray} {s d : Int} (h1 : M.batch n I C = true) (h2 : sizeOk s = true) (h3 : 0 ≤ d ∧ d ≤ 7) : fillOk n I C s d = true := by unfold fillOk; rw [h1, h2, decide_eq_true h3]; rfl
theorem fillN_no {n : Nat} {I : Nat → Int} {C : Nat → ByteArray} {s d : Int} (h : fillOk n I C s d = false) : fillN n I C s d = 0 := if_neg (by rw [h]; decide)
theorem fillN_yes {n : Nat} {I : Nat → Int} {C : Nat → ByteArray} {s d : Int} (h : fillOk n I C s d = true) : fillN n I C s d = fN I C s d.toNat n := if_pos h
/-- Trays, and whether there are any. -/
def TraysRes (w : World) (ok : Bool) (n : Nat) (MM : Nat → List (Int × ByteArray)) (e : Ending) (w' : World) : Prop :=
  ∃ (v : Value) (V : Nat → Value), e = .returned (.tuple #[v, .bool ok]) ∧ Mat w' w.heap.size v n V MM ∧ Below w.heap.size w w'
end Go.Proofs.Ytobmenbhbeflhaa
