/-
  Trays: plain functions on lists of letters in slices. No program is named here.
-/
import Derived.Test.YtobmenbhbeflhaaSS
namespace Go.Proofs.Ytobmenbhbeflhaa
open Go.RowKit

/-- Letters are a batch. -/
def bat (L : List (Int × ByteArray)) : Bool := M.batch L.length (nI L) (nC L)
def FitL (L : List (Int × ByteArray)) : Prop := Fits L.length (nI L) (nC L)
theorem fitL_iff (L : List (Int × ByteArray)) : FitL L ↔ ∀ x ∈ L, (-9223372036854775808 ≤ x.1 ∧ x.1 ≤ 9223372036854775807) ∧ x.2.size ≤ maxLen := by
  constructor
  · intro h x hx
    obtain ⟨i, hi, e⟩ := List.mem_iff_getElem.1 hx
    have := h i hi
    rw [nI_at hi, nC_at hi, e] at this
    exact this
  · intro h i hi
    rw [nI_at hi, nC_at hi]
    exact h _ (List.getElem_mem hi)
theorem mem_flat {MM : Nat → List (Int × ByteArray)} {x : Int × ByteArray} : ∀ {n : Nat}, x ∈ M.flat MM n ↔ ∃ i, i < n ∧ x ∈ MM i
  | 0 => ⟨fun h => (by cases h), fun ⟨i, hi, _⟩ => absurd hi (by omega)⟩
  | n + 1 => by
    show x ∈ M.flat MM n ++ MM n ↔ _
    rw [List.mem_append, mem_flat (n := n)]
    constructor
    · rintro (⟨i, hi, h⟩ | h)
      · exact ⟨i, by omega, h⟩
      · exact ⟨n, by omega, h⟩
    · rintro ⟨i, hi, h⟩
      by_cases e : i = n
      · subst e; exact Or.inr h
      · exact Or.inl ⟨i, by omega, h⟩
/-- Of fitting sizes, and not too many. -/
def Sz (n : Nat) (MM : Nat → List (Int × ByteArray)) : Prop := n ≤ 1048576 ∧ (M.flat MM n).length ≤ 1048576 ∧ FitL (M.flat MM n)
theorem Sz.one {n : Nat} {MM : Nat → List (Int × ByteArray)} (h : Sz n MM) {i : Nat} (hi : i < n) : (MM i).length ≤ 1048576 ∧ FitL (MM i) := by
  refine ⟨?_, (fitL_iff _).2 fun x hx => (fitL_iff _).1 h.2.2 x (mem_flat.2 ⟨i, hi, hx⟩)⟩
  have h1 := h.2.1
  rw [tot_flat] at h1
  have h2 := tot_mono MM (i := i + 1) (n := n) hi
  have h3 : tot MM (i + 1) = tot MM i + (MM i).length := rfl
  omega
theorem Lss.sz {w : World} {a : Option Addr} {n : Nat} {MM : Nat → List (Int × ByteArray)} (h : Lss w a n MM) (hn : n ≤ 1048576) (ht : tot MM n ≤ 1048576) : Sz n MM :=
  ⟨hn, by rw [tot_flat]; exact ht, (fitL_iff _).2 fun x hx => by
    obtain ⟨i, hi, hx⟩ := mem_flat.1 hx
    obtain ⟨_, _, _, _, _, _, _, hf, _⟩ := h i hi
    exact (fitL_iff _).1 hf x hx⟩
/-- The lengths of the first n slices lie between 1 and a size. -/
def lensIn (MM : Nat → List (Int × ByteArray)) (s : Int) (n : Nat) : Bool := (List.range n).all fun i => decide (1 ≤ ((MM i).length : Int) ∧ ((MM i).length : Int) ≤ s)
theorem lensIn_iff (MM : Nat → List (Int × ByteArray)) (s : Int) (n : Nat) : lensIn MM s n = true ↔ ∀ i, i < n → 1 ≤ ((MM i).length : Int) ∧ ((MM i).length : Int) ≤ s := by
  unfold lensIn
  rw [List.all_eq_true]
  exact ⟨fun h i hi => of_decide_eq_true (h i (List.mem_range.2 hi)), fun h i hi => decide_eq_true (h i (List.mem_range.1 hi))⟩
theorem lensIn_no {MM : Nat → List (Int × ByteArray)} {s : Int} {n i : Nat} (hi : i < n) (h : ¬ (1 ≤ ((MM i).length : Int) ∧ ((MM i).length : Int) ≤ s)) : lensIn MM s n = false := by
  rw [Bool.eq_false_iff]; intro e; exact h ((lensIn_iff MM s n).1 e i hi)
def sizeOk (s : Int) : Bool := decide (1 ≤ s ∧ s ≤ 20)
def traysOk (n : Nat) (MM : Nat → List (Int × ByteArray)) (s : Int) : Bool := sizeOk s && (decide (n ≤ 60) && (lensIn MM s n && bat (M.flat MM n)))
theorem traysOk_size {n : Nat} {MM : Nat → List (Int × ByteArray)} {s : Int} (h : sizeOk s = false) : traysOk n MM s = false := by unfold traysOk; rw [h]; rfl
theorem traysOk_many {n : Nat} {MM : Nat → List (Int × ByteArray)} {s : Int} (h : ¬ n ≤ 60) : traysOk n MM s = false := by unfold traysOk; rw [decide_eq_false h]; simp
theorem traysOk_lens {n : Nat} {MM : Nat → List (Int × ByteArray)} {s : Int} (h : lensIn MM s n = false) : traysOk n MM s = false := by unfold traysOk; rw [h]; simp
theorem traysOk_last {n : Nat} {MM : Nat → List (Int × ByteArray)} {s : Int} (h1 : sizeOk s = true) (h2 : n ≤ 60) (h3 : lensIn MM s n = true) : traysOk n MM s = bat (M.flat MM n) := by unfold traysOk; rw [h1, decide_eq_true h2, h3]; rfl
/-- The letters of trays. -/
def empty (n : Nat) (MM : Nat → List (Int × ByteArray)) : List (Int × ByteArray) := if traysOk n MM 20 = true then M.flat MM n else []
theorem empty_le {n : Nat} {MM : Nat → List (Int × ByteArray)} : (empty n MM).length ≤ 60 := by
  unfold empty
  split
  · rename_i h
    unfold traysOk at h
    rw [Bool.and_eq_true, Bool.and_eq_true, Bool.and_eq_true] at h
    exact (M.batch_yes h.2.2.2).1
  · exact Nat.zero_le _
/-- The letter with a number is in a tray. -/
def has (x : Int) (L : List (Int × ByteArray)) : Bool := decide (0 ≤ M.findLetter L.length (nI L) (nC L) x)
def trayAt (x : Int) (MM : Nat → List (Int × ByteArray)) (n : Nat) : Int := match (List.range n).find? (fun i => has x (MM i)) with
  | some i => (i : Int)
  | none => -1
theorem trayAt_hit {x : Int} {MM : Nat → List (Int × ByteArray)} {n k : Nat} (hk : k < n) (h : has x (MM k) = true) (hno : ∀ j, j < k → has x (MM j) = false) : trayAt x MM n = k := by
  unfold trayAt
  have : (List.range n).find? (fun i => has x (MM i)) = some k := by
    rw [List.find?_range_eq_some]
    exact ⟨h, List.mem_range.2 hk, fun j hj => by simp [hno j hj]⟩
  rw [this]
theorem trayAt_miss {x : Int} {MM : Nat → List (Int × ByteArray)} {n : Nat} (hno : ∀ j, j < n → has x (MM j) = false) : trayAt x MM n = -1 := by
  unfold trayAt
  have : (List.range n).find? (fun i => has x (MM i)) = none := by
    rw [List.find?_eq_none]
    intro i hi
    rw [hno i (List.mem_range.1 hi)]; simp
  rw [this]
def trayOf (n : Nat) (MM : Nat → List (Int × ByteArray)) (x : Int) : Int := if traysOk n MM 20 = true then trayAt x MM n else -1
theorem trayOf_no {n : Nat} {MM : Nat → List (Int × ByteArray)} {x : Int} (h : traysOk n MM 20 = false) : trayOf n MM x = -1 := if_neg (by rw [h]; decide)
theorem trayOf_yes {n : Nat} {MM : Nat → List (Int × ByteArray)} {x : Int} (h : traysOk n MM 20 = true) : trayOf n MM x = trayAt x MM n := if_pos h
/-- The label of a tray. -/
def label (n : Nat) (I : Nat → Int) (C : Nat → ByteArray) : ByteArray := if M.batch n I C = true ∧ 0 < n then C 0 ++ ⟨#[45]⟩ ++ C (n - 1) else ⟨#[]⟩
end Go.Proofs.Ytobmenbhbeflhaa
