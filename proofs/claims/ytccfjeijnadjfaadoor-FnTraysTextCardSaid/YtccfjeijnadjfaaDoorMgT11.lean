/-
  Letters that are compared one by one; where the letters with a prefix stand.
-/
import Derived.Test.YtccfjeijnadjfaaDoorMark
import Derived.Test.YtccfjeijnadjfaaDoorMgT3
import Derived.Test.YtccfjeijnadjfaaDoorMgT10
import Derived.WalkLawsBesides
import Derived.BigQuiet
import Derived.Deep.QuietTactic
import Derived.Test.YtccfjeijnadjfaaDoorMgT8
import Derived.Test.YtccfjeijnadjfaaDoorStr
import Derived.Test.YtccfjeijnadjfaaDoorShelf
namespace Go.Proofs.YtccfjeijnadjfaaDoor
open Go.RowKit

theorem lst_cut (I : Nat → Int) (C : Nat → ByteArray) (j : Nat) : ∀ n, j < n → ∃ R, M.lst I C n = M.lst I C j ++ (I j, C j) :: R
  | 0, h => absurd h (by omega)
  | n + 1, h => by
    by_cases e : j = n
    · subst e; exact ⟨[], M.lst_succ I C j⟩
    · obtain ⟨R, hR⟩ := lst_cut I C j n (by omega)
      exact ⟨R ++ [(I n, C n)], by rw [M.lst_succ, hR, List.append_assoc, List.cons_append]⟩
theorem withP_at {p : ByteArray} {I : Nat → Int} {C : Nat → ByteArray} {j n : Nat} (hj : j < n) (h : M.begins (C j) p = true) :
    (M.withP p (M.lst I C j)).length < (M.withP p (M.lst I C n)).length ∧ nI (M.withP p (M.lst I C n)) (M.withP p (M.lst I C j)).length = I j ∧ nC (M.withP p (M.lst I C n)) (M.withP p (M.lst I C j)).length = C j := by
  obtain ⟨R, hR⟩ := lst_cut I C j n hj
  have e : M.withP p (M.lst I C n) = M.withP p (M.lst I C j) ++ (I j, C j) :: M.withP p R := by
    rw [hR]; unfold M.withP; rw [List.filter_append, List.filter_cons, h]; rfl
  rw [e]
  refine ⟨by simp, ?_, ?_⟩
  · rw [nI_at (by simp)]; simp
  · rw [nC_at (by simp)]; simp
theorem sansP_at {p : ByteArray} {I : Nat → Int} {C : Nat → ByteArray} {j n : Nat} (hj : j < n) (h : M.begins (C j) p = false) :
    (M.sansP p (M.lst I C j)).length < (M.sansP p (M.lst I C n)).length ∧ nI (M.sansP p (M.lst I C n)) (M.sansP p (M.lst I C j)).length = I j ∧ nC (M.sansP p (M.lst I C n)) (M.sansP p (M.lst I C j)).length = C j := by
  obtain ⟨R, hR⟩ := lst_cut I C j n hj
  have e : M.sansP p (M.lst I C n) = M.sansP p (M.lst I C j) ++ (I j, C j) :: M.sansP p R := by
    rw [hR]; unfold M.sansP; rw [List.filter_append, List.filter_cons, h]; rfl
  rw [e]
  refine ⟨by simp, ?_, ?_⟩
  · rw [nI_at (by simp)]; simp
  · rw [nC_at (by simp)]; simp
end Go.Proofs.YtccfjeijnadjfaaDoor

/-
  Weights, numbers of trucks: what WeightsValid, TruckCount and LeastTrays return, in the program and in the model of the document.
-/
namespace Go.Proofs.YtccfjeijnadjfaaDoor
open Go.RowKit

namespace MW
/-- How many trays some letters need. -/
def leastTrays (c s : Int) : Int := if (0 ≤ c ∧ c ≤ 60) ∧ 1 ≤ s ∧ s ≤ 20 then (c + s - 1) / s else -1
end MW

set_option maxHeartbeats 400000 in
theorem spec_l5Size (s : Int) (w : World) :
    Calls Tryd.prog 25 #[.int .i64 s] w fun e w' => e = .returned (.bool (decide (1 ≤ s ∧ s ≤ 20))) ∧ w = w' := by
  go_enter Tryd.func25, Tryd.ntmps25
  go_wp2_with (go_at_call 24; refine (spec_l1In _ _ _ _).mono ?_; rintro e w1 ⟨rfl, rfl⟩)
  go_ret
  exact ⟨ret_bool (by simp), rfl⟩
set_option maxHeartbeats 400000 in
theorem impl_traySize (s : Int) (w : World) :
    Calls Tryd.prog 16 #[.int .i64 s] w fun e w' => e = .returned (.bool (decide (1 ≤ s ∧ s ≤ 20))) ∧ w = w' := by
  by_cases h1 : 1 ≤ s
  · by_cases h2 : s ≤ 20
    · have hv := Lib.hid (decide_eq_true (show 1 ≤ s ∧ s ≤ 20 from ⟨h1, h2⟩))
      go_enter Tryd.func16, Tryd.ntmps16
      go_wp2
      go_ret
      exact ⟨ret_bool hv.out.symm, rfl⟩
    · go_enter Tryd.func16, Tryd.ntmps16
      go_wp2
      go_ret
      exact ⟨ret_bool (decide_eq_false (by omega)).symm, rfl⟩
  · go_enter Tryd.func16, Tryd.ntmps16
    go_wp2
    go_ret
    exact ⟨ret_bool (by simp; omega), rfl⟩

/-- A weight is refused. -/
def badW (x c : Int) : Bool := decide (¬ (1 ≤ x ∧ x ≤ c))
/-- A function of numbers whose answer is known in all worlds behind w. -/
def Asks (w : World) (f : Nat) (cap : Array Value) (P : Int → Bool) : Prop := ∀ W x, Below w.heap.size w W → Calls Tryd.prog f (#[.int .i64 x] ++ cap) W fun e W' => e = .returned (.bool (P x)) ∧ Below W.heap.size W W'
/-- The index of the first number that is asked for, or -1. -/
def FirstAt (P : Int → Bool) (L : List Int) (r : Int) : Prop := (r = -1 ∧ ∀ i, i < L.length → P (MW.gz L i) = false) ∨ ∃ k : Nat, r = k ∧ k < L.length ∧ P (MW.gz L k) = true ∧ ∀ i, i < k → P (MW.gz L i) = false
theorem FirstAt.neg {P : Int → Bool} {L : List Int} {r : Int} (h : FirstAt P L r) : decide (0 ≤ r) = L.any P := by
  rcases h with ⟨rfl, h⟩ | ⟨k, rfl, hk, h, _⟩
  · rw [decide_eq_false (by omega)]
    symm
    rw [List.any_eq_false]
    intro x hx
    obtain ⟨i, hi, e⟩ := MW.mem_gz hx
    rw [← e, h i hi]; simp
  · rw [decide_eq_true (by omega)]
    symm
    rw [List.any_eq_true]
    exact ⟨_, MW.gz_mem hk, h⟩
end Go.Proofs.YtccfjeijnadjfaaDoor

/-
  The text of items, in the program; a dash for nothing, in the model of the document.
-/
namespace Go.Proofs.YtccfjeijnadjfaaDoor
open Go.RowKit
set_option linter.unusedVariables false

theorem ret_txt {a b : ByteArray} (h : b = a) : Ending.returned (.string a) = .returned (.string b) := by rw [h]
theorem ne_txt (s : ByteArray) (h : ¬ s.size = 0) : ¬ s.toList = [] := by
  rw [ByteArray.toList_eq]
  intro e
  have h1 : s.data.toList.length = 0 := by rw [e]; rfl
  rw [Array.length_toList] at h1
  have h2 : s.data.size = s.size := rfl
  omega
theorem spec_l2Dash (s : ByteArray) (w : World) :
    Calls Tryd.prog 15 #[.string s] w fun e w' => e = .returned (.string (M.dashed s)) ∧ w = w' := by
  by_cases h0 : s.size = 0
  · obtain rfl : s = ⟨#[]⟩ := by
      apply ByteArray.ext
      exact Array.eq_empty_of_size_eq_zero h0
    have hd : M.dashed ⟨#[]⟩ = ⟨#[45]⟩ := rfl
    have HD := Lib.hid hd
    clear hd
    go_enter Tryd.func15, Tryd.ntmps15
    go_wp2
    go_ret
    exact ⟨ret_txt HD.out, rfl⟩
  · have HD : Hid (M.dashed s = s) := if_neg h0
    have hne := ne_txt s h0
    have hne1 : (s.toList == []) = false := by cases h : s.toList with | nil => exact absurd h hne | cons _ _ => rfl
    have hne2 : s.toList.isEmpty = false := by cases h : s.toList with | nil => exact absurd h hne | cons _ _ => rfl
    go_enter Tryd.func15, Tryd.ntmps15
    go_wp2
    go_ret
    exact ⟨ret_txt HD.out, rfl⟩

theorem strings_join (w : World) (a : Option Addr) (n c : Nat) (S : Nat → ByteArray) (g : ByteArray) (h : Strs w a n S) (hc : n ≤ c) (h0 : n ≠ 0) (hn : n ≤ 1048576) (hs : (M.gapsTo g S n).size ≤ 140737488355328) :
    Calls Tryd.prog 23 #[.slice a n c, .string g] w fun e w' => e = .returned (.string (M.gapsTo g S n)) ∧ Below w.heap.size w w' := by
  obtain ⟨b, o, rfl, c0⟩ := h 0 (by omega)
  have hb := World.block_lt_of_cell? _ _ c0
  have hj := M.gapsTo_join g S n
  have hlen : (Lib.join (((List.range n).map S).map (·.data.toList)) g.data.toList).length ≤ 140737488355328 := by
    rw [← hj, Array.length_toList]
    exact hs
  have := Tryd.strings_Join b o c ((List.range n).map S) g w (fun j x hx => by
    rw [List.getElem?_map] at hx
    by_cases hjn : j < n
    · rw [List.getElem?_range hjn] at hx
      obtain ⟨b', o', e, c1⟩ := h j hjn
      cases e
      cases hx
      exact c1
    · rw [List.getElem?_eq_none (by simp; omega)] at hx
      cases hx) hb (by simp; omega) (by simpa using hc) hlen
  rw [← hj] at this
  simpa using this

theorem impl_joinItems (w : World) (a : Option Addr) (n c : Nat) (S : Nat → ByteArray) (h : Strs w a n S) (hc : n ≤ c) (hn : n ≤ 1048576) (hs : (M.gapsTo M.gap S n).size ≤ 140737488355328) :
    Calls Tryd.prog 11 #[.slice a n c] w fun e w' => e = .returned (.string (M.itemsOf S n)) ∧ Below w.heap.size w w' := by
  by_cases h0 : n = 0
  · subst h0
    have HD := Lib.hid (show M.itemsOf S 0 = ⟨#[45]⟩ from rfl)
    go_enter Tryd.func11, Tryd.ntmps11
    go_wp2
    go_ret
    exact ⟨ret_txt HD.out, Below.refl _ _⟩
  · have HD : Hid (M.itemsOf S n = M.gapsTo M.gap S n) := if_neg h0
    have HJ := Lib.hid (strings_join w a n c S M.gap h hc h0 hn hs)
    have h1 : ¬ (n : Int) = 0 := by omega
    have h2 : ((n : Int) == 0) = false := by rw [beq_eq_false_iff_ne]; omega
    have HG : Hid ((⟨#[32]⟩ : ByteArray) = M.gap) := rfl
    clear h hs
    go_enter Tryd.func11, Tryd.ntmps11
    go_wp2_with fail
    refine (HJ.out).mono ?_
    rintro e w1 ⟨rfl, hb⟩
    go_wp2
    go_ret
    exact ⟨ret_txt HD.out, hb⟩
end Go.Proofs.YtccfjeijnadjfaaDoor
