/-
  The text of items, in the program; a dash for nothing, in the model of the document.
-/
import Derived.Test.YtodnolefdapbdaaDoorTextM
import Derived.Test.YtodnolefdapbdaaDoorStr
import Derived.Test.YtodnolefdapbdaaDoorShelf
namespace Go.Proofs.YtodnolefdapbdaaDoor
open Go.RowKit
set_option linter.unusedVariables false

theorem ret_txt {a b : ByteArray} (h : b = a) : Ending.returned (.string a) = .returned (.string b) := by rw [h]
theorem ne_txt (s : ByteArray) (h : ¬ s.size = 0) : ¬ s.toList = [] := by
  rw [ByteArray.toList_eq]
  intro e
  have h1 : s.data.toList.length = 0 := by rw [e]; rfl
  rw [Array.length_toList] at h1
  have h2 : s.data.size = s.size := rfl
  omega
theorem spec_l2Dash (s : ByteArray) (w : World) :
    Calls Tryd.prog 25 #[.string s] w fun e w' => e = .returned (.string (M.dashed s)) ∧ w = w' := by
  by_cases h0 : s.size = 0
  · obtain rfl : s = ⟨#[]⟩ := by
      apply ByteArray.ext
      exact Array.eq_empty_of_size_eq_zero h0
    have hd : M.dashed ⟨#[]⟩ = ⟨#[45]⟩ := rfl
    have HD := Lib.hid hd
    clear hd
    go_enter Tryd.func25, Tryd.ntmps25
    go_wp2
    go_ret
    exact ⟨ret_txt HD.out, rfl⟩
  · have HD : Hid (M.dashed s = s) := if_neg h0
    have hne := ne_txt s h0
    have hne1 : (s.toList == []) = false := by cases h : s.toList with | nil => exact absurd h hne | cons _ _ => rfl
    have hne2 : s.toList.isEmpty = false := by cases h : s.toList with | nil => exact absurd h hne | cons _ _ => rfl
    go_enter Tryd.func25, Tryd.ntmps25
    go_wp2
    go_ret
    exact ⟨ret_txt HD.out, rfl⟩

theorem strings_join (w : World) (a : Option Addr) (n c : Nat) (S : Nat → ByteArray) (g : ByteArray) (h : Strs w a n S) (hc : n ≤ c) (h0 : n ≠ 0) (hn : n ≤ 1048576) (hs : (M.gapsTo g S n).size ≤ 140737488355328) :
    Calls Tryd.prog 41 #[.slice a n c, .string g] w fun e w' => e = .returned (.string (M.gapsTo g S n)) ∧ Below w.heap.size w w' := by
  obtain ⟨b, o, rfl, c0⟩ := h 0 (by omega)
  have hb := World.block_lt_of_cell? _ _ c0
  have hj := M.gapsTo_join g S n
  have hlen : (Lib.join (((List.range n).map S).map (·.data.toList)) g.data.toList).length ≤ 140737488355328 := by
    rw [← hj, Array.length_toList]
    exact hs
  have := Tryd.strings_Join b o c ((List.range n).map S) g w (fun j x hx => by
    rw [List.getElem?_map] at hx
    by_cases hjn : j < n
    · rw [List.getElem?_range hjn] at hx
      obtain ⟨b', o', e, c1⟩ := h j hjn
      cases e
      cases hx
      exact c1
    · rw [List.getElem?_eq_none (by simp; omega)] at hx
      cases hx) hb (by simp; omega) (by simpa using hc) hlen
  rw [← hj] at this
  simpa using this

theorem impl_joinItems (w : World) (a : Option Addr) (n c : Nat) (S : Nat → ByteArray) (h : Strs w a n S) (hc : n ≤ c) (hn : n ≤ 1048576) (hs : (M.gapsTo M.gap S n).size ≤ 140737488355328) :
    Calls Tryd.prog 23 #[.slice a n c] w fun e w' => e = .returned (.string (M.itemsOf S n)) ∧ Below w.heap.size w w' := by
  by_cases h0 : n = 0
  · subst h0
    have HD := Lib.hid (show M.itemsOf S 0 = ⟨#[45]⟩ from rfl)
    go_enter Tryd.func23, Tryd.ntmps23
    go_wp2
    go_ret
    exact ⟨ret_txt HD.out, Below.refl _ _⟩
  · have HD : Hid (M.itemsOf S n = M.gapsTo M.gap S n) := if_neg h0
    have HJ := Lib.hid (strings_join w a n c S M.gap h hc h0 hn hs)
    have h1 : ¬ (n : Int) = 0 := by omega
    have h2 : ((n : Int) == 0) = false := by rw [beq_eq_false_iff_ne]; omega
    have HG : Hid ((⟨#[32]⟩ : ByteArray) = M.gap) := rfl
    clear h hs
    go_enter Tryd.func23, Tryd.ntmps23
    go_wp2_with fail
    refine (HJ.out).mono ?_
    rintro e w1 ⟨rfl, hb⟩
    go_wp2
    go_ret
    exact ⟨ret_txt HD.out, hb⟩
end Go.Proofs.YtodnolefdapbdaaDoor
