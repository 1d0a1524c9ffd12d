/-
  The text of items, in the program; a dash for nothing, in the model of the document.
-/
import Derived.Test.YtjabpidmfgcamaaDoorTextM
import Derived.Test.YtjabpidmfgcamaaDoorStr
import Derived.Test.YtjabpidmfgcamaaDoorShelf
import Derived.Test.YtjabpidmfgcamaaDoorCut
import Derived.Test.YtjabpidmfgcamaaDoorFwd
namespace Go.Proofs.YtjabpidmfgcamaaDoor
open Go.RowKit
set_option linter.unusedVariables false

theorem ret_txt {a b : ByteArray} (h : b = a) : Ending.returned (.string a) = .returned (.string b) := by rw [h]
theorem ne_txt (s : ByteArray) (h : ¬ s.size = 0) : ¬ s.toList = [] := by
  rw [ByteArray.toList_eq]
  intro e
  have h1 : s.data.toList.length = 0 := by rw [e]; rfl
  rw [Array.length_toList] at h1
  have h2 : s.data.size = s.size := rfl
  omega
theorem strings_join (w : World) (a : Option Addr) (n c : Nat) (S : Nat → ByteArray) (g : ByteArray) (h : Strs w a n S) (hc : n ≤ c) (h0 : n ≠ 0) (hn : n ≤ 1048576) (hs : (M.gapsTo g S n).size ≤ 140737488355328) :
    Calls Tryd.prog 30 #[.slice a n c, .string g] w fun e w' => e = .returned (.string (M.gapsTo g S n)) ∧ Below w.heap.size w w' := by
  obtain ⟨b, o, rfl, c0⟩ := h 0 (by omega)
  have hb := World.block_lt_of_cell? _ _ c0
  have hj := M.gapsTo_join g S n
  have hlen : (Lib.join (((List.range n).map S).map (·.data.toList)) g.data.toList).length ≤ 140737488355328 := by
    rw [← hj, Array.length_toList]
    exact hs
  have := Tryd.strings_Join b o c ((List.range n).map S) g w (fun j x hx => by
    rw [List.getElem?_map] at hx
    by_cases hjn : j < n
    · rw [List.getElem?_range hjn] at hx
      obtain ⟨b', o', e, c1⟩ := h j hjn
      cases e
      cases hx
      exact c1
    · rw [List.getElem?_eq_none (by simp; omega)] at hx
      cases hx) hb (by simp; omega) (by simpa using hc) hlen
  rw [← hj] at this
  simpa using this

theorem impl_joinItems (w : World) (a : Option Addr) (n c : Nat) (S : Nat → ByteArray) (h : Strs w a n S) (hc : n ≤ c) (hn : n ≤ 1048576) (hs : (M.gapsTo M.gap S n).size ≤ 140737488355328) :
    Calls Tryd.prog 14 #[.slice a n c] w fun e w' => e = .returned (.string (M.itemsOf S n)) ∧ Below w.heap.size w w' := by
  by_cases h0 : n = 0
  · subst h0
    have HD := Lib.hid (show M.itemsOf S 0 = ⟨#[45]⟩ from rfl)
    go_enter Tryd.func14, Tryd.ntmps14
    go_wp2
    go_ret
    exact ⟨ret_txt HD.out, Below.refl _ _⟩
  · have HD : Hid (M.itemsOf S n = M.gapsTo M.gap S n) := if_neg h0
    have HJ := Lib.hid (strings_join w a n c S M.gap h hc h0 hn hs)
    have h1 : ¬ (n : Int) = 0 := by omega
    have h2 : ((n : Int) == 0) = false := by rw [beq_eq_false_iff_ne]; omega
    have HG : Hid ((⟨#[32]⟩ : ByteArray) = M.gap) := rfl
    clear h hs
    go_enter Tryd.func14, Tryd.ntmps14
    go_wp2_with fail
    refine (HJ.out).mono ?_
    rintro e w1 ⟨rfl, hb⟩
    go_wp2
    go_ret
    exact ⟨ret_txt HD.out, hb⟩
end Go.Proofs.YtjabpidmfgcamaaDoor

/-
  The pairs of a text: each item cut at its first sign >.
-/
namespace Go.Proofs.YtjabpidmfgcamaaDoor
open Go.RowKit
open Go.PlainAid (bt get_bt bt_nonneg bt_le)
set_option linter.unusedVariables false

theorem Strs.onlyB {w w' : World} {a : Option Addr} {n : Nat} {S : Nat → ByteArray} {T : Nat → Prop} (h : Strs w a n S) (ho : Only w w' T) (hn : ∀ b o, a = some ⟨b, o, none⟩ → 0 < n → ¬ T b) : Strs w' a n S := by
  intro i hi
  obtain ⟨b, o, e, h1⟩ := h i hi
  have hl := h.lt e (by omega)
  exact ⟨b, o, e, (World.cell?_of_block (ho.block b hl (hn b o e (by omega)))).trans h1⟩
def M.prN (t : ByteArray) : Nat := (M.items t).length
def M.prF (t : ByteArray) (i : Nat) : ByteArray := M.cutL 62 (sC (M.items t) i)
def M.prT (t : ByteArray) (i : Nat) : ByteArray := M.cutR 62 (sC (M.items t) i)
theorem pr_fits {t : ByteArray} (ht : t.size ≤ 1048576) : FFits (M.prN t) (M.prF t) (M.prT t) := fun i hi => by
  have h := items_fit (t := t) i hi
  have h1 := M.cutL_size 62 (sC (M.items t) i)
  have h2 := M.cutR_size 62 (sC (M.items t) i)
  unfold M.prF M.prT maxLen
  omega
theorem pr_len {t : ByteArray} (ht : t.size ≤ 1048576) : M.prN t ≤ 1048577 := by
  have := items_len (t := t)
  unfold M.prN
  omega
theorem pr_dash : M.prN ⟨#[45]⟩ = 0 := by
  unfold M.prN M.items
  rw [if_pos rfl]
  rfl
theorem pr_text {t : ByteArray} (hd : t ≠ ⟨#[45]⟩) (h : ∀ i, i < M.prN t → 0 ≤ M.findB (sC (M.items t) i) 62) : M.itemsOf (M.pairT (M.prF t) (M.prT t)) (M.prN t) = t := by
  have e : M.items t = M.bparts 32 t := if_neg hd
  have h0 : M.prN t ≠ 0 := by
    unfold M.prN
    rw [e]
    have := M.bparts_pos 32 t
    omega
  unfold M.itemsOf
  rw [if_neg h0]
  have hn : M.prN t = (M.bparts 32 t).length := by unfold M.prN; rw [e]
  rw [hn]
  refine M.bparts_gaps 32 t _ fun i hi => ?_
  have h2 := M.cut_join (h i (by omega))
  show M.cutL 62 (sC (M.items t) i) ++ ⟨#[62]⟩ ++ M.cutR 62 (sC (M.items t) i) = _
  rw [h2, e, sC_at hi]
theorem pr_full {t : ByteArray} (h0 : 0 < M.prN t) (h : 0 ≤ M.findB (sC (M.items t) 0) 62) : t ≠ ⟨#[]⟩ := by
  intro e
  have h1 := items_fit (t := t) 0 h0
  rcases M.findB_cases (sC (M.items t) 0) 62 with h2 | ⟨i, h2, h3⟩
  · omega
  · have : t.size = 0 := by rw [e]; rfl
    omega
theorem pr_bare {t : ByteArray} {i : Nat} (h : M.findB (sC (M.items t) i) 62 < 0) : M.prT t i = ⟨#[]⟩ := M.cutR_none h
theorem pr_cut {t : ByteArray} {i k : Nat} (h : M.findB (sC (M.items t) i) 62 = (k : Int)) : (sC (M.items t) i).extract 0 k = M.prF t i ∧ (sC (M.items t) i).extract (k + 1) (sC (M.items t) i).size = M.prT t i := by
  unfold M.prF M.prT M.cutL M.cutR
  rw [if_neg (by omega), if_neg (by omega), h]
  exact ⟨rfl, rfl⟩
end Go.Proofs.YtjabpidmfgcamaaDoor
