/-
  The pairs of a text: each item cut at its first sign >.
-/
import Derived.Test.YtodnolefdapbdaaDoorCut
import Derived.Test.YtodnolefdapbdaaDoorFwd
namespace Go.Proofs.YtodnolefdapbdaaDoor
open Go.RowKit
open Go.PlainAid (bt get_bt bt_nonneg bt_le)
set_option linter.unusedVariables false

theorem Strs.onlyB {w w' : World} {a : Option Addr} {n : Nat} {S : Nat → ByteArray} {T : Nat → Prop} (h : Strs w a n S) (ho : Only w w' T) (hn : ∀ b o, a = some ⟨b, o, none⟩ → 0 < n → ¬ T b) : Strs w' a n S := by
  intro i hi
  obtain ⟨b, o, e, h1⟩ := h i hi
  have hl := h.lt e (by omega)
  exact ⟨b, o, e, (World.cell?_of_block (ho.block b hl (hn b o e (by omega)))).trans h1⟩
def M.prN (t : ByteArray) : Nat := (M.items t).length
def M.prF (t : ByteArray) (i : Nat) : ByteArray := M.cutL 62 (sC (M.items t) i)
def M.prT (t : ByteArray) (i : Nat) : ByteArray := M.cutR 62 (sC (M.items t) i)
theorem pr_fits {t : ByteArray} (ht : t.size ≤ 1048576) : FFits (M.prN t) (M.prF t) (M.prT t) := fun i hi => by
  have h := items_fit (t := t) i hi
  have h1 := M.cutL_size 62 (sC (M.items t) i)
  have h2 := M.cutR_size 62 (sC (M.items t) i)
  unfold M.prF M.prT maxLen
  omega
theorem pr_len {t : ByteArray} (ht : t.size ≤ 1048576) : M.prN t ≤ 1048577 := by
  have := items_len (t := t)
  unfold M.prN
  omega
theorem pr_dash : M.prN ⟨#[45]⟩ = 0 := by
  unfold M.prN M.items
  rw [if_pos rfl]
  rfl
theorem pr_text {t : ByteArray} (hd : t ≠ ⟨#[45]⟩) (h : ∀ i, i < M.prN t → 0 ≤ M.findB (sC (M.items t) i) 62) : M.itemsOf (M.pairT (M.prF t) (M.prT t)) (M.prN t) = t := by
  have e : M.items t = M.bparts 32 t := if_neg hd
  have h0 : M.prN t ≠ 0 := by
    unfold M.prN
    rw [e]
    have := M.bparts_pos 32 t
    omega
  unfold M.itemsOf
  rw [if_neg h0]
  have hn : M.prN t = (M.bparts 32 t).length := by unfold M.prN; rw [e]
  rw [hn]
  refine M.bparts_gaps 32 t _ fun i hi => ?_
  have h2 := M.cut_join (h i (by omega))
  show M.cutL 62 (sC (M.items t) i) ++ ⟨#[62]⟩ ++ M.cutR 62 (sC (M.items t) i) = _
  rw [h2, e, sC_at hi]
theorem pr_full {t : ByteArray} (h0 : 0 < M.prN t) (h : 0 ≤ M.findB (sC (M.items t) 0) 62) : t ≠ ⟨#[]⟩ := by
  intro e
  have h1 := items_fit (t := t) 0 h0
  rcases M.findB_cases (sC (M.items t) 0) 62 with h2 | ⟨i, h2, h3⟩
  · omega
  · have : t.size = 0 := by rw [e]; rfl
    omega
theorem pr_bare {t : ByteArray} {i : Nat} (h : M.findB (sC (M.items t) i) 62 < 0) : M.prT t i = ⟨#[]⟩ := M.cutR_none h
theorem pr_cut {t : ByteArray} {i k : Nat} (h : M.findB (sC (M.items t) i) 62 = (k : Int)) : (sC (M.items t) i).extract 0 k = M.prF t i ∧ (sC (M.items t) i).extract (k + 1) (sC (M.items t) i).size = M.prT t i := by
  unfold M.prF M.prT M.cutL M.cutR
  rw [if_neg (by omega), if_neg (by omega), h]
  exact ⟨rfl, rfl⟩
end Go.Proofs.YtodnolefdapbdaaDoor
