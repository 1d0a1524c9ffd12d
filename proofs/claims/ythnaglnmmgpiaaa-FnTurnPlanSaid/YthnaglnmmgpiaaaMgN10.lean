/-
  Where a letter stands; whether two batches have the same letters in any order.
-/
import Derived.Test.YthnaglnmmgpiaaaMgN2
import Derived.Test.YthnaglnmmgpiaaaMgN9
import Derived.Test.YthnaglnmmgpiaaaMgN3
import Derived.BigQuiet
import Derived.Test.YthnaglnmmgpiaaaMgN7
import Derived.Test.YthnaglnmmgpiaaaRun
import Derived.Deep.RegionHeld3
namespace Go.Proofs.Ythnaglnmmgpiaaa
open Go.RowKit
set_option linter.unusedVariables false

/-- Where a letter of a batch stands. -/
theorem find_at {L : List (Int × ByteArray)} (h : BatchL L) {k : Nat} (hk : k < L.length) : M.findLetter L.length (nI L) (nC L) (nI L k) = (k : Int) := by
  rw [M.findLetter_yes ((batchL_list L).2 h)]
  refine M.find_hit hk rfl fun j hj e => ?_
  have hd := (List.pairwise_map.1 h.2.1)
  have := List.pairwise_iff_getElem.1 hd j k (by omega) hk hj
  rw [nI_at (by omega), nI_at hk] at e
  exact this e
end Go.Proofs.Ythnaglnmmgpiaaa

/-
  Letters of the same point stay in the order in which they were; the round of a plan by the law's own call.
-/
namespace Go.Proofs.Ythnaglnmmgpiaaa
open Go.RowKit
set_option linter.unusedVariables false

theorem two_sub {α : Type} {x y : α} : ∀ {L : List α}, [x, y].Sublist L → ∃ k1 k2, k1 < k2 ∧ ∃ (h1 : k1 < L.length) (h2 : k2 < L.length), L[k1] = x ∧ L[k2] = y
  | [], h => by simp at h
  | z :: L, h => by
    rcases List.sublist_cons_iff.1 h with h | ⟨t, e, h⟩
    · obtain ⟨k1, k2, hk, h1, h2, e1, e2⟩ := two_sub h
      exact ⟨k1 + 1, k2 + 1, by omega, by simpa using h1, by simpa using h2, by simpa using e1, by simpa using e2⟩
    · injection e with e1 e2
      subst e1 e2
      obtain ⟨k, hk, he⟩ := List.getElem_of_mem (h.subset List.mem_cons_self)
      exact ⟨0, k + 1, by omega, by simp, by simpa using hk, by simp, by simpa using he⟩
theorem next_sub {α : Type} {L : List α} {i : Nat} (hi : i + 1 < L.length) : [L[i], L[i + 1]].Sublist L := by
  have e1 : L.drop i = L[i] :: L.drop (i + 1) := (List.getElem_cons_drop (by omega)).symm
  have e2 : L.drop (i + 1) = L[i + 1] :: L.drop (i + 1 + 1) := (List.getElem_cons_drop hi).symm
  have h : [L[i], L[i + 1]].Sublist (L.drop i) := by
    rw [e1, e2]
    exact ((List.nil_sublist _).cons_cons _).cons_cons _
  exact h.trans (List.drop_sublist _ _)
/-- Two letters side by side with the same code stand in the batch in the same order. -/
theorem srt_stable {n : Nat} {S : Nat → ByteArray} {L : List (Int × ByteArray)} (hb : BatchL L) {i : Nat} (hi : i + 1 < (srt n S L).length) (hc : nC (srt n S L) (i + 1) = nC (srt n S L) i) :
    ∃ k1 k2 : Nat, k1 < k2 ∧ k2 < L.length ∧ M.findLetter L.length (nI L) (nC L) (nI (srt n S L) i) = (k1 : Int) ∧ M.findLetter L.length (nI L) (nC L) (nI (srt n S L) (i + 1)) = (k2 : Int) := by
  rw [nC_at hi, nC_at (by omega)] at hc
  have h1 := next_sub hi
  have hr := (srt_asc n S L).2
  have r1 := hr _ (List.getElem_mem (show i < (srt n S L).length by omega))
  have r2 := hr _ (List.getElem_mem hi)
  have hv : rkN n S (srt n S L)[i + 1] = rkN n S (srt n S L)[i] := by unfold rkN; rw [hc]
  have h2 := h1.filter fun y => hasR n S y && rkN n S y == rkN n S (srt n S L)[i]
  rw [srt_bucket] at h2
  have h3 : ([(srt n S L)[i], (srt n S L)[i + 1]].filter fun y => hasR n S y && rkN n S y == rkN n S (srt n S L)[i]) = [(srt n S L)[i], (srt n S L)[i + 1]] := by
    rw [List.filter_eq_self]
    intro y hy
    rcases List.mem_cons.1 hy with rfl | hy
    · rw [r1]; simp
    · rw [List.mem_singleton.1 hy, r2, hv]; simp
  rw [h3] at h2
  obtain ⟨k1, k2, hk, l1, l2, e1, e2⟩ := two_sub (h2.trans List.filter_sublist)
  refine ⟨k1, k2, hk, l2, ?_, ?_⟩
  · rw [← find_at hb l1, nI_at l1, e1, nI_at (by omega)]
  · rw [← find_at hb l2, nI_at l2, e2, nI_at hi]
set_option maxHeartbeats 1000000 in
theorem soRun_any (w : World) (b p : Int) (a : Option Addr) (n c : Nat) (S : Nat → ByteArray) (h : Strs w a n S) (hf : SFits n S) (hn : n ≤ 1048576) (a2 : Option Addr) (m c2 : Nat) (I : Nat → Int) (C : Nat → ByteArray) (h2 : Lts w a2 m I C) (hf2 : Fits m I C) (hm : m ≤ 1048576) :
    Calls Try.prog 11 #[.agg #[.int .i64 b, .int .i64 p, .slice a n c], .slice a2 m c2] w fun e w' => ∃ v, e = .returned v ∧ Row w' w.heap.size v (runList b p n S m I C) ∧ Below w.heap.size w w' := by
  have b0 := below_alloc0 w (.cells #[.int .i64 b, .int .i64 p, .slice a n c] 25)
  have HS := Lib.hid (h.on b0)
  have HL := Lib.hid (h2.on b0)
  have X := Lib.hid (tri_made w (.int .i64 b) (.int .i64 p) (.slice a n c) 25)
  have HB := Lib.hid b0
  obtain ⟨W, hW⟩ : ∃ W, w.alloc (.cells #[.int .i64 b, .int .i64 p, .slice a n c] 25) = W := ⟨_, rfl⟩
  rw [hW] at HS HL X HB
  have HW := Lib.hid hW
  have hz : Hid (W.heap.size = w.heap.size + 1) := by rw [← hW]; simp [Hid]
  clear h h2 b0 hW
  obtain ⟨⟨d0, d1, d2⟩, g0, g1, g2⟩ := X.out
  go_enter Try.func11, Try.ntmps11
  go_wp2_with fail
  rw [HW.out]
  refine (impl_RunPlan W b p a n c S HS.out hf hn a2 m c2 I C HL.out hf2 hm).mono ?_
  rintro e w1 ⟨p1, p2, rfl, r1, r2, _, k1⟩
  have R1 := Lib.hid (r1.lower (base' := w.heap.size) (by have := hz.out; omega))
  have K1 := Lib.hid (sstep HB.out k1)
  clear r1 r2 k1 d0 d1 d2 g0 g1 g2
  go_wp2
  go_ret
  exact ⟨_, rfl, R1.out, K1.out⟩
end Go.Proofs.Ythnaglnmmgpiaaa
