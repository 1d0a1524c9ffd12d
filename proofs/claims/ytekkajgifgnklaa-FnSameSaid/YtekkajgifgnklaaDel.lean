/-
  Orders without those for one code: in the program's library and in the model.
-/
import Derived.Test.YtekkajgifgnklaaMgA4
import Derived.Test.YtekkajgifgnklaaFCat
import Derived.Test.YtekkajgifgnklaaNext
import Derived.Lib.SliceRun
namespace Go.Proofs.Ytekkajgifgnklaa
open Go.RowKit Go.Maps
open Go.PlainAid (bt get_bt bt_nonneg bt_le)
set_option linter.unusedVariables false

def FRowOut (w : World) (L : List (ByteArray × ByteArray)) (e : Ending) (w' : World) : Prop := ∃ v, e = .returned v ∧ FRow w' w.heap.size v L ∧ Below w.heap.size w w'
theorem fcells_take : ∀ (k : Nat) (A : List (ByteArray × ByteArray)), fcells (A.take k) = (fcells A).take (k * 2)
  | 0, _ => by simp [fcells]
  | k + 1, [] => by simp [fcells]
  | k + 1, x :: A => by
    have e1 : (k + 1) * 2 = k * 2 + 1 + 1 := by omega
    rw [e1]
    show _ :: _ :: fcells (A.take k) = _ :: _ :: (fcells A).take (k * 2)
    rw [fcells_take k A]
/-- The cells past the orders that stay are cleared. -/
theorem clear_rest (w : World) (base g n c k : Nat) (A : List (ByteArray × ByteArray)) (h : w.ownsRow base 45 2 (.slice (some ⟨g, 0, none⟩) n c) n (fcells A)) (hA : A.length = n) (hk : k < n) :
    ∃ w', (∀ ty, (Builtin.clear_ #[23] ty #[.slice (some ⟨g, k * 2, none⟩) (n - k) (c - k)]).run Try.prog w = .ok (.tuple #[]) w') ∧ FRow w' base (.slice (some ⟨g, 0, none⟩) k c) (A.take k) ∧ w.grownBy w' (some g) := by
  obtain ⟨hlen, h2⟩ := h
  rcases h2 with ⟨e, _⟩ | ⟨g', cap, cur, e, hb, hg, hnc, hcm, hcs, htk⟩
  · cases e
  · injection e with e1 e2 e3
    injection e1 with e1
    injection e1 with e1
    subst e1 e3
    have hv : ∀ w, (zeroValue 45).run Try.prog w = .ok (.agg #[.string ⟨#[]⟩, .string ⟨#[]⟩]) w := fun w => by kernel_rfl
    obtain ⟨zs, hzs⟩ : ∃ zs, (Builtin.zeroCells #[.string ⟨#[]⟩, .string ⟨#[]⟩] (n - k)).toList = zs := ⟨_, rfl⟩
    have hzl : zs.length = (n - k) * 2 := by rw [← hzs, Array.length_toList, size_zeroCells]; rfl
    have hz1 : ∀ v ∈ zs, v.oneCell' = true := by
      intro v hv'
      rw [← hzs] at hv'
      obtain ⟨i, hi, rfl⟩ := List.getElem_of_mem hv'
      simp only [Builtin.zeroCells, Array.getElem_toList, Array.getElem_map, Array.getElem_range]
      have : i % 2 = 0 ∨ i % 2 = 1 := by omega
      rcases this with e | e <;> simp [e, Value.oneCell']
    have hst := run_storeCells_at (P := Try.prog) g (k * 2) 45 zs 0 cur w hg (by omega) hz1
    refine ⟨w.setRow g (cur.toList.take (k * 2 + 0) ++ zs ++ cur.toList.drop (k * 2 + 0 + zs.length)).toArray, fun ty => ?_, ?_, ?_⟩
    · obtain ⟨m, hm⟩ : ∃ m, n - k = m + 1 := ⟨n - k - 1, by omega⟩
      rw [hm] at hzs ⊢
      simp [Builtin.clear_, run_underlying Try.underlying23, hv, Value.cells, hzs, hst]
    · have hl : (A.take k).length = k := by rw [List.length_take]; omega
      refine ⟨by rw [fcells_length], Or.inr ⟨g, c, _, ?_, hb, setRow_heap w g cur _ 45 _ hg, ?_, hcm, ?_, ?_⟩⟩
      · rw [hl]
      · rw [hl]; omega
      · simp; omega
      · rw [hl, List.toList_toArray, fcells_take, ← htk, Nat.add_zero, List.append_assoc, List.take_append_of_le_length (by simp; omega), List.take_take, List.take_take]
        congr 1
        omega
    · exact ⟨rfl, rfl, rfl, by simp, fun q _ hq => setRow_other w g q _ (fun e => hq (by simp [e]))⟩
end Go.Proofs.Ytekkajgifgnklaa
