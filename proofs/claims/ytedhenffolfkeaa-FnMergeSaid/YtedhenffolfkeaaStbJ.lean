/-
  Two sorted parts merged: the whole, sorted. And a drawn batch as a row.
-/
import Derived.Test.YtedhenffolfkeaaMrgB
namespace Go.Proofs.Ytedhenffolfkeaa
open Go.RowKit
set_option linter.unusedVariables false

theorem sort_stable {pos : Int × ByteArray → Nat} {X : List (Int × ByteArray)} (hX : BatchL X) (hQ : X.Pairwise fun x y => ltL x y = false → ltL y x = false → pos x < pos y) : (sortS X).Pairwise (Sy.ss ltL pos) := by
  obtain ⟨pos', hpos, hp⟩ := exists_pos hX
  refine List.Pairwise.imp_of_mem (R := Sy.ss ltL pos') (fun {x y} hx hy h => ?_) (sortS_ss hX hp)
  rcases h with h | ⟨h1, h2⟩
  · exact Or.inl h
  · cases e : ltL x y
    · obtain ⟨i, hi, ei⟩ := List.getElem_of_mem ((sortS_perm hX).mem_iff.1 hx)
      obtain ⟨j, hj, ej⟩ := List.getElem_of_mem ((sortS_perm hX).mem_iff.1 hy)
      rw [← ei, ← ej, hpos i hi, hpos j hj] at h2
      have := List.pairwise_iff_getElem.1 hQ i j hi hj h2
      rw [ei, ej] at this
      exact Or.inr ⟨h1, this e h1⟩
    · exact Or.inl e
theorem BatchL.left {A B : List (Int × ByteArray)} (h : BatchL (A ++ B)) : BatchL A := by
  obtain ⟨h1, h2, h3⟩ := h
  rw [List.map_append] at h2
  rw [List.length_append] at h3
  exact ⟨fun x hx => h1 x (List.mem_append_left _ hx), (List.pairwise_append.1 h2).1, by omega⟩
theorem BatchL.right {A B : List (Int × ByteArray)} (h : BatchL (A ++ B)) : BatchL B := by
  obtain ⟨h1, h2, h3⟩ := h
  rw [List.map_append] at h2
  rw [List.length_append] at h3
  exact ⟨fun x hx => h1 x (List.mem_append_right _ hx), (List.pairwise_append.1 h2).2.1, by omega⟩
theorem both_batch {A B : List (Int × ByteArray)} (h : BatchL (A ++ B)) : BatchL (sortS A ++ sortS B) := h.perm ((sortS_perm h.left).append (sortS_perm h.right)).symm
/-- Sorting the parts and then both is sorting. -/
theorem sort_parts {A B : List (Int × ByteArray)} (h : BatchL (A ++ B)) : sortS (sortS A ++ sortS B) = sortS (A ++ B) := by
  obtain ⟨pos, _, hp⟩ := exists_pos h
  obtain ⟨p1, p2, p3⟩ := List.pairwise_append.1 hp
  have hq : ∀ {Y : List (Int × ByteArray)}, Y.Pairwise (Sy.ss ltL pos) → Y.Pairwise fun x y => ltL x y = false → ltL y x = false → pos x < pos y := fun hY => hY.imp fun {x y} h e1 e2 => by
    rcases h with h | h
    · rw [h] at e1; cases e1
    · exact h.2
  have h1 := sort_stable (pos := pos) (both_batch h) (List.pairwise_append.2 ⟨hq (sortS_ss h.left p1), hq (sortS_ss h.right p2), fun x hx y hy _ _ => p3 x ((sortS_perm h.left).mem_iff.1 hx) y ((sortS_perm h.right).mem_iff.1 hy)⟩)
  refine ss_one ?_ h1 (sortS_ss h hp)
  exact ((sortS_perm (both_batch h)).trans ((sortS_perm h.left).append (sortS_perm h.right))).trans (sortS_perm h).symm
/-- Two sorted parts can be merged. -/
theorem merge_parts {A B : List (Int × ByteArray)} (h : BatchL (A ++ B)) :
    M.mrgOk (sortS A).length (nI (sortS A)) (nC (sortS A)) (sortS B).length (nI (sortS B)) (nC (sortS B)) = true ∧ M.mrgL (sortS A).length (nI (sortS A)) (nC (sortS A)) (sortS B).length (nI (sortS B)) (nC (sortS B)) = sortS (A ++ B) := by
  have hok : M.mrgOk (sortS A).length (nI (sortS A)) (nC (sortS A)) (sortS B).length (nI (sortS B)) (nC (sortS B)) = true := by
    unfold M.mrgOk
    rw [sorted_true h.left, sorted_true h.right, lst_nI, lst_nI, (batch_list (by rw [List.length_append])).2 (both_batch h)]
    rfl
  refine ⟨hok, ?_⟩
  rw [mrgL_yes hok, lst_nI, lst_nI, sort_parts h]
def RowOnly (w : World) (e : Ending) (w' : World) : Prop := ∃ (v : Value) (base : Nat) (L : List (Int × ByteArray)), e = .returned v ∧ Row w' base v L ∧ L.length ≤ 61 ∧ FitsL L ∧ Below w.heap.size w w'
set_option maxHeartbeats 1000000 in
theorem DrawSortBatch_row (a : Option Addr) (l k : Nat) (z : List Int) (w : World) (h : IsRow .u8 w a l k z) :
    Calls Try.prog 11 #[.slice a l k] w (RowOnly w) := by
  go_enter Try.func11, Try.ntmps11
  go_wp2_with fail
  refine (open_any a l k z w h).mono ?_
  rintro e w1 ⟨r, rfl, rd1, b1, hwr⟩
  go_wp2_with fail
  refine (l2Open_any _ r _ rd1 (by omega)).mono ?_
  rintro e w2 ⟨base, v, L, rfl, hrb, R2, l2, S2, rd2, b2⟩
  have B2 := b1.trans (b2.mono hwr)
  have HFI : FitsL L := fun i hi => by
    have := S2.at i hi
    rw [nI_at hi, nC_at hi]
    exact ⟨by omega, by unfold maxLen; omega⟩
  clear b1 b2 rd1 h
  go_wp2
  go_ret
  exact ⟨_, base, L, rfl, R2, l2, HFI, B2⟩
/-- The first letters of a slice, and the others. -/
theorem lets_cut (w : World) (a : Option Addr) (n c k : Nat) (L : List (Int × ByteArray)) (hL : L.length = n) (hc : n ≤ c) (hk : k ≤ n) (hnil : a = none → n = 0 ∧ c = 0) (h : Lts w a n (nI L) (nC L)) :
    ∃ a', (∀ W, (Instr.slice 23 (.slice a n c) none (some (.int .i64 (k : Int))) none).run Try.prog W = .ok (.slice a k c) W) ∧ (∀ W, (Instr.slice 23 (.slice a n c) (some (.int .i64 (k : Int))) none none).run Try.prog W = .ok (.slice a' (n - k) (c - k)) W) ∧
      Lts w a k (nI (L.take k)) (nC (L.take k)) ∧ Lts w a' (n - k) (nI (L.drop k)) (nC (L.drop k)) := by
  have he : Try.prog.underlying 23 = some (.slice (Try.prog.elem 23)) := by kernel_rfl
  have hz : ∀ w, (sizeOf (Try.prog.elem 23)).run Try.prog w = .ok 2 w := fun w => by kernel_rfl
  have ht : ∀ i, i < k → nI L i = nI (L.take k) i ∧ nC L i = nC (L.take k) i := fun i hi => by
    unfold nI nC
    simp [List.getD, hi]
  have hd : ∀ i, nI (L.drop k) i = nI L (k + i) ∧ nC (L.drop k) i = nC L (k + i) := fun i => by
    unfold nI nC
    simp [List.getD]
  have h1 : Lts w a k (nI (L.take k)) (nC (L.take k)) := Lts.congr (fun i hi => h i (by omega)) ht
  cases a with
  | none =>
    obtain ⟨rfl, rfl⟩ := hnil rfl
    obtain rfl : k = 0 := by omega
    refine ⟨none, fun W => ?_, fun W => ?_, h1, fun i hi => absurd hi (by omega)⟩
    · rw [run_slice_h W _ _ _ _ he .i64 ((0 : Nat) : Int) (by omega) (by omega), hz]
      simp [sliced, Result.andThen]
    · rw [run_slice_l W _ _ _ _ he .i64 ((0 : Nat) : Int) (by omega) (by omega), hz]
      simp [sliced, Result.andThen]
  | some p =>
    have hb : ∃ b o, p = ⟨b, o, none⟩ ∨ n = 0 := by
      by_cases h0 : n = 0
      · exact ⟨0, 0, Or.inr h0⟩
      · obtain ⟨b, o, e, _⟩ := h 0 (by omega)
        exact ⟨b, o, Or.inl (Option.some.inj e)⟩
    have hkn : ((k : Int)).toNat = k := by omega
    by_cases hck : c = k
    · refine ⟨some p, fun W => ?_, fun W => ?_, h1, fun i hi => absurd hi (by omega)⟩
      · rw [run_slice_h W _ _ _ _ he .i64 (k : Int) (by omega) (by omega), hz]
        simp [sliced, Result.andThen, Addr.add]
      · rw [run_slice_l W _ _ _ _ he .i64 (k : Int) (by omega) (by omega), hz]
        simp [sliced, Result.andThen, hck]
    · obtain ⟨b, o, hb⟩ := hb
      rcases hb with rfl | h0
      · refine ⟨some ⟨b, o + k * 2, none⟩, fun W => ?_, fun W => ?_, h1, fun i hi => ?_⟩
        · rw [run_slice_h W _ _ _ _ he .i64 (k : Int) (by omega) (by omega), hz]
          simp [sliced, Result.andThen, Addr.add]
        · rw [run_slice_l W _ _ _ _ he .i64 (k : Int) (by omega) (by omega), hz]
          simp [sliced, Result.andThen, Addr.add, hck]
        · obtain ⟨b', o', e, c0, c1⟩ := h (k + i) (by omega)
          cases e
          rw [(hd i).1, (hd i).2]
          refine ⟨b, o + k * 2, rfl, ?_, ?_⟩
          · rw [show o + k * 2 + i * 2 = o + (k + i) * 2 by omega]; exact c0
          · rw [show o + k * 2 + i * 2 + 1 = o + (k + i) * 2 + 1 by omega]; exact c1
      · subst h0
        obtain rfl : k = 0 := by omega
        refine ⟨some p, fun W => ?_, fun W => ?_, h1, fun i hi => absurd hi (by omega)⟩
        · rw [run_slice_h W _ _ _ _ he .i64 ((0 : Nat) : Int) (by omega) (by omega), hz]
          simp [sliced, Result.andThen, Addr.add]
        · rw [run_slice_l W _ _ _ _ he .i64 ((0 : Nat) : Int) (by omega) (by omega), hz]
          cases p
          simp [sliced, Result.andThen, Addr.add]
end Go.Proofs.Ytedhenffolfkeaa
