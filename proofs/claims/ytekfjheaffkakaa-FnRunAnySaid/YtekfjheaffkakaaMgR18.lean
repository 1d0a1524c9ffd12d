/-
  The passes do not mind an exchange of neighbors with different codes, nor sorting by codes ahead of them. No program is named here.
-/
import Derived.Test.YtekfjheaffkakaaMgR16
import Derived.Test.YtekfjheaffkakaaStbL
import Derived.Test.YtekfjheaffkakaaDrawB
import Derived.Test.YtekfjheaffkakaaMgR19
import Derived.Test.YtekfjheaffkakaaMgR15
import Derived.Test.YtekfjheaffkakaaMgR10
namespace Go.Proofs.Ytekfjheaffkakaa
open Go.RowKit
set_option linter.unusedVariables false

/-- In the bucket of a rank all codes are the same. -/
theorem bucket_code {n : Nat} {S : Nat → ByteArray} {v : Nat} {x : Int × ByteArray} (h : (hasR n S x && rkN n S x == v) = true) : S v = x.2 := by
  rw [Bool.and_eq_true] at h
  have h1 := M.rank_at (of_decide_eq_true h.1)
  have h2 : rkN n S x = v := eq_of_beq h.2
  unfold rkN at h2
  rw [h2] at h1
  exact h1
/-- Two lists that agree in each bucket give the same letters in the order of the round. -/
theorem srt_same {n : Nat} {S : Nat → ByteArray} {L R : List (Int × ByteArray)} (h : ∀ v, (L.filter fun y => hasR n S y && rkN n S y == v) = R.filter fun y => hasR n S y && rkN n S y == v) : srt n S L = srt n S R := M.flat_congr fun v _ => h v
/-- Sorting by codes keeps the letters of each bucket as they stood. -/
theorem srt_sorted {n : Nat} {S : Nat → ByteArray} {L : List (Int × ByteArray)} (h : BatchL L) : srt n S (sortS L) = srt n S L := by
  obtain ⟨pos, _, hp⟩ := exists_pos h
  refine srt_same fun v => ?_
  refine ss_one (pos := pos) ((sortS_perm h).filter _) ((sortS_ss h hp).sublist List.filter_sublist) ?_
  rw [List.pairwise_filter]
  refine hp.imp fun {x y} hxy hx hy => Or.inr ⟨?_, hxy⟩
  have e : x.2 = y.2 := (bucket_code hx).symm.trans (bucket_code hy)
  show M.less y.2 x.2 = false
  rw [e]
  exact bl_irr _
/-- What the law's exchanges keep: each bucket, and the letters as a whole. -/
def Same (n : Nat) (S : Nat → ByteArray) (L X : List (Int × ByteArray)) : Prop := X.Perm L ∧ ∀ v, (X.filter fun y => hasR n S y && rkN n S y == v) = L.filter fun y => hasR n S y && rkN n S y == v
theorem Same.refl (n : Nat) (S : Nat → ByteArray) (L : List (Int × ByteArray)) : Same n S L L := ⟨List.Perm.refl _, fun _ => rfl⟩
theorem two_set {α : Type} {X : List α} {i : Nat} (hi : i + 1 < X.length) : X = X.take i ++ (X[i] :: X[i + 1] :: X.drop (i + 2)) ∧ (X.set (i + 1) X[i]).set i X[i + 1] = X.take i ++ (X[i + 1] :: X[i] :: X.drop (i + 2)) := by
  have e1 : X = X.take i ++ (X[i] :: X[i + 1] :: X.drop (i + 2)) := by
    conv => lhs; rw [← List.take_append_drop i X]
    rw [List.drop_eq_getElem_cons (show i < X.length by omega), List.drop_eq_getElem_cons hi]
  refine ⟨e1, ?_⟩
  have hl : (X.take i).length = i := by rw [List.length_take]; omega
  generalize hA : X.take i = A at e1 hl ⊢
  generalize hB : X.drop (i + 2) = B at e1 ⊢
  generalize X[i] = a at e1 ⊢
  generalize X[i + 1] = b at e1 ⊢
  subst e1
  rw [List.set_append_right _ _ (by omega), hl, show i + 1 - i = 1 by omega]
  rw [List.set_append_right _ _ (by omega), hl, Nat.sub_self]
  rfl
theorem Same.swap {n : Nat} {S : Nat → ByteArray} {L X : List (Int × ByteArray)} (h : Same n S L X) {i : Nat} (hi : i + 1 < X.length) (hc : X[i + 1].2 ≠ X[i].2) : Same n S L ((X.set (i + 1) X[i]).set i X[i + 1]) := by
  obtain ⟨e1, e2⟩ := two_set hi
  rw [e2]
  generalize hA : X.take i = A at e1 e2 ⊢
  generalize hB : X.drop (i + 2) = B at e1 e2 ⊢
  generalize X[i] = a at e1 e2 hc ⊢
  generalize X[i + 1] = b at e1 e2 hc ⊢
  refine ⟨?_, fun v => ?_⟩
  · have : (A ++ (b :: a :: B)).Perm (A ++ (a :: b :: B)) := (List.Perm.swap a b B).append_left A
    rw [← e1] at this
    exact this.trans h.1
  · rw [← h.2 v, e1, List.filter_append, List.filter_append, List.filter_cons, List.filter_cons, List.filter_cons, List.filter_cons]
    congr 1
    cases ha : (hasR n S a && rkN n S a == v) <;> cases hb : (hasR n S b && rkN n S b == v)
    · rfl
    · rfl
    · rfl
    · exact absurd ((bucket_code hb).symm.trans (bucket_code ha)) hc
theorem Same.swap2 {n : Nat} {S : Nat → ByteArray} {L X : List (Int × ByteArray)} (h : Same n S L X) {i j : Nat} (hij : i + 1 = j) (hj : j < X.length) (hi : i < X.length) {P Q : Int × ByteArray} (hP : X[j] = P) (hQ : X[i] = Q) (hc : P.2 ≠ Q.2) : Same n S L ((X.set j Q).set i P) := by
  subst hij
  subst hP
  subst hQ
  exact h.swap hj hc
theorem Same.srt {n : Nat} {S : Nat → ByteArray} {L X : List (Int × ByteArray)} (h : Same n S L X) : srt n S X = srt n S L := srt_same h.2
theorem Same.len {n : Nat} {S : Nat → ByteArray} {L X : List (Int × ByteArray)} (h : Same n S L X) : X.length = L.length := h.1.length_eq
theorem run_srt2 {b p : Int} {n : Nat} {S : Nat → ByteArray} {L : List (Int × ByteArray)} (hp : M.plan b p n S = true) (hL : BatchL L) : runList b p n S L.length (nI L) (nC L) = srt n S L := by
  have h : runOk b p n S L.length (nI L) (nC L) = true := by
    unfold runOk
    rw [hp, (batchL_list _).2 hL]
    rfl
  have := runList_srt h
  rw [lst_nI] at this
  exact this
/-- A whole letter is written. -/
theorem Row.both {w : World} {base g c : Nat} {L : List (Int × ByteArray)} (h : Row w base (.slice (some ⟨g, 0, none⟩) L.length c) L) (j : Nat) (hj : j < L.length) (x : Int × ByteArray) :
    Row ((w.setCell ⟨g, j * 2, none⟩ (.int .i64 x.1)).setCell ⟨g, j * 2 + 1, none⟩ (.string x.2)) base (.slice (some ⟨g, 0, none⟩) L.length c) (L.set j x) := by
  have h1 := (h.id j hj x.1).1
  have hl : (L.set j (x.1, L[j].2)).length = L.length := List.length_set
  have h2 := (Row.code (L := L.set j (x.1, L[j].2)) (by rw [hl]; exact h1) j (by rw [hl]; exact hj) x.2).1
  have e : (L.set j (x.1, L[j].2)).set j ((L.set j (x.1, L[j].2))[j]'(by rw [hl]; exact hj) |>.1, x.2) = L.set j x := by simp
  rw [e] at h2
  rw [hl] at h2
  exact h2
theorem held_three {w w' : World} {P : Nat} {x y z : Value} (h : w.cell? ⟨P, 0, none⟩ = some x ∧ w.cell? ⟨P, 1, none⟩ = some y ∧ w.cell? ⟨P, 2, none⟩ = some z) (hb : Below w.heap.size w w') (hP : P < w.heap.size) : w'.cell? ⟨P, 0, none⟩ = some x ∧ w'.cell? ⟨P, 1, none⟩ = some y ∧ w'.cell? ⟨P, 2, none⟩ = some z :=
  ⟨(hb.cell (p := ⟨P, 0, none⟩) hP).trans h.1, (hb.cell (p := ⟨P, 1, none⟩) hP).trans h.2.1, (hb.cell (p := ⟨P, 2, none⟩) hP).trans h.2.2⟩
end Go.Proofs.Ytekfjheaffkakaa

/-
  Sorted letters: side by side, sorted again; the drawn batches of sorting; the law's own sorting.
-/
namespace Go.Proofs.Ytekfjheaffkakaa
open Go.RowKit
set_option linter.unusedVariables false

theorem asc_list {R : List (Int × ByteArray)} (h : R.Pairwise fun x y => ltL y x = false) : ∀ m, m ≤ R.length → M.asc (nC R) m = true
  | 0, _ => rfl
  | 1, _ => rfl
  | m + 2, hm => by
    refine M.asc_succ (asc_list h (m + 1) (by omega)) ?_
    have := List.pairwise_iff_getElem.1 h m (m + 1) (by omega) (by omega) (by omega)
    rw [nC_at (by omega : m + 1 < R.length), nC_at (by omega : m < R.length)]
    exact this
theorem sortS_asc {R : List (Int × ByteArray)} (hR : BatchL R) (h : R.Pairwise fun x y => ltL y x = false) : sortS R = R := by
  obtain ⟨pos, _, hp⟩ := exists_pos hR
  exact ss_one (sortS_perm hR) (sortS_ss hR hp) ((h.and hp).imp fun h => Or.inr h)
theorem sorted_pw {L : List (Int × ByteArray)} (hL : BatchL L) : (sortS L).Pairwise fun x y => ltL y x = false := by
  obtain ⟨pos, _, hp⟩ := exists_pos hL
  exact (sortS_ss hL hp).imp fun h => Sy.ss_not (ltL_ord pos) h
theorem sorted_batch {L : List (Int × ByteArray)} (hL : BatchL L) : BatchL (sortS L) := hL.perm (sortS_perm hL).symm
theorem sortS_twice {L : List (Int × ByteArray)} (hL : BatchL L) : sortS (sortS L) = sortS L := sortS_asc (sorted_batch hL) (sorted_pw hL)
theorem sorted_true {L : List (Int × ByteArray)} (hL : BatchL L) : M.sorted (sortS L).length (nI (sortS L)) (nC (sortS L)) = true := by
  rw [M.sorted_yes ((batchL_list _).2 (sorted_batch hL))]
  exact asc_list (sorted_pw hL) _ (Nat.le_refl _)
/-- Two sorted letters side by side. -/
theorem sorted_next {L : List (Int × ByteArray)} (hL : BatchL L) {R : List (Int × ByteArray)} (hR : sortS L = R) {i : Nat} (hi : i + 1 < R.length) :
    M.less (nC R (i + 1)) (nC R i) = false ∧ (nC R (i + 1) = nC R i → ∃ k1 k2 : Nat, k1 < k2 ∧ M.findLetter L.length (nI L) (nC L) (nI R i) = (k1 : Int) ∧ M.findLetter L.length (nI L) (nC L) (nI R (i + 1)) = (k2 : Int)) := by
  subst hR
  obtain ⟨pos, hpos, hp⟩ := exists_pos hL
  have hs := List.pairwise_iff_getElem.1 (sortS_ss hL hp) i (i + 1) (by omega) hi (by omega)
  have hi0 : i < (sortS L).length := by omega
  rw [nC_at hi, nC_at hi0]
  refine ⟨Sy.ss_not (ltL_ord pos) hs, fun e => ?_⟩
  rcases hs with hs | ⟨_, hs⟩
  · have : M.less (sortS L)[i].2 (sortS L)[i + 1].2 = true := hs
    rw [e] at this
    exact absurd this (by rw [show M.less (sortS L)[i].2 (sortS L)[i].2 = false from bl_irr _]; decide)
  · obtain ⟨k1, h1, e1⟩ := List.getElem_of_mem ((sortS_perm hL).mem_iff.1 (List.getElem_mem hi0))
    obtain ⟨k2, h2, e2⟩ := List.getElem_of_mem ((sortS_perm hL).mem_iff.1 (List.getElem_mem hi))
    rw [← e1, ← e2, hpos k1 h1, hpos k2 h2] at hs
    refine ⟨k1, k2, hs, ?_, ?_⟩
    · rw [← find_at hL h1, nI_at h1, e1, nI_at hi0]
    · rw [← find_at hL h2, nI_at h2, e2, nI_at hi]
set_option maxHeartbeats 1000000 in
theorem soSorted_any (w : World) (a : Option Addr) (n c : Nat) (I : Nat → Int) (C : Nat → ByteArray) (h : Lts w a n I C) (hf : Fits n I C) :
    Calls Try.prog 9 #[.slice a n c] w (RowOut w (M.sortL n I C)) := by
  have HS := Lib.hid (impl_SortBatch w a n c I C h hf)
  generalize M.batch n I C = ok at HS
  generalize M.sortL n I C = LL at HS ⊢
  clear h hf
  go_enter Try.func9, Try.ntmps9
  go_wp2_with fail
  refine HS.out.mono ?_
  rintro e w1 ⟨v, rfl, r1, b1⟩
  obtain ⟨a2, c2, rfl, _, _⟩ := r1.form
  go_wp2
  go_ret
  exact ⟨_, rfl, r1, b1⟩
end Go.Proofs.Ytekfjheaffkakaa
