/-
  Forwarded letters: where each of them stands, and that forwarding them again changes nothing. No program is named here.
-/
import Derived.Test.YtekkajgifgnklaaFBatch
import Derived.Test.YtekkajgifgnklaaDirE
import Derived.Test.YtekkajgifgnklaaMgA8
import Derived.Test.YtekkajgifgnklaaMgA9
namespace Go.Proofs.Ytekkajgifgnklaa
set_option linter.unusedVariables false

theorem sent_at {g : ByteArray → Option ByteArray} {I : Nat → Int} {C : Nat → ByteArray} {j n : Nat} {d : ByteArray} (hj : j < n) (h : g (C j) = some d) :
    (M.sentL g (M.lst I C j)).length < (M.sentL g (M.lst I C n)).length ∧ nI (M.sentL g (M.lst I C n)) (M.sentL g (M.lst I C j)).length = I j ∧ nC (M.sentL g (M.lst I C n)) (M.sentL g (M.lst I C j)).length = d := by
  obtain ⟨R, hR⟩ := lst_cut I C j n hj
  have e : M.sentL g (M.lst I C n) = M.sentL g (M.lst I C j) ++ (I j, d) :: M.sentL g R := by
    rw [hR]; unfold M.sentL; rw [List.filterMap_append, List.filterMap_cons]; simp [h]
  rw [e]
  refine ⟨by simp, ?_, ?_⟩
  · rw [nI_at (by simp)]; simp
  · rw [nC_at (by simp)]; simp
theorem sent_mem {g : ByteArray → Option ByteArray} {L : List (Int × ByteArray)} {p : Int × ByteArray} (h : p ∈ M.sentL g L) : ∃ x ∈ L, x.1 = p.1 ∧ g x.2 = some p.2 := by
  unfold M.sentL at h
  obtain ⟨x, hx, e⟩ := List.mem_filterMap.1 h
  cases hg : g x.2 with
  | none => rw [hg] at e; cases e
  | some d =>
    rw [hg] at e
    have e2 : (x.1, d) = p := Option.some.inj e
    subst e2
    exact ⟨x, hx, rfl, hg⟩
theorem sent_ids {g : ByteArray → Option ByteArray} : ∀ L : List (Int × ByteArray), ((M.sentL g L).map Prod.fst).Sublist (L.map Prod.fst)
  | [] => List.Sublist.slnil
  | x :: L => by
    have ih := sent_ids (g := g) L
    unfold M.sentL at ih ⊢
    rw [List.filterMap_cons, List.map_cons]
    cases hg : g x.2 with
    | none => exact ih.trans (List.sublist_cons_self _ _)
    | some d =>
      show ((x.1, d) :: _ : List (Int × ByteArray)).map Prod.fst |>.Sublist _
      rw [List.map_cons]
      exact ih.cons_cons _
theorem sent_batch {g : ByteArray → Option ByteArray} {L : List (Int × ByteArray)} (h : BatchL L) (hg : ∀ x ∈ L, ∀ d, g x.2 = some d → M.code d = true) : BatchL (M.sentL g L) := by
  refine ⟨fun p hp => ?_, List.Pairwise.sublist (sent_ids L) h.2.1, ?_⟩
  · obtain ⟨x, hx, e1, e2⟩ := sent_mem hp
    rw [← e1]
    exact ⟨hg x hx _ e2, (h.1 x hx).2⟩
  · exact Nat.le_trans (List.length_filterMap_le _ _) h.2.2
theorem stuck_batch {g : ByteArray → Option ByteArray} {L : List (Int × ByteArray)} (h : BatchL L) : BatchL (M.stuckL g L) :=
  ⟨fun p hp => h.1 p (List.mem_filter.1 hp).1, List.Pairwise.sublist (List.filter_sublist.map _) h.2.1, Nat.le_trans (List.length_filter_le _ _) h.2.2⟩
theorem sent_len {g : ByteArray → Option ByteArray} : ∀ L : List (Int × ByteArray), (M.sentL g L).length + (M.stuckL g L).length = L.length
  | [] => rfl
  | x :: L => by
    have ih := sent_len (g := g) L
    unfold M.sentL M.stuckL at ih ⊢
    rw [List.filterMap_cons, List.filter_cons]
    cases hg : g x.2 with
    | none => simp; omega
    | some d => simp; omega
theorem sent_again {g : ByteArray → Option ByteArray} : ∀ X : List (Int × ByteArray), (∀ p ∈ X, g p.2 = some p.2) → M.sentL g X = X ∧ M.stuckL g X = []
  | [], _ => ⟨rfl, rfl⟩
  | x :: X, h => by
    obtain ⟨h1, h2⟩ := sent_again (g := g) X (fun p hp => h p (List.mem_cons_of_mem _ hp))
    have hx := h x List.mem_cons_self
    unfold M.sentL at h1
    unfold M.stuckL at h2
    constructor
    · show List.filterMap _ _ = _
      rw [List.filterMap_cons, hx]
      simp [h1]
    · show List.filter _ _ = _
      rw [List.filter_cons, hx]
      simp [h2]
theorem next_free {F T : Nat → ByteArray} {n : Nat} {c : ByteArray} (h : M.nextOf F T n c = none) : ∀ j, j < n → F j ≠ c := by
  rcases M.rank_cases F c n with ⟨_, h1⟩ | ⟨k, _, _, _, hr⟩
  · exact h1
  · rw [M.nextOf_some hr] at h; cases h
theorem direct_free {F T : Nat → ByteArray} {n : Nat} (h : M.fwd n F T = true) {c : ByteArray} (hc : M.nextOf F T n c = none) :
    M.nextOf (nF (M.direct F T n)) (nT (M.direct F T n)) (M.direct F T n).length c = none := by
  cases e : M.nextOf (nF (M.direct F T n)) (nT (M.direct F T n)) (M.direct F T n).length c with
  | none => rfl
  | some d =>
    obtain ⟨k, hk, e1, _⟩ := M.nextOf_at e
    have hm := List.getElem_mem hk
    obtain ⟨_, i, hi, e2⟩ := (M.direct_mem h).1 hm
    rw [nF_at hk] at e1
    exact absurd (e2.trans e1) (next_free hc i hi)
theorem end_here {F T : Nat → ByteArray} {n : Nat} {c : ByteArray} (h : M.nextOf F T n c = none) : M.endOf F T n c = some c := M.endOf_yes (M.res_here h)
theorem end_code {F T : Nat → ByteArray} {n : Nat} (h : M.fwd n F T = true) {c d : ByteArray} (hc : M.code c = true) (hd : M.endOf F T n c = some d) : M.code d = true := by
  obtain ⟨t, ht⟩ := M.endOf_some hd
  exact M.iter_code' h hc (M.res_some ht).2.1
/-- Of forwarded letters each is at its end, for the orders and for the direct ones. -/
theorem fb_ends {F T : Nat → ByteArray} {n : Nat} {I : Nat → Int} {C : Nat → ByteArray} {m : Nat} (h : M.fbOk F T n I C m = true) {X : List (Int × ByteArray)} (hX : M.fbSent F T n I C m = X) :
    BatchL X ∧ (∀ p ∈ X, M.endOf F T n p.2 = some p.2) ∧ ∀ p ∈ X, M.endOf (nF (M.direct F T n)) (nT (M.direct F T n)) (M.direct F T n).length p.2 = some p.2 := by
  have h2 := h
  unfold M.fbOk at h2
  rw [Bool.and_eq_true] at h2
  obtain ⟨hf, hb⟩ := h2
  have e : X = M.sentL (M.endOf F T n) (M.lst I C m) := by rw [← hX]; exact if_pos h
  have hB := (batchL_iff m I C).1 hb
  subst e
  have key : ∀ p ∈ M.sentL (M.endOf F T n) (M.lst I C m), M.nextOf F T n p.2 = none := fun p hp => by
    obtain ⟨x, _, _, hx⟩ := sent_mem hp
    exact M.end_last hx
  exact ⟨sent_batch hB fun x hx d hd => end_code hf (hB.1 x hx).1 hd, fun p hp => end_here (key p hp), fun p hp => end_here (direct_free hf (key p hp))⟩
theorem fb_still {F T : Nat → ByteArray} {n : Nat} (hf : M.fwd n F T = true) {X : List (Int × ByteArray)} (hB : BatchL X) (he : ∀ p ∈ X, M.endOf F T n p.2 = some p.2) :
    M.fbOk F T n (nI X) (nC X) X.length = true ∧ M.fbSent F T n (nI X) (nC X) X.length = X ∧ M.fbStuck F T n (nI X) (nC X) X.length = [] := by
  obtain ⟨e0, e1, e2⟩ := M.fb_yes hf ((batchL_list X).2 hB)
  rw [e1, e2, lst_nI]
  exact ⟨e0, sent_again X he⟩
/-- The law: forwarded again, and by direct orders. -/
theorem fb_law {F T : Nat → ByteArray} {n : Nat} {I : Nat → Int} {C : Nat → ByteArray} {m : Nat} (h : M.fbOk F T n I C m = true) {X Y : List (Int × ByteArray)} (hX : M.fbSent F T n I C m = X) (hY : M.fbStuck F T n I C m = Y) :
    (M.fbSent F T n (nI X) (nC X) X.length = X ∧ M.fbStuck F T n (nI X) (nC X) X.length = []) ∧
    (M.fbSent (nF (M.direct F T n)) (nT (M.direct F T n)) (M.direct F T n).length (nI X) (nC X) X.length = X ∧ M.fbStuck (nF (M.direct F T n)) (nT (M.direct F T n)) (M.direct F T n).length (nI X) (nC X) X.length = []) ∧
    X.length + Y.length = m ∧ BatchL X ∧ BatchL Y ∧ M.fwd n F T = true ∧ (∀ i, i < m → M.code (C i) = true) ∧ X = M.sentL (M.endOf F T n) (M.lst I C m) ∧ Y = M.stuckL (M.endOf F T n) (M.lst I C m) := by
  obtain ⟨hB, h1, h2⟩ := fb_ends h hX
  have hfb := h
  unfold M.fbOk at hfb
  rw [Bool.and_eq_true] at hfb
  have e : X = M.sentL (M.endOf F T n) (M.lst I C m) := by rw [← hX]; exact if_pos h
  have e' : Y = M.stuckL (M.endOf F T n) (M.lst I C m) := by rw [← hY]; exact if_pos h
  have hl := sent_len (g := M.endOf F T n) (M.lst I C m)
  rw [← e, ← e', lst_len] at hl
  exact ⟨(fb_still hfb.1 hB h1).2, (fb_still (M.direct_fwd hfb.1) hB h2).2, hl, hB, by rw [e']; exact stuck_batch ((batchL_iff m I C).1 hfb.2), hfb.1, fun i hi => ((M.batch_yes hfb.2).2 i hi).1, e, e'⟩
/-- A letter that does not arrive is found among the stuck ones. -/
theorem stuck_find {g : ByteArray → Option ByteArray} {I : Nat → Int} {C : Nat → ByteArray} {j m : Nat} {Y : List (Int × ByteArray)} (hY : Y = M.stuckL g (M.lst I C m)) (hB : BatchL Y) (hj : j < m) (h : g (C j) = none) : 0 ≤ M.findLetter Y.length (nI Y) (nC Y) (I j) := by
  have hm : (I j, C j) ∈ Y := by
    rw [hY]
    refine List.mem_filter.2 ⟨?_, by simp [h]⟩
    unfold M.lst
    exact List.mem_map.2 ⟨j, List.mem_range.2 hj, rfl⟩
  obtain ⟨k, hk, e⟩ := List.getElem_of_mem hm
  have := find_at hB hk
  rw [nI_at hk, e] at this
  rw [this]; omega
/-- The law's loop: where each letter stands, in the very terms of the walk. -/
theorem fb_loop {F T : Nat → ByteArray} {n : Nat} {I : Nat → Int} {C : Nat → ByteArray} {m : Nat} (h : M.fbOk F T n I C m = true) {X Y : List (Int × ByteArray)} (hX : M.fbSent F T n I C m = X) (hY : M.fbStuck F T n I C m = Y) :
    ∃ g : Nat → Nat, g 0 = 0 ∧ g m = X.length ∧ (∀ j, g j ≤ j) ∧ ∀ j, j < m → (∃ (d : ByteArray) (t : Nat), resV (M.resCode F T n (C j)) = .tuple #[.string d, .int .i64 t, .bool true] ∧ g j < X.length ∧ nI X (g j) = I j ∧ nC X (g j) = d ∧ g (j + 1) = g j + 1) ∨ (resV (M.resCode F T n (C j)) = .tuple #[.string ⟨#[]⟩, .int .i64 0, .bool false] ∧ g (j + 1) = g j ∧ ∃ q : Nat, M.findLetter Y.length (nI Y) (nC Y) (I j) = (q : Int)) := by
  obtain ⟨_, _, _, _, hBY, hf, hc, e, e'⟩ := fb_law h hX hY
  refine ⟨fun j => (M.sentL (M.endOf F T n) (M.lst I C j)).length, rfl, by rw [e], fun j => M.sentL_le _ _ _ _, fun j hj => ?_⟩
  rw [M.resCode_yes hf (hc j hj)]
  cases hr : M.res F T n (C j) with
  | none =>
    refine Or.inr ⟨rfl, by show (M.sentL _ _).length = (M.sentL _ _).length; rw [(M.sent_no (I := I) (M.endOf_no hr)).1], ?_⟩
    have := stuck_find e' hBY hj (M.endOf_no hr)
    exact ⟨_, (Int.toNat_of_nonneg this).symm⟩
  | some p =>
    obtain ⟨d, t⟩ := p
    obtain ⟨x0, x1, x2⟩ := sent_at (I := I) hj (M.endOf_yes hr)
    rw [← e] at x0 x1 x2
    exact Or.inl ⟨d, t, rfl, x0, x1, x2, by show (M.sentL _ _).length = (M.sentL _ _).length + 1; rw [(M.sent_yes (I := I) (M.endOf_yes hr)).1]; simp⟩
end Go.Proofs.Ytekkajgifgnklaa
