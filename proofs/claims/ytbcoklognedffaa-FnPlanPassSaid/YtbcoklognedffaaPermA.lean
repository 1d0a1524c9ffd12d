/-
  Letters in another order are a batch as before.
-/
import Derived.Test.YtbcoklognedffaaCat
import Derived.Test.YtbcoklognedffaaPureA
namespace Go.Proofs.Ytbcoklognedffaa

/-- Letters are a batch, said of a list. -/
def BatchL (L : List (Int × ByteArray)) : Prop := (∀ x ∈ L, M.code x.2 = true ∧ 1 ≤ x.1 ∧ x.1 ≤ 9999) ∧ (L.map Prod.fst).Pairwise (· ≠ ·) ∧ L.length ≤ 60
theorem batchL_iff (n : Nat) (I : Nat → Int) (C : Nat → ByteArray) : M.batch n I C = true ↔ BatchL (M.lst I C n) := by
  unfold BatchL
  rw [List.pairwise_map, List.pairwise_iff_getElem]
  constructor
  · intro h
    obtain ⟨hn, hg⟩ := M.batch_yes h
    refine ⟨fun x hx => ?_, fun i j hi hj hij => ?_, by rw [lst_len]; exact hn⟩
    · unfold M.lst at hx
      obtain ⟨i, hi, rfl⟩ := List.mem_map.1 hx
      obtain ⟨h1, h2, _⟩ := hg i (List.mem_range.1 hi)
      exact ⟨h1, h2⟩
    · rw [lst_get, lst_get]
      rw [lst_len] at hj
      exact (hg j hj).2.2 i hij
  · rintro ⟨h1, h2, h3⟩
    have hg : M.goodTo I C n = true := (M.goodTo_iff I C n).2 fun i hi => by
      have hm : (I i, C i) ∈ M.lst I C n := by unfold M.lst; exact List.mem_map.2 ⟨i, List.mem_range.2 hi, rfl⟩
      refine ⟨(h1 _ hm).1, (h1 _ hm).2, fun k hk => ?_⟩
      have := h2 k i (by rw [lst_len]; omega) (by rw [lst_len]; exact hi) hk
      rw [lst_get, lst_get] at this
      exact this
    rw [M.batch_end hg]
    rw [lst_len] at h3
    exact decide_eq_true h3
theorem batchL_list (L : List (Int × ByteArray)) : M.batch L.length (nI L) (nC L) = true ↔ BatchL L := by
  rw [batchL_iff, lst_nI]
theorem BatchL.perm {L R : List (Int × ByteArray)} (h : BatchL L) (p : L.Perm R) : BatchL R :=
  ⟨fun x hx => h.1 x (p.mem_iff.2 hx), (p.map Prod.fst).pairwise h.2.1 (fun h e => h e.symm), by rw [← p.length_eq]; exact h.2.2⟩
theorem flat_upd (F : Nat → List (Int × ByteArray)) (d : Nat) (x : Int × ByteArray) : ∀ n, d < n → (M.flat (fun i => if i = d then F d ++ [x] else F i) n).Perm (M.flat F n ++ [x])
  | 0, h => absurd h (by omega)
  | n + 1, h => by
    by_cases e : d = n
    · subst e
      have h1 : M.flat (fun i => if i = d then F d ++ [x] else F i) d = M.flat F d := M.flat_congr fun i hi => if_neg (by omega)
      show (M.flat (fun i => if i = d then F d ++ [x] else F i) d ++ (if d = d then F d ++ [x] else F d)).Perm (M.flat F d ++ F d ++ [x])
      rw [h1, if_pos rfl, List.append_assoc]
    · have ih := flat_upd F d x n (by omega)
      show (M.flat (fun i => if i = d then F d ++ [x] else F i) n ++ (if n = d then F d ++ [x] else F n)).Perm (M.flat F n ++ F n ++ [x])
      rw [if_neg (fun e2 => e e2.symm)]
      refine (ih.append_right (F n)).trans ?_
      rw [List.append_assoc, List.append_assoc]
      exact (List.perm_append_comm).append_left _
theorem flat_nil : ∀ n, M.flat (fun _ => []) n = []
  | 0 => rfl
  | n + 1 => by show M.flat (fun _ => []) n ++ [] = []; rw [flat_nil n]; rfl
theorem flat_bins (key : Nat → Option Nat) (I : Nat → Int) (C : Nat → ByteArray) (N : Nat) : ∀ k, (∀ i, i < k → ∃ d, key i = some d ∧ d < N) → (M.flat (M.binTo key I C k) N).Perm (M.lst I C k)
  | 0, _ => by rw [show M.binTo key I C 0 = fun _ => [] from rfl, flat_nil]; exact List.Perm.refl _
  | k + 1, h => by
    obtain ⟨d, hd, hdN⟩ := h k (by omega)
    rw [M.binTo_some hd, M.lst_succ]
    exact (flat_upd (M.binTo key I C k) d (I k, C k) N hdN).trans ((flat_bins key I C N k fun i hi => h i (by omega)).append_right _)
theorem dig1_bd {n : Nat} {I : Nat → Int} {C : Nat → ByteArray} (h : M.batch n I C = true) {x : Nat} (hx : x ≤ 6) : ∀ i, i < n → ∃ d, M.dig1 C x i = some d ∧ d < 10 := fun i hi => by
  have hc := M.code_yes ((M.batch_yes h).2 i hi).1
  have := M.digs_bt hc.1 x (by rw [hc.2]; omega)
  exact ⟨_, rfl, by omega⟩
theorem pass_perm {n : Nat} {I : Nat → Int} {C : Nat → ByteArray} (h : M.batch n I C = true) {x : Nat} (hx : x ≤ 6) : (M.flat (M.bins I C x n) 10).Perm (M.lst I C n) := flat_bins _ _ _ _ _ (dig1_bd h hx)
theorem pass_batch {n : Nat} {I : Nat → Int} {C : Nat → ByteArray} (h : M.batch n I C = true) {x : Nat} (hx : x ≤ 6) : BatchL (M.flat (M.bins I C x n) 10) := ((batchL_iff n I C).1 h).perm (pass_perm h hx).symm
theorem BatchL.fits {L : List (Int × ByteArray)} (h : BatchL L) : Fits L.length (nI L) (nC L) := fun i hi => by
  obtain ⟨h1, h2, h3⟩ := h.1 _ (List.getElem_mem hi)
  rw [nI_at hi, nC_at hi]
  have := (M.code_yes h1).2
  refine ⟨by omega, ?_⟩
  rw [this]; unfold maxLen; omega
end Go.Proofs.Ytbcoklognedffaa

/-
  All passes of a plan: the letters after each of them. No program is named here.
-/
namespace Go.Proofs.Ytbcoklognedffaa

theorem flat_rest (key : Nat → Option Nat) (I : Nat → Int) (C : Nat → ByteArray) (N : Nat) : ∀ k, (∀ i, i < k → ∀ d, key i = some d → d < N) → (M.flat (M.binTo key I C k) N ++ M.restTo key I C k).Perm (M.lst I C k)
  | 0, _ => by rw [show M.binTo key I C 0 = fun _ => [] from rfl, flat_nil]; exact List.Perm.refl _
  | k + 1, h => by
    have ih := flat_rest key I C N k fun i hi => h i (by omega)
    rw [M.lst_succ]
    cases hk : key k with
    | none =>
      rw [M.binTo_none hk, M.restTo_none hk, ← List.append_assoc]
      exact ih.append_right _
    | some d =>
      rw [M.binTo_some hk, M.restTo_some hk]
      have h1 := (flat_upd (M.binTo key I C k) d (I k, C k) N (h k (by omega) d hk)).append_right (M.restTo key I C k)
      refine h1.trans ?_
      rw [List.append_assoc]
      refine (List.Perm.append_left _ List.perm_append_comm).trans ?_
      rw [← List.append_assoc]
      exact ih.append_right _
theorem BatchL.left {A R : List (Int × ByteArray)} (h : BatchL (A ++ R)) : BatchL A := by
  obtain ⟨h1, h2, h3⟩ := h
  refine ⟨fun x hx => h1 x (List.mem_append_left _ hx), ?_, by rw [List.length_append] at h3; omega⟩
  rw [List.map_append] at h2
  exact (List.pairwise_append.1 h2).1
theorem planKey_bd {b : Int} {n : Nat} {S C : Nat → ByteArray} {x k d : Nat} (hb : 2 ≤ b) (h : M.planKey b n S C x k = some d) : d < b.toNat := by
  by_cases h0 : M.rankTo S (C k) n < 0
  · rw [M.planKey_none h0] at h; cases h
  · rw [M.planKey_some (by omega)] at h
    have := M.rankBin_bd (b := b) (r := M.rankTo S (C k) n) (k := x) hb
    have e := Option.some.inj h
    omega
/-- The bins of a pass over a list of letters. -/
def stepB (b : Int) (n : Nat) (S : Nat → ByteArray) (L : List (Int × ByteArray)) (x : Nat) : Nat → List (Int × ByteArray) := M.binTo (M.planKey b n S (nC L) x) (nI L) (nC L) L.length
/-- The bins after the pass t. -/
def binsAt (b : Int) (n : Nat) (S : Nat → ByteArray) (m : Nat) (I : Nat → Int) (C : Nat → ByteArray) : Nat → Nat → List (Int × ByteArray)
  | 0 => M.binTo (M.planKey b n S C 0) I C m
  | t + 1 => stepB b n S (M.flat (binsAt b n S m I C t) b.toNat) (t + 1)
theorem bins_batch {b : Int} {n : Nat} {S : Nat → ByteArray} {m : Nat} {I : Nat → Int} {C : Nat → ByteArray} (hb : 2 ≤ b) (h : M.batch m I C = true) : ∀ t, BatchL (M.flat (binsAt b n S m I C t) b.toNat)
  | 0 => (((batchL_iff m I C).1 h).perm (flat_rest (M.planKey b n S C 0) I C b.toNat m fun _ _ _ hd => planKey_bd hb hd).symm).left
  | t + 1 => by
    have ih := bins_batch (n := n) (S := S) hb h t
    have := flat_rest (M.planKey b n S (nC (M.flat (binsAt b n S m I C t) b.toNat)) (t + 1)) (nI (M.flat (binsAt b n S m I C t) b.toNat)) (nC (M.flat (binsAt b n S m I C t) b.toNat)) b.toNat (M.flat (binsAt b n S m I C t) b.toNat).length fun _ _ _ hd => planKey_bd hb hd
    rw [lst_nI] at this
    exact (ih.perm this.symm).left
/-- There is a run: the plan and the batch are valid. -/
def runOk (b p : Int) (n : Nat) (S : Nat → ByteArray) (m : Nat) (I : Nat → Int) (C : Nat → ByteArray) : Bool := M.plan b p n S && M.batch m I C
def runList (b p : Int) (n : Nat) (S : Nat → ByteArray) (m : Nat) (I : Nat → Int) (C : Nat → ByteArray) : List (Int × ByteArray) := if runOk b p n S m I C = true then M.flat (binsAt b n S m I C (p.toNat - 1)) b.toNat else []
def runRest (b p : Int) (n : Nat) (S : Nat → ByteArray) (m : Nat) (I : Nat → Int) (C : Nat → ByteArray) : List (Int × ByteArray) := if runOk b p n S m I C = true then M.restTo (M.planKey b n S C 0) I C m else []
theorem runOk_yes {b p : Int} {n : Nat} {S : Nat → ByteArray} {m : Nat} {I : Nat → Int} {C : Nat → ByteArray} (h : runOk b p n S m I C = true) : M.plan b p n S = true ∧ M.batch m I C = true := (Bool.and_eq_true _ _).mp h
theorem run_len (b p : Int) (n : Nat) (S : Nat → ByteArray) (m : Nat) (I : Nat → Int) (C : Nat → ByteArray) : (runList b p n S m I C).length ≤ 60 ∧ (runRest b p n S m I C).length ≤ 60 := by
  unfold runList runRest
  by_cases h : runOk b p n S m I C = true
  · obtain ⟨hp, hb⟩ := runOk_yes h
    have hs := M.plan_shape hp
    rw [if_pos h, if_pos h]
    have := M.restTo_len (M.planKey b n S C 0) I C m
    have := (M.batch_yes hb).1
    exact ⟨(bins_batch (n := n) (S := S) hs.1 hb _).2.2, by omega⟩
  · rw [if_neg h, if_neg h]
    exact ⟨Nat.zero_le _, Nat.zero_le _⟩
end Go.Proofs.Ytbcoklognedffaa
