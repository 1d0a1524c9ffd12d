/-
  Orders that send letters to their end at once, sorted by their codes, as plain functions. No program is named here.
-/
import Derived.Test.YtekkajgifgnklaaEndless
import Derived.Test.YtekkajgifgnklaaFRow
import Derived.Sort.Statements
import Derived.Shelf.SlSortCmp.Insertion
namespace Go.Proofs.Ytekkajgifgnklaa.M
set_option linter.unusedVariables false

/-- For some codes the orders to their ends. -/
def dirS (F T : Nat → ByteArray) (n : Nat) (L : List ByteArray) : List (ByteArray × ByteArray) := L.filterMap fun c => (endOf F T n c).map fun d => (c, d)
theorem dirS_mem {F T : Nat → ByteArray} {n : Nat} {L : List ByteArray} {p : ByteArray × ByteArray} (h : p ∈ dirS F T n L) : endOf F T n p.1 = some p.2 := by
  unfold dirS at h
  obtain ⟨c, hc, e⟩ := List.mem_filterMap.1 h
  cases h2 : endOf F T n c with
  | none => rw [h2] at e; cases e
  | some d =>
    rw [h2] at e
    have := Option.some.inj e
    subst this
    exact h2
theorem dirS_yes {F T : Nat → ByteArray} {n : Nat} {L : List ByteArray} {c d : ByteArray} (h : endOf F T n c = some d) : dirS F T n (L ++ [c]) = dirS F T n L ++ [(c, d)] := by
  unfold dirS
  rw [List.filterMap_append]
  simp [h]
theorem dirS_no {F T : Nat → ByteArray} {n : Nat} {L : List ByteArray} {c : ByteArray} (h : endOf F T n c = none) : dirS F T n (L ++ [c]) = dirS F T n L := by
  unfold dirS
  rw [List.filterMap_append]
  simp [h]
theorem dirS_le (F T : Nat → ByteArray) (n : Nat) (L : List ByteArray) : (dirS F T n L).length ≤ L.length := List.length_filterMap_le _ _
/-- Ascending by the first codes. -/
def Up2 (L : List (ByteArray × ByteArray)) : Prop := L.Pairwise fun a b => bl a.1 ≤ bl b.1
theorem dirS_up {F T : Nat → ByteArray} {n : Nat} {L : List ByteArray} (h : Up L) : Up2 (dirS F T n L) := by
  unfold Up2 dirS
  rw [List.pairwise_filterMap]
  refine List.Pairwise.imp ?_ h
  intro a b hab p hp q hq
  cases h1 : endOf F T n a with
  | none => rw [h1] at hp; cases hp
  | some x =>
    cases h2 : endOf F T n b with
    | none => rw [h2] at hq; cases hq
    | some y =>
      rw [h1] at hp
      rw [h2] at hq
      have e1 := Option.some.inj hp
      have e2 := Option.some.inj hq
      rw [← e1, ← e2]
      exact hab
def direct (F T : Nat → ByteArray) (n : Nat) : List (ByteArray × ByteArray) := if fwd n F T then dirS F T n (insAll (sst F n)) else []
theorem direct_no {F T : Nat → ByteArray} {n : Nat} (h : fwd n F T = false) : direct F T n = [] := by unfold direct; rw [h]; rfl
theorem direct_yes {F T : Nat → ByteArray} {n : Nat} (h : fwd n F T = true) : direct F T n = dirS F T n (insAll (sst F n)) := by unfold direct; rw [h]; rfl
theorem direct_le (F T : Nat → ByteArray) (n : Nat) : (direct F T n).length ≤ n := by
  unfold direct
  split
  · have h1 := dirS_le F T n (insAll (sst F n))
    rw [insAll_len, sst_length] at h1
    exact h1
  · exact Nat.zero_le _
theorem direct_small (F T : Nat → ByteArray) (n : Nat) (hn : n ≤ 1048576) : (direct F T n).length ≤ 1048576 := Nat.le_trans (direct_le F T n) hn
theorem direct_perm (F T : Nat → ByteArray) (n : Nat) : (dirS F T n (insAll (sst F n))).Perm (dirS F T n (sst F n)) := (insAll_perm _).filterMap _
/-- What is a permutation of these orders and ascending is these orders in order. -/
theorem direct_only {F T : Nat → ByteArray} {n : Nat} {L : List (ByteArray × ByteArray)} (hp : L.Perm (dirS F T n (sst F n))) (hu : Up2 L) : L = dirS F T n (insAll (sst F n)) := by
  refine List.Perm.eq_of_pairwise (le := fun (a b : ByteArray × ByteArray) => bl a.1 ≤ bl b.1) ?_ hu (dirS_up (insAll_up _)) (hp.trans (direct_perm F T n).symm)
  intro a b ha hb h1 h2
  have e1 : a.1 = b.1 := bl_inj (List.le_antisymm h1 h2)
  have ha' := dirS_mem (hp.mem_iff.1 ha)
  have hb' := dirS_mem hb
  rw [e1, hb'] at ha'
  exact Prod.ext e1 (Option.some.inj ha').symm
/-- How two orders compare. -/
def cmpF (x y : ByteArray × ByteArray) : Int := if less x.1 y.1 then -1 else if !(less x.1 y.1 || x.1.toList == y.1.toList) then 1 else 0
theorem cmpF_lt (x y : ByteArray × ByteArray) : Go.Proofs.ltOf cmpF x y = less x.1 y.1 := by
  unfold Go.Proofs.ltOf cmpF
  by_cases h : less x.1 y.1 = true
  · rw [if_pos h, h]; rfl
  · rw [if_neg h]
    have h2 : less x.1 y.1 = false := by simpa using h
    rw [h2]
    split <;> rfl
theorem cmpF_swo : Go.Sort.SWO (Go.Proofs.ltOf cmpF) where
  irrefl x := by rw [cmpF_lt, less_lt]; exact decide_eq_false (List.lt_irrefl _)
  trans x y z h1 h2 := by
    rw [cmpF_lt, less_lt, decide_eq_true_eq] at *
    exact List.lt_trans h1 h2
  ntrans x y z h1 h2 := by
    rw [cmpF_lt, less_le] at *
    exact List.le_trans h2 h1
theorem sorted_up {d : Array (ByteArray × ByteArray)} {n : Nat} (hn : d.size = n) (h : Go.Sort.SortedIn (Go.Proofs.ltOf cmpF) 0 n d) : Up2 d.toList := by
  unfold Up2
  rw [List.pairwise_iff_getElem]
  intro i j hi hj hij
  rw [Array.length_toList] at hi hj
  have := h i j (Nat.zero_le _) hij (by omega)
  rw [cmpF_lt, less_le, getElem!_pos d i hi, getElem!_pos d j hj] at this
  simpa using this
/-- Among the first orders those that end at a code: their codes. -/
def srcIx (F T : Nat → ByteArray) (n : Nat) (c : ByteArray) : Nat → List ByteArray
  | 0 => []
  | k + 1 => if endOf F T n (F k) = some c then srcIx F T n c k ++ [F k] else srcIx F T n c k
theorem srcIx_le (F T : Nat → ByteArray) (n : Nat) (c : ByteArray) : ∀ k, (srcIx F T n c k).length ≤ k
  | 0 => Nat.le_refl 0
  | k + 1 => by
    have := srcIx_le F T n c k
    unfold srcIx
    split
    · rw [List.length_append]
      show _ + 1 ≤ k + 1
      omega
    · omega
def srcOf (c : ByteArray) (L : List (ByteArray × ByteArray)) : List ByteArray := (L.filter fun p => decide (p.2 = c)).map (·.1)
theorem srcOf_yes {c : ByteArray} {L : List (ByteArray × ByteArray)} {p : ByteArray × ByteArray} (h : p.2 = c) : srcOf c (L ++ [p]) = srcOf c L ++ [p.1] := by
  unfold srcOf
  rw [List.filter_append, List.map_append]
  simp [h]
theorem srcOf_no {c : ByteArray} {L : List (ByteArray × ByteArray)} {p : ByteArray × ByteArray} (h : p.2 ≠ c) : srcOf c (L ++ [p]) = srcOf c L := by
  unfold srcOf
  rw [List.filter_append, List.map_append]
  simp [h]
theorem srcOf_le (c : ByteArray) (L : List (ByteArray × ByteArray)) : (srcOf c L).length ≤ L.length := by
  unfold srcOf
  rw [List.length_map]
  exact List.length_filter_le _ _
theorem srcIx_eq (F T : Nat → ByteArray) (n : Nat) (c : ByteArray) : ∀ k, srcIx F T n c k = srcOf c (dirS F T n (sst F k))
  | 0 => rfl
  | k + 1 => by
    rw [sst_succ]
    unfold srcIx
    cases h : endOf F T n (F k) with
    | none =>
      rw [dirS_no h, if_neg (by intro e; cases e)]
      exact srcIx_eq F T n c k
    | some d =>
      rw [dirS_yes h]
      by_cases e : d = c
      · rw [srcOf_yes (p := (F k, d)) e, if_pos (by rw [e]), srcIx_eq F T n c k]
      · rw [srcOf_no (p := (F k, d)) e, if_neg (fun e2 => e (Option.some.inj e2)), srcIx_eq F T n c k]
def srcs (F T : Nat → ByteArray) (n : Nat) (c : ByteArray) : List ByteArray := if fwd n F T then insAll (srcIx F T n c n) else []
theorem srcs_no {F T : Nat → ByteArray} {n : Nat} (c : ByteArray) (h : fwd n F T = false) : srcs F T n c = [] := by unfold srcs; rw [h]; rfl
theorem srcs_yes {F T : Nat → ByteArray} {n : Nat} (c : ByteArray) (h : fwd n F T = true) : srcs F T n c = insAll (srcIx F T n c n) := by unfold srcs; rw [h]; rfl
theorem srcs_le (F T : Nat → ByteArray) (n : Nat) (c : ByteArray) : (srcs F T n c).length ≤ n := by
  unfold srcs
  split
  · rw [insAll_len]; exact srcIx_le F T n c n
  · exact Nat.zero_le _
theorem srcs_small (F T : Nat → ByteArray) (n : Nat) (c : ByteArray) (hn : n ≤ 1048576) : (srcs F T n c).length ≤ 1048576 := Nat.le_trans (srcs_le F T n c) hn
theorem srcOf_up {c : ByteArray} {L : List (ByteArray × ByteArray)} (h : Up2 L) : Up (srcOf c L) := by
  unfold Up srcOf
  rw [List.pairwise_map]
  exact List.Pairwise.filter _ h
/-- The sources, from the direct orders and one by one. -/
theorem srcs_direct (F T : Nat → ByteArray) (n : Nat) (c : ByteArray) : srcOf c (direct F T n) = srcs F T n c := by
  cases h : fwd n F T
  · rw [direct_no h, srcs_no c h]; rfl
  · rw [direct_yes h, srcs_yes c h, srcIx_eq]
    refine List.Perm.eq_of_pairwise (le := fun (a b : ByteArray) => bl a ≤ bl b) ?_ (srcOf_up (dirS_up (insAll_up _))) (insAll_up _) ?_
    · intro a b _ _ h1 h2
      exact bl_inj (List.le_antisymm h1 h2)
    · exact (((direct_perm F T n).filter _).map _).trans (insAll_perm _).symm
end Go.Proofs.Ytekkajgifgnklaa.M
