/-
  Orders that send letters to their end at once, sorted by their codes, as plain functions. No program is named here.
-/
import Derived.Test.YtekkajgifgnklaaEndless
import Derived.Test.YtekkajgifgnklaaFRow
import Derived.Sort.Statements
import Derived.Shelf.SlSortCmp.Insertion
import Derived.Test.YtekkajgifgnklaaDrawF2
import Derived.Test.YtekkajgifgnklaaDrawHo
import Derived.Test.YtekkajgifgnklaaDrawO
import Derived.Test.YtekkajgifgnklaaMgA9
import Derived.Test.YtekkajgifgnklaaMgA4
namespace Go.Proofs.Ytekkajgifgnklaa.M
set_option linter.unusedVariables false

/-- For some codes the orders to their ends. -/
def dirS (F T : Nat → ByteArray) (n : Nat) (L : List ByteArray) : List (ByteArray × ByteArray) := L.filterMap fun c => (endOf F T n c).map fun d => (c, d)
theorem dirS_mem {F T : Nat → ByteArray} {n : Nat} {L : List ByteArray} {p : ByteArray × ByteArray} (h : p ∈ dirS F T n L) : endOf F T n p.1 = some p.2 := by
  unfold dirS at h
  obtain ⟨c, hc, e⟩ := List.mem_filterMap.1 h
  cases h2 : endOf F T n c with
  | none => rw [h2] at e; cases e
  | some d =>
    rw [h2] at e
    have := Option.some.inj e
    subst this
    exact h2
theorem dirS_yes {F T : Nat → ByteArray} {n : Nat} {L : List ByteArray} {c d : ByteArray} (h : endOf F T n c = some d) : dirS F T n (L ++ [c]) = dirS F T n L ++ [(c, d)] := by
  unfold dirS
  rw [List.filterMap_append]
  simp [h]
theorem dirS_no {F T : Nat → ByteArray} {n : Nat} {L : List ByteArray} {c : ByteArray} (h : endOf F T n c = none) : dirS F T n (L ++ [c]) = dirS F T n L := by
  unfold dirS
  rw [List.filterMap_append]
  simp [h]
theorem dirS_le (F T : Nat → ByteArray) (n : Nat) (L : List ByteArray) : (dirS F T n L).length ≤ L.length := List.length_filterMap_le _ _
/-- Ascending by the first codes. -/
def Up2 (L : List (ByteArray × ByteArray)) : Prop := L.Pairwise fun a b => bl a.1 ≤ bl b.1
theorem dirS_up {F T : Nat → ByteArray} {n : Nat} {L : List ByteArray} (h : Up L) : Up2 (dirS F T n L) := by
  unfold Up2 dirS
  rw [List.pairwise_filterMap]
  refine List.Pairwise.imp ?_ h
  intro a b hab p hp q hq
  cases h1 : endOf F T n a with
  | none => rw [h1] at hp; cases hp
  | some x =>
    cases h2 : endOf F T n b with
    | none => rw [h2] at hq; cases hq
    | some y =>
      rw [h1] at hp
      rw [h2] at hq
      have e1 := Option.some.inj hp
      have e2 := Option.some.inj hq
      rw [← e1, ← e2]
      exact hab
def direct (F T : Nat → ByteArray) (n : Nat) : List (ByteArray × ByteArray) := if fwd n F T then dirS F T n (insAll (sst F n)) else []
theorem direct_no {F T : Nat → ByteArray} {n : Nat} (h : fwd n F T = false) : direct F T n = [] := by unfold direct; rw [h]; rfl
theorem direct_yes {F T : Nat → ByteArray} {n : Nat} (h : fwd n F T = true) : direct F T n = dirS F T n (insAll (sst F n)) := by unfold direct; rw [h]; rfl
theorem direct_le (F T : Nat → ByteArray) (n : Nat) : (direct F T n).length ≤ n := by
  unfold direct
  split
  · have h1 := dirS_le F T n (insAll (sst F n))
    rw [insAll_len, sst_length] at h1
    exact h1
  · exact Nat.zero_le _
theorem direct_small (F T : Nat → ByteArray) (n : Nat) (hn : n ≤ 1048576) : (direct F T n).length ≤ 1048576 := Nat.le_trans (direct_le F T n) hn
theorem direct_perm (F T : Nat → ByteArray) (n : Nat) : (dirS F T n (insAll (sst F n))).Perm (dirS F T n (sst F n)) := (insAll_perm _).filterMap _
/-- What is a permutation of these orders and ascending is these orders in order. -/
theorem direct_only {F T : Nat → ByteArray} {n : Nat} {L : List (ByteArray × ByteArray)} (hp : L.Perm (dirS F T n (sst F n))) (hu : Up2 L) : L = dirS F T n (insAll (sst F n)) := by
  refine List.Perm.eq_of_pairwise (le := fun (a b : ByteArray × ByteArray) => bl a.1 ≤ bl b.1) ?_ hu (dirS_up (insAll_up _)) (hp.trans (direct_perm F T n).symm)
  intro a b ha hb h1 h2
  have e1 : a.1 = b.1 := bl_inj (List.le_antisymm h1 h2)
  have ha' := dirS_mem (hp.mem_iff.1 ha)
  have hb' := dirS_mem hb
  rw [e1, hb'] at ha'
  exact Prod.ext e1 (Option.some.inj ha').symm
/-- How two orders compare. -/
def cmpF (x y : ByteArray × ByteArray) : Int := if less x.1 y.1 then -1 else if !(less x.1 y.1 || x.1.toList == y.1.toList) then 1 else 0
theorem cmpF_lt (x y : ByteArray × ByteArray) : Go.Proofs.ltOf cmpF x y = less x.1 y.1 := by
  unfold Go.Proofs.ltOf cmpF
  by_cases h : less x.1 y.1 = true
  · rw [if_pos h, h]; rfl
  · rw [if_neg h]
    have h2 : less x.1 y.1 = false := by simpa using h
    rw [h2]
    split <;> rfl
theorem cmpF_swo : Go.Sort.SWO (Go.Proofs.ltOf cmpF) where
  irrefl x := by rw [cmpF_lt, less_lt]; exact decide_eq_false (List.lt_irrefl _)
  trans x y z h1 h2 := by
    rw [cmpF_lt, less_lt, decide_eq_true_eq] at *
    exact List.lt_trans h1 h2
  ntrans x y z h1 h2 := by
    rw [cmpF_lt, less_le] at *
    exact List.le_trans h2 h1
theorem sorted_up {d : Array (ByteArray × ByteArray)} {n : Nat} (hn : d.size = n) (h : Go.Sort.SortedIn (Go.Proofs.ltOf cmpF) 0 n d) : Up2 d.toList := by
  unfold Up2
  rw [List.pairwise_iff_getElem]
  intro i j hi hj hij
  rw [Array.length_toList] at hi hj
  have := h i j (Nat.zero_le _) hij (by omega)
  rw [cmpF_lt, less_le, getElem!_pos d i hi, getElem!_pos d j hj] at this
  simpa using this
/-- Among the first orders those that end at a code: their codes. -/
def srcIx (F T : Nat → ByteArray) (n : Nat) (c : ByteArray) : Nat → List ByteArray
  | 0 => []
  | k + 1 => if endOf F T n (F k) = some c then srcIx F T n c k ++ [F k] else srcIx F T n c k
theorem srcIx_le (F T : Nat → ByteArray) (n : Nat) (c : ByteArray) : ∀ k, (srcIx F T n c k).length ≤ k
  | 0 => Nat.le_refl 0
  | k + 1 => by
    have := srcIx_le F T n c k
    unfold srcIx
    split
    · rw [List.length_append]
      show _ + 1 ≤ k + 1
      omega
    · omega
def srcOf (c : ByteArray) (L : List (ByteArray × ByteArray)) : List ByteArray := (L.filter fun p => decide (p.2 = c)).map (·.1)
theorem srcOf_yes {c : ByteArray} {L : List (ByteArray × ByteArray)} {p : ByteArray × ByteArray} (h : p.2 = c) : srcOf c (L ++ [p]) = srcOf c L ++ [p.1] := by
  unfold srcOf
  rw [List.filter_append, List.map_append]
  simp [h]
theorem srcOf_no {c : ByteArray} {L : List (ByteArray × ByteArray)} {p : ByteArray × ByteArray} (h : p.2 ≠ c) : srcOf c (L ++ [p]) = srcOf c L := by
  unfold srcOf
  rw [List.filter_append, List.map_append]
  simp [h]
theorem srcOf_le (c : ByteArray) (L : List (ByteArray × ByteArray)) : (srcOf c L).length ≤ L.length := by
  unfold srcOf
  rw [List.length_map]
  exact List.length_filter_le _ _
theorem srcIx_eq (F T : Nat → ByteArray) (n : Nat) (c : ByteArray) : ∀ k, srcIx F T n c k = srcOf c (dirS F T n (sst F k))
  | 0 => rfl
  | k + 1 => by
    rw [sst_succ]
    unfold srcIx
    cases h : endOf F T n (F k) with
    | none =>
      rw [dirS_no h, if_neg (by intro e; cases e)]
      exact srcIx_eq F T n c k
    | some d =>
      rw [dirS_yes h]
      by_cases e : d = c
      · rw [srcOf_yes (p := (F k, d)) e, if_pos (by rw [e]), srcIx_eq F T n c k]
      · rw [srcOf_no (p := (F k, d)) e, if_neg (fun e2 => e (Option.some.inj e2)), srcIx_eq F T n c k]
def srcs (F T : Nat → ByteArray) (n : Nat) (c : ByteArray) : List ByteArray := if fwd n F T then insAll (srcIx F T n c n) else []
theorem srcs_no {F T : Nat → ByteArray} {n : Nat} (c : ByteArray) (h : fwd n F T = false) : srcs F T n c = [] := by unfold srcs; rw [h]; rfl
theorem srcs_yes {F T : Nat → ByteArray} {n : Nat} (c : ByteArray) (h : fwd n F T = true) : srcs F T n c = insAll (srcIx F T n c n) := by unfold srcs; rw [h]; rfl
theorem srcs_le (F T : Nat → ByteArray) (n : Nat) (c : ByteArray) : (srcs F T n c).length ≤ n := by
  unfold srcs
  split
  · rw [insAll_len]; exact srcIx_le F T n c n
  · exact Nat.zero_le _
theorem srcs_small (F T : Nat → ByteArray) (n : Nat) (c : ByteArray) (hn : n ≤ 1048576) : (srcs F T n c).length ≤ 1048576 := Nat.le_trans (srcs_le F T n c) hn
theorem srcOf_up {c : ByteArray} {L : List (ByteArray × ByteArray)} (h : Up2 L) : Up (srcOf c L) := by
  unfold Up srcOf
  rw [List.pairwise_map]
  exact List.Pairwise.filter _ h
/-- The sources, from the direct orders and one by one. -/
theorem srcs_direct (F T : Nat → ByteArray) (n : Nat) (c : ByteArray) : srcOf c (direct F T n) = srcs F T n c := by
  cases h : fwd n F T
  · rw [direct_no h, srcs_no c h]; rfl
  · rw [direct_yes h, srcs_yes c h, srcIx_eq]
    refine List.Perm.eq_of_pairwise (le := fun (a b : ByteArray) => bl a ≤ bl b) ?_ (srcOf_up (dirS_up (insAll_up _))) (insAll_up _) ?_
    · intro a b _ _ h1 h2
      exact bl_inj (List.le_antisymm h1 h2)
    · exact (((direct_perm F T n).filter _).map _).trans (insAll_perm _).symm
end Go.Proofs.Ytekkajgifgnklaa.M

/-
  Drawn orders and letters: DrawForwardBatch.
-/
namespace Go.Proofs.Ytekkajgifgnklaa
open Go.RowKit
set_option linter.unusedVariables false

/-- Orders and letters that the law may read. -/
def FwsLets (w : World) (e : Ending) (w' : World) : Prop := ∃ (v u : Value) (F : List (ByteArray × ByteArray)) (L : List (Int × ByteArray)) (B1 B2 : Nat), e = .returned (.tuple #[v, u]) ∧ FRow w' B1 v F ∧ F.length ≤ 31 ∧ SmallF 30 F ∧ Row w' B2 u L ∧ L.length ≤ 61 ∧ Small 30 L ∧ Below w.heap.size w w'
set_option maxHeartbeats 4000000 in
theorem DrawForwardBatch_any (a : Option Addr) (l k : Nat) (z : List Int) (w : World) (h : IsRow .u8 w a l k z) :
    Calls Try.prog 5 #[.slice a l k] w (FwsLets w) := by
  go_enter Try.func5, Try.ntmps5
  go_wp2_with fail
  refine (open_any a l k z w h).mono ?_
  rintro e w1 ⟨r, rfl, rd1, b1, hwr⟩
  have hr1 := rd1.lt
  have B1 := Lib.hid b1
  have RD1 := Lib.hid rd1
  clear b1 rd1 h
  go_wp2_with fail
  refine (l4Open_any _ r _ RD1.out (by omega)).mono ?_
  rintro e w2 ⟨base, v, F, rfl, hrb, R2, l2, S2, rd2, b2⟩
  have B2 := Lib.hid (B1.out.trans (b2.mono hwr))
  have R2 := Lib.hid R2
  have S2 := Lib.hid S2
  have RD2 := Lib.hid rd2
  have hr2 := rd2.lt
  have hz2 := B2.out.size
  clear b2 rd2 B1 RD1
  go_wp2_with fail
  refine (l4Mail_any _ r _ RD2.out (by omega)).mono ?_
  rintro e w3 ⟨u, L, rfl, R3, l3, S3, sg3⟩
  have B3 := Lib.hid (B2.out.trans ((sg3.below_r hr2).mono hwr))
  have F3 := Lib.hid (R2.out.sg sg3 hrb)
  have HV : Hid (∀ b, v.ownBlock = some b → base ≤ b ∧ b < w2.heap.size) := fun b hb => R2.out.lt b hb
  have RD3 := Lib.hid sg3.1
  have R3 := Lib.hid R3
  have S3 := Lib.hid S3
  have hz3 := sg3.2.size
  clear sg3 B2 R2 RD2
  go_wp2_with fail
  refine (l2Bad_only _ r _ _ u L RD3.out (by omega) R3.out hr2 (by omega) S3.out).mono ?_
  rintro e w4 ⟨u4, L4, rfl, R4, l4, S4, rd4, o4, n4⟩
  have F4 := Lib.hid (F3.out.only o4 (fun b hb e => by
    have h1 := HV.out b hb
    rcases e with e | e
    · omega
    · have := (R3.out.lt b e).1; omega))
  have B4 := Lib.hid (B3.out.trans (o4.below (B := w.heap.size) (fun b hb _ e => by
    rcases e with e | e
    · omega
    · have := (R3.out.lt b e).1; omega) (by omega)))
  have R4 := Lib.hid R4
  have S4 := Lib.hid S4
  clear o4 n4 rd4 F3 R3 B3 S3 RD3
  go_wp2
  go_ret2
  exact ⟨_, _, F, L4, _, _, rfl, F4.out, l2, S2.out, R4.out, l4, S4.out, B4.out⟩
end Go.Proofs.Ytekkajgifgnklaa

/-
  The codes whose letters arrive at a code, and those whose letters never arrive, as plain functions. No program is named here.
-/
namespace Go.Proofs.Ytekkajgifgnklaa.M
set_option linter.unusedVariables false

theorem srcIx_mem {F T : Nat → ByteArray} {n : Nat} {c x : ByteArray} : ∀ {k : Nat}, x ∈ srcIx F T n c k ↔ ∃ i, i < k ∧ F i = x ∧ endOf F T n x = some c
  | 0 => ⟨fun h => (by cases h), fun ⟨i, h, _⟩ => absurd h (by omega)⟩
  | k + 1 => by
    have ih := srcIx_mem (F := F) (T := T) (n := n) (c := c) (x := x) (k := k)
    unfold srcIx
    by_cases e : endOf F T n (F k) = some c
    · rw [if_pos e, List.mem_append, ih]
      constructor
      · rintro (⟨i, hi, h1, h2⟩ | h)
        · exact ⟨i, by omega, h1, h2⟩
        · have := List.mem_singleton.1 h
          subst this
          exact ⟨k, by omega, rfl, e⟩
      · rintro ⟨i, hi, h1, h2⟩
        by_cases e2 : i = k
        · subst e2
          exact Or.inr (List.mem_singleton.2 h1.symm)
        · exact Or.inl ⟨i, by omega, h1, h2⟩
    · rw [if_neg e, ih]
      constructor
      · rintro ⟨i, hi, h1, h2⟩
        exact ⟨i, by omega, h1, h2⟩
      · rintro ⟨i, hi, h1, h2⟩
        by_cases e2 : i = k
        · subst e2
          rw [h1] at e
          exact absurd h2 e
        · exact ⟨i, by omega, h1, h2⟩
theorem srcs_mem {F T : Nat → ByteArray} {n j : Nat} {c : ByteArray} (h : fwd n F T = true) (hj : j < n) : has (F j) (srcs F T n c) = decide (endOf F T n (F j) = some c) := by
  have : F j ∈ srcs F T n c ↔ endOf F T n (F j) = some c := by
    rw [srcs_yes c h, (insAll_perm _).mem_iff, srcIx_mem]
    exact ⟨fun ⟨_, _, _, h2⟩ => h2, fun h2 => ⟨j, hj, rfl, h2⟩⟩
  by_cases e : endOf F T n (F j) = some c
  · rw [decide_eq_true e, has_iff.2 (this.2 e)]
  · rw [decide_eq_false e, has_no (fun h2 => e (this.1 h2))]
theorem end_last {F T : Nat → ByteArray} {n : Nat} {x c : ByteArray} (h : endOf F T n x = some c) : nextOf F T n c = none := by
  unfold endOf at h
  cases e : res F T n x with
  | none => rw [e] at h; cases h
  | some p =>
    obtain ⟨d, t⟩ := p
    rw [e] at h
    have : d = c := Option.some.inj h
    subst this
    exact (res_some e).2.2
theorem srcs_sent {F T : Nat → ByteArray} {n : Nat} {c d : ByteArray} (h : fwd n F T = true) (hn : nextOf F T n c = some d) : srcs F T n c = [] := by
  rw [srcs_yes c h]
  have : srcIx F T n c n = [] := by
    rw [List.eq_nil_iff_forall_not_mem]
    intro x hx
    obtain ⟨i, _, _, h2⟩ := srcIx_mem.1 hx
    rw [end_last h2] at hn
    cases hn
  rw [this]; rfl
end Go.Proofs.Ytekkajgifgnklaa.M
