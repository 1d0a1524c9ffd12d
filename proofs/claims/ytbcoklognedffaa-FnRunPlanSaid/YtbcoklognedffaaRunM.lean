/-
  All passes of a plan: the letters after each of them. No program is named here.
-/
import Derived.Test.YtbcoklognedffaaPPassM
import Derived.Test.YtbcoklognedffaaPermM
namespace Go.Proofs.Ytbcoklognedffaa

theorem flat_rest (key : Nat → Option Nat) (I : Nat → Int) (C : Nat → ByteArray) (N : Nat) : ∀ k, (∀ i, i < k → ∀ d, key i = some d → d < N) → (M.flat (M.binTo key I C k) N ++ M.restTo key I C k).Perm (M.lst I C k)
  | 0, _ => by rw [show M.binTo key I C 0 = fun _ => [] from rfl, flat_nil]; exact List.Perm.refl _
  | k + 1, h => by
    have ih := flat_rest key I C N k fun i hi => h i (by omega)
    rw [M.lst_succ]
    cases hk : key k with
    | none =>
      rw [M.binTo_none hk, M.restTo_none hk, ← List.append_assoc]
      exact ih.append_right _
    | some d =>
      rw [M.binTo_some hk, M.restTo_some hk]
      have h1 := (flat_upd (M.binTo key I C k) d (I k, C k) N (h k (by omega) d hk)).append_right (M.restTo key I C k)
      refine h1.trans ?_
      rw [List.append_assoc]
      refine (List.Perm.append_left _ List.perm_append_comm).trans ?_
      rw [← List.append_assoc]
      exact ih.append_right _
theorem BatchL.left {A R : List (Int × ByteArray)} (h : BatchL (A ++ R)) : BatchL A := by
  obtain ⟨h1, h2, h3⟩ := h
  refine ⟨fun x hx => h1 x (List.mem_append_left _ hx), ?_, by rw [List.length_append] at h3; omega⟩
  rw [List.map_append] at h2
  exact (List.pairwise_append.1 h2).1
theorem planKey_bd {b : Int} {n : Nat} {S C : Nat → ByteArray} {x k d : Nat} (hb : 2 ≤ b) (h : M.planKey b n S C x k = some d) : d < b.toNat := by
  by_cases h0 : M.rankTo S (C k) n < 0
  · rw [M.planKey_none h0] at h; cases h
  · rw [M.planKey_some (by omega)] at h
    have := M.rankBin_bd (b := b) (r := M.rankTo S (C k) n) (k := x) hb
    have e := Option.some.inj h
    omega
/-- The bins of a pass over a list of letters. -/
def stepB (b : Int) (n : Nat) (S : Nat → ByteArray) (L : List (Int × ByteArray)) (x : Nat) : Nat → List (Int × ByteArray) := M.binTo (M.planKey b n S (nC L) x) (nI L) (nC L) L.length
/-- The bins after the pass t. -/
def binsAt (b : Int) (n : Nat) (S : Nat → ByteArray) (m : Nat) (I : Nat → Int) (C : Nat → ByteArray) : Nat → Nat → List (Int × ByteArray)
  | 0 => M.binTo (M.planKey b n S C 0) I C m
  | t + 1 => stepB b n S (M.flat (binsAt b n S m I C t) b.toNat) (t + 1)
theorem bins_batch {b : Int} {n : Nat} {S : Nat → ByteArray} {m : Nat} {I : Nat → Int} {C : Nat → ByteArray} (hb : 2 ≤ b) (h : M.batch m I C = true) : ∀ t, BatchL (M.flat (binsAt b n S m I C t) b.toNat)
  | 0 => (((batchL_iff m I C).1 h).perm (flat_rest (M.planKey b n S C 0) I C b.toNat m fun _ _ _ hd => planKey_bd hb hd).symm).left
  | t + 1 => by
    have ih := bins_batch (n := n) (S := S) hb h t
    have := flat_rest (M.planKey b n S (nC (M.flat (binsAt b n S m I C t) b.toNat)) (t + 1)) (nI (M.flat (binsAt b n S m I C t) b.toNat)) (nC (M.flat (binsAt b n S m I C t) b.toNat)) b.toNat (M.flat (binsAt b n S m I C t) b.toNat).length fun _ _ _ hd => planKey_bd hb hd
    rw [lst_nI] at this
    exact (ih.perm this.symm).left
/-- There is a run: the plan and the batch are valid. -/
def runOk (b p : Int) (n : Nat) (S : Nat → ByteArray) (m : Nat) (I : Nat → Int) (C : Nat → ByteArray) : Bool := M.plan b p n S && M.batch m I C
def runList (b p : Int) (n : Nat) (S : Nat → ByteArray) (m : Nat) (I : Nat → Int) (C : Nat → ByteArray) : List (Int × ByteArray) := if runOk b p n S m I C = true then M.flat (binsAt b n S m I C (p.toNat - 1)) b.toNat else []
def runRest (b p : Int) (n : Nat) (S : Nat → ByteArray) (m : Nat) (I : Nat → Int) (C : Nat → ByteArray) : List (Int × ByteArray) := if runOk b p n S m I C = true then M.restTo (M.planKey b n S C 0) I C m else []
theorem runOk_yes {b p : Int} {n : Nat} {S : Nat → ByteArray} {m : Nat} {I : Nat → Int} {C : Nat → ByteArray} (h : runOk b p n S m I C = true) : M.plan b p n S = true ∧ M.batch m I C = true := (Bool.and_eq_true _ _).mp h
theorem run_len (b p : Int) (n : Nat) (S : Nat → ByteArray) (m : Nat) (I : Nat → Int) (C : Nat → ByteArray) : (runList b p n S m I C).length ≤ 60 ∧ (runRest b p n S m I C).length ≤ 60 := by
  unfold runList runRest
  by_cases h : runOk b p n S m I C = true
  · obtain ⟨hp, hb⟩ := runOk_yes h
    have hs := M.plan_shape hp
    rw [if_pos h, if_pos h]
    have := M.restTo_len (M.planKey b n S C 0) I C m
    have := (M.batch_yes hb).1
    exact ⟨(bins_batch (n := n) (S := S) hs.1 hb _).2.2, by omega⟩
  · rw [if_neg h, if_neg h]
    exact ⟨Nat.zero_le _, Nat.zero_le _⟩
end Go.Proofs.Ytbcoklognedffaa
