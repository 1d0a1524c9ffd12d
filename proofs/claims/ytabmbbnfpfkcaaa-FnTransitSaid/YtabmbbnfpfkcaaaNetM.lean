/-
  Networks on paper: which offices are one.
-/
import Derived.Test.YtabmbbnfpfkcaaaRulM
import Derived.Test.YtabmbbnfpfkcaaaAddRM
namespace Go.Proofs.Ytabmbbnfpfkcaaa
open Go.PlainAid (bt get_bt bt_nonneg bt_le)
set_option linter.unusedVariables false

/-- The word that stands in a rule for its own office. -/
def M.here : ByteArray := ⟨#[104, 101, 114, 101]⟩
/-- A rule may lead to a name. -/
def M.leads (NM : Nat → ByteArray) (n : Nat) (x : ByteArray) : Bool := decide (x = M.here) || (List.range n).any fun i => decide (NM i = x)
theorem M.leads_iff {NM : Nat → ByteArray} {n : Nat} {x : ByteArray} : M.leads NM n x = true ↔ x = M.here ∨ ∃ i, i < n ∧ NM i = x := by
  unfold M.leads
  rw [Bool.or_eq_true, List.any_eq_true]
  refine ⟨fun h => h.elim (fun h => Or.inl (of_decide_eq_true h)) ?_, fun h => h.elim (fun h => Or.inl (decide_eq_true h)) ?_⟩
  · rintro ⟨i, hi, h⟩
    exact Or.inr ⟨i, List.mem_range.1 hi, of_decide_eq_true h⟩
  · rintro ⟨i, hi, h⟩
    exact Or.inr ⟨i, List.mem_range.2 hi, decide_eq_true h⟩
def M.nameTo (NM : Nat → ByteArray) (n : Nat) : Bool := (List.range n).all fun i => (M.name (NM i) && decide (NM i ≠ M.here)) && (List.range i).all fun k => decide (NM k ≠ NM i)
theorem M.nameTo_iff (NM : Nat → ByteArray) (n : Nat) : M.nameTo NM n = true ↔ ∀ i, i < n → M.name (NM i) = true ∧ NM i ≠ M.here ∧ ∀ k, k < i → NM k ≠ NM i := by
  unfold M.nameTo
  rw [List.all_eq_true]
  constructor
  · intro h i hi
    have := h i (List.mem_range.2 hi)
    rw [Bool.and_eq_true, Bool.and_eq_true, List.all_eq_true] at this
    exact ⟨this.1.1, of_decide_eq_true this.1.2, fun k hk => of_decide_eq_true (this.2 k (List.mem_range.2 hk))⟩
  · intro h i hi
    obtain ⟨h1, h2, h3⟩ := h i (List.mem_range.1 hi)
    rw [Bool.and_eq_true, Bool.and_eq_true, List.all_eq_true]
    exact ⟨⟨h1, decide_eq_true h2⟩, fun k hk => decide_eq_true (h3 k (List.mem_range.1 hk))⟩
theorem M.nameTo_succ {NM : Nat → ByteArray} {k : Nat} (h : M.nameTo NM k = true) (h1 : M.name (NM k) = true) (h2 : NM k ≠ M.here) (h3 : ∀ j, j < k → NM j ≠ NM k) : M.nameTo NM (k + 1) = true :=
  (M.nameTo_iff NM (k + 1)).2 fun i hi => by
    by_cases e : i = k
    · subst e; exact ⟨h1, h2, h3⟩
    · exact (M.nameTo_iff NM k).1 h i (by omega)
theorem M.nameTo_no {NM : Nat → ByteArray} {n k : Nat} (hk : k < n) (h : M.name (NM k) = false ∨ NM k = M.here ∨ ∃ j, j < k ∧ NM j = NM k) : M.nameTo NM n = false := by
  rw [Bool.eq_false_iff]
  intro e
  obtain ⟨h1, h2, h3⟩ := (M.nameTo_iff NM n).1 e k hk
  rcases h with h | h | ⟨j, hj, h⟩
  · rw [h] at h1; cases h1
  · exact h2 h
  · exact h3 j hj h
def M.ruleOk (NM : Nat → ByteArray) (n : Nat) (L : List (ByteArray × ByteArray)) : Bool := M.rul L.length (nF L) (nT L) && L.all fun p => M.leads NM n p.2
theorem M.ruleOk_no {NM : Nat → ByteArray} {n : Nat} {L : List (ByteArray × ByteArray)} (h : M.rul L.length (nF L) (nT L) = false ∨ ∃ p ∈ L, M.leads NM n p.2 = false) : M.ruleOk NM n L = false := by
  unfold M.ruleOk
  rcases h with h | ⟨p, hp, h⟩
  · rw [h, Bool.false_and]
  · rw [Bool.and_eq_false_iff]
    refine Or.inr ?_
    rw [Bool.eq_false_iff]
    intro e
    rw [List.all_eq_true] at e
    rw [e p hp] at h; cases h
theorem M.ruleOk_yes {NM : Nat → ByteArray} {n : Nat} {L : List (ByteArray × ByteArray)} (h : M.rul L.length (nF L) (nT L) = true) (h2 : ∀ p ∈ L, M.leads NM n p.2 = true) : M.ruleOk NM n L = true := by
  unfold M.ruleOk
  rw [h, Bool.true_and, List.all_eq_true]; exact h2
theorem M.ruleOk_is {NM : Nat → ByteArray} {n : Nat} {L : List (ByteArray × ByteArray)} (h : M.ruleOk NM n L = true) : M.rul L.length (nF L) (nT L) = true ∧ ∀ p ∈ L, M.leads NM n p.2 = true := by
  unfold M.ruleOk at h
  rw [Bool.and_eq_true, List.all_eq_true] at h
  exact h
/-- Offices are a network. -/
def M.net (n : Nat) (NM : Nat → ByteArray) (RL : Nat → List (ByteArray × ByteArray)) : Bool := (decide (1 ≤ n ∧ n ≤ 8) && M.nameTo NM n) && (List.range n).all fun i => M.ruleOk NM n (RL i)
section
variable {n : Nat} {NM : Nat → ByteArray} {RL : Nat → List (ByteArray × ByteArray)}
theorem M.net_size (h : ¬ (1 ≤ n ∧ n ≤ 8)) : M.net n NM RL = false := by unfold M.net; rw [decide_eq_false h]; rfl
theorem M.net_name (h : M.nameTo NM n = false) : M.net n NM RL = false := by unfold M.net; rw [h, Bool.and_false]; rfl
theorem M.net_rule {k : Nat} (hk : k < n) (h : M.ruleOk NM n (RL k) = false) : M.net n NM RL = false := by
  unfold M.net
  rw [Bool.and_eq_false_iff]
  refine Or.inr ?_
  rw [Bool.eq_false_iff]
  intro e
  rw [List.all_eq_true] at e
  rw [e k (List.mem_range.2 hk)] at h; cases h
theorem M.net_all (h1 : M.nameTo NM n = true) (h2 : ∀ i, i < n → M.ruleOk NM n (RL i) = true) : M.net n NM RL = decide (1 ≤ n ∧ n ≤ 8) := by
  unfold M.net
  rw [h1, Bool.and_true]
  have : ((List.range n).all fun i => M.ruleOk NM n (RL i)) = true := List.all_eq_true.2 fun i hi => h2 i (List.mem_range.1 hi)
  rw [this, Bool.and_true]
theorem M.net_yes (h : M.net n NM RL = true) : (1 ≤ n ∧ n ≤ 8) ∧ M.nameTo NM n = true ∧ ∀ i, i < n → M.ruleOk NM n (RL i) = true := by
  unfold M.net at h
  rw [Bool.and_eq_true, Bool.and_eq_true, List.all_eq_true] at h
  exact ⟨of_decide_eq_true h.1.1, h.1.2, fun i hi => h.2 i (List.mem_range.2 hi)⟩
end
end Go.Proofs.Ytabmbbnfpfkcaaa
