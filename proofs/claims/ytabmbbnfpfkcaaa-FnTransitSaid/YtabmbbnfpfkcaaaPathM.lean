/-
  Paths through a network, on paper.
-/
import Derived.Test.YtabmbbnfpfkcaaaNetM
import Derived.Test.YtabmbbnfpfkcaaaLookS
namespace Go.Proofs.Ytabmbbnfpfkcaaa
open Go.PlainAid (bt get_bt bt_nonneg bt_le)
set_option linter.unusedVariables false

/-- A list has a string. -/
def M.hasS (x : ByteArray) (P : List ByteArray) : Bool := P.any fun y => decide (y = x)
theorem M.hasS_iff {x : ByteArray} {P : List ByteArray} : M.hasS x P = true ↔ x ∈ P := by
  unfold M.hasS
  rw [List.any_eq_true]
  exact ⟨fun ⟨y, hy, e⟩ => of_decide_eq_true e ▸ hy, fun h => ⟨x, h, decide_eq_true rfl⟩⟩
/-- The rank of a string in a list, or -1, tells whether it is there. -/
theorem M.rank_has {P : List ByteArray} {S : Nat → ByteArray} (hS : ∀ i (hi : i < P.length), S i = P[i]) (x : ByteArray) : decide (0 ≤ M.rankTo S x P.length) = M.hasS x P := by
  cases h : M.hasS x P
  · rw [M.rank_miss fun j hj e => by
      rw [hS j hj] at e
      have := M.hasS_iff.2 (e ▸ List.getElem_mem hj)
      rw [this] at h; cases h]
    rfl
  · obtain ⟨i, hi, e⟩ := List.getElem_of_mem (M.hasS_iff.1 h)
    rcases M.rankC S x P.length with ⟨_, hno⟩ | ⟨k, _, _, _, hr⟩
    · exact absurd ((hS i hi).trans e) (hno i hi)
    · rw [hr]; exact decide_eq_true (by omega)
/-- How many of the first offices a path has not come to. -/
def M.unv (NM : Nat → ByteArray) (P : List ByteArray) : Nat → Nat
  | 0 => 0
  | k + 1 => M.unv NM P k + if M.hasS (NM k) P = true then 0 else 1
theorem M.hasS_more {x y : ByteArray} {P : List ByteArray} (h : M.hasS x P = true) : M.hasS x (P ++ [y]) = true := M.hasS_iff.2 (List.mem_append_left _ (M.hasS_iff.1 h))
theorem M.unv_le (NM : Nat → ByteArray) (P : List ByteArray) (y : ByteArray) : ∀ k, M.unv NM (P ++ [y]) k ≤ M.unv NM P k
  | 0 => Nat.le_refl _
  | k + 1 => by
    show M.unv NM (P ++ [y]) k + _ ≤ M.unv NM P k + _
    have := M.unv_le NM P y k
    by_cases e : M.hasS (NM k) P = true
    · rw [if_pos e, if_pos (M.hasS_more e)]; omega
    · rw [if_neg e]
      split <;> omega
theorem M.unv_less {NM : Nat → ByteArray} {P : List ByteArray} {y : ByteArray} : ∀ {k i : Nat}, i < k → NM i = y → M.hasS y P = false → M.unv NM (P ++ [y]) k + 1 ≤ M.unv NM P k
  | 0, _, h, _, _ => absurd h (by omega)
  | k + 1, i, h, e, hn => by
    show M.unv NM (P ++ [y]) k + _ + 1 ≤ M.unv NM P k + _
    by_cases ei : i = k
    · subst ei
      rw [e, if_pos (M.hasS_iff.2 (by simp)), hn, if_neg (by decide)]
      have := M.unv_le NM P y i
      omega
    · have ih := M.unv_less (k := k) (by omega) e hn
      by_cases e2 : M.hasS (NM k) P = true
      · rw [if_pos e2, if_pos (M.hasS_more e2)]; omega
      · rw [if_neg e2]
        split <;> omega
theorem M.unv_nil (NM : Nat → ByteArray) : ∀ k, M.unv NM [] k = k
  | 0 => rfl
  | k + 1 => by show M.unv NM [] k + (if M.hasS (NM k) [] = true then 0 else 1) = k + 1; rw [M.unv_nil NM k]; rfl
/-- The way of a letter: from a name on, behind a path; how it ends. -/
def M.rt (nx : ByteArray → Option ByteArray) : Nat → List ByteArray → ByteArray → List ByteArray × Int
  | 0, P, x => (P ++ [x], 2)
  | f + 1, P, x => if M.hasS x P = true then (P ++ [x], 2) else match nx x with
    | none => (P ++ [x], 1)
    | some y => if y = M.here then (P ++ [x], 0) else M.rt nx f (P ++ [x]) y
theorem M.rt_loop {nx : ByteArray → Option ByteArray} {f : Nat} {P : List ByteArray} {x : ByteArray} (h : M.hasS x P = true) : M.rt nx (f + 1) P x = (P ++ [x], 2) := by unfold M.rt; rw [if_pos h]
theorem M.rt_lost {nx : ByteArray → Option ByteArray} {f : Nat} {P : List ByteArray} {x : ByteArray} (h : M.hasS x P = false) (hn : nx x = none) : M.rt nx (f + 1) P x = (P ++ [x], 1) := by unfold M.rt; rw [if_neg (by rw [h]; decide), hn]
theorem M.rt_home {nx : ByteArray → Option ByteArray} {f : Nat} {P : List ByteArray} {x : ByteArray} (h : M.hasS x P = false) (hn : nx x = some M.here) : M.rt nx (f + 1) P x = (P ++ [x], 0) := by unfold M.rt; rw [if_neg (by rw [h]; decide), hn]; exact if_pos rfl
theorem M.rt_next {nx : ByteArray → Option ByteArray} {f : Nat} {P : List ByteArray} {x y : ByteArray} (h : M.hasS x P = false) (hn : nx x = some y) (hy : y ≠ M.here) : M.rt nx (f + 1) P x = M.rt nx f (P ++ [x]) y := by
  rw [M.rt, if_neg (by rw [h]; decide), hn]; exact if_neg hy
/-- Where the office with a name sends letters along some digits. -/
def M.nxo (NM : Nat → ByteArray) (RL : Nat → List (ByteArray × ByteArray)) (n : Nat) (c x : ByteArray) : Option ByteArray :=
  if M.rankTo NM x n < 0 then none else M.look (M.ruleAt (nF (RL (M.rankTo NM x n).toNat)) (nT (RL (M.rankTo NM x n).toNat)) (RL (M.rankTo NM x n).toNat).length) c c.size
theorem M.nxo_at {NM : Nat → ByteArray} {RL : Nat → List (ByteArray × ByteArray)} {n i : Nat} {c x : ByteArray} (h : M.rankTo NM x n = (i : Int)) : M.nxo NM RL n c x = M.look (M.ruleAt (nF (RL i)) (nT (RL i)) (RL i).length) c c.size := by
  unfold M.nxo; rw [if_neg (by omega), h, Int.toNat_natCast]
/-- The path of a letter and how it ends. -/
def M.path (NM : Nat → ByteArray) (RL : Nat → List (ByteArray × ByteArray)) (n : Nat) (start c : ByteArray) : List ByteArray × Int := M.rt (M.nxo NM RL n c) (n + 1) [] start
def M.routeOk (n : Nat) (NM : Nat → ByteArray) (RL : Nat → List (ByteArray × ByteArray)) (start : ByteArray) : Bool := M.net n NM RL && decide (0 ≤ M.rankTo NM start n)
def M.routeP (n : Nat) (NM : Nat → ByteArray) (RL : Nat → List (ByteArray × ByteArray)) (start c : ByteArray) : List ByteArray × Int := if (M.routeOk n NM RL start && M.code c) = true then M.path NM RL n start c else ([], 3)
theorem M.routeP_no {n : Nat} {NM : Nat → ByteArray} {RL : Nat → List (ByteArray × ByteArray)} {start c : ByteArray} (h : M.routeOk n NM RL start = false ∨ M.code c = false) : M.routeP n NM RL start c = ([], 3) := by
  unfold M.routeP
  rw [if_neg]
  rcases h with h | h
  · rw [h, Bool.false_and]; decide
  · rw [h, Bool.and_false]; decide
theorem M.routeP_yes {n : Nat} {NM : Nat → ByteArray} {RL : Nat → List (ByteArray × ByteArray)} {start c : ByteArray} (h : M.routeOk n NM RL start = true) (hc : M.code c = true) : M.routeP n NM RL start c = M.path NM RL n start c := by
  unfold M.routeP; rw [h, hc]; rfl
/-- In a network, what an office tells is the word for itself or another office's name, and never empty. -/
theorem M.nxo_is {NM : Nat → ByteArray} {RL : Nat → List (ByteArray × ByteArray)} {n i : Nat} {c y : ByteArray} (hnet : M.net n NM RL = true) (hi : i < n) (h : M.look (M.ruleAt (nF (RL i)) (nT (RL i)) (RL i).length) c c.size = some y) : M.name y = true ∧ M.leads NM n y = true := by
  obtain ⟨_, _, h3⟩ := M.net_yes hnet
  obtain ⟨h4, h5⟩ := M.ruleOk_is (h3 i hi)
  obtain ⟨k, _, hk⟩ := M.look_is h
  obtain ⟨j, hj, _, e⟩ := M.ruleAt_some hk
  rw [nT_at hj] at e
  refine ⟨?_, ?_⟩
  · have := ((M.rul_yes h4).2 j hj).2.1
    rw [nT_at hj] at this
    rw [← e]; exact this
  · rw [← e]; exact h5 _ (List.getElem_mem hj)
end Go.Proofs.Ytabmbbnfpfkcaaa
