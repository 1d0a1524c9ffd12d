/-
  Plain functions on numbers of bins and passes. No program is named here.
-/
import Derived.PlainAid
import Derived.Test.YtedhenffolfkeaaLetM
import Derived.Test.YtedhenffolfkeaaIn
import Derived.Handy
import Derived.BigQuiet
import Derived.Deep.QuietTactic
import Derived.WalkLawsBesides
import Derived.Laws.EntriesVeiled
import Derived.Test.YtedhenffolfkeaaStr
import Derived.Maps.OwnOps
import Derived.Maps.OwnSet
import Derived.Maps.Views
import Derived.Maps.AppendAt
import Derived.OwnWalk
import Derived.Laws.OwnMore
import Derived.Test.YtedhenffolfkeaaDrawG
import Derived.Deep.AppendLies
import Derived.Deep.RegionLaw
import Derived.Test.YtedhenffolfkeaaDrawB
namespace Go.Proofs.Ytedhenffolfkeaa.M

/-- The shape of a plan. -/
def shape (b p : Int) : Bool := decide (2 ≤ b ∧ b ≤ 16 ∧ 1 ≤ p ∧ p ≤ 4)
/-- Bins to the power of passes. -/
def pw (b : Int) : Nat → Int
  | 0 => 1
  | k + 1 => pw b k * b
def cap (b p : Int) : Int := if shape b p = true then pw b p.toNat else -1
theorem pw_zero (b : Int) : pw b 0 = 1 := rfl
theorem pw_succ (b : Int) (k : Nat) : pw b (k + 1) = pw b k * b := rfl
theorem pw_fin : ∀ b : Fin 17, ∀ k : Fin 5, 0 ≤ pw (b.val : Int) k.val ∧ pw (b.val : Int) k.val ≤ 65536 ∧ (2 ≤ b.val → 1 ≤ pw (b.val : Int) k.val) := by decide
theorem pw_bd (b : Int) (k : Nat) (b0 : 0 ≤ b) (b1 : b ≤ 16) (hk : k ≤ 4) : 0 ≤ pw b k ∧ pw b k ≤ 65536 := by
  obtain ⟨n, rfl⟩ := Int.eq_ofNat_of_zero_le b0
  have h := pw_fin ⟨n, by omega⟩ ⟨k, by omega⟩
  exact ⟨h.1, h.2.1⟩
theorem pw_pos (b : Int) (k : Nat) (b0 : 2 ≤ b) (b1 : b ≤ 16) (hk : k ≤ 4) : 1 ≤ pw b k := by
  obtain ⟨n, rfl⟩ := Int.eq_ofNat_of_zero_le (show 0 ≤ b by omega)
  have h := pw_fin ⟨n, by omega⟩ ⟨k, by omega⟩
  exact h.2.2 (by show 2 ≤ n; omega)
theorem cap_yes {b p : Int} (h : shape b p = true) : cap b p = pw b p.toNat := if_pos h
theorem cap_no {b p : Int} (h : shape b p = false) : cap b p = -1 := if_neg (by rw [h]; decide)
theorem shape_yes {b p : Int} (h : shape b p = true) : 2 ≤ b ∧ b ≤ 16 ∧ 1 ≤ p ∧ p ≤ 4 := of_decide_eq_true h
theorem shape_no {b p : Int} (h : shape b p = false) : b < 2 ∨ 16 < b ∨ p < 1 ∨ 4 < p := by have := of_decide_eq_false h; omega
theorem cap_bd (b p : Int) : -1 ≤ cap b p ∧ cap b p ≤ 65536 := by
  cases h : shape b p
  · rw [cap_no h]; omega
  · have := shape_yes h
    have := pw_bd b p.toNat (by omega) (by omega) (by omega)
    rw [cap_yes h]; omega
theorem cap_neg {b p : Int} : cap b p < 0 ↔ shape b p = false := by
  cases h : shape b p
  · rw [cap_no h]; simp
  · have := shape_yes h
    have := pw_bd b p.toNat (by omega) (by omega) (by omega)
    rw [cap_yes h]; simp; omega
/-- The least number from x on, of k numbers, whose value is not less than c. -/
def least (f : Int → Int) (c : Int) : Nat → Int → Int
  | 0, _ => -1
  | k + 1, x => if c ≤ f x then x else least f c k (x + 1)
theorem least_end (f : Int → Int) (c x : Int) : least f c 0 x = -1 := rfl
theorem least_hit {f : Int → Int} {c x : Int} (k : Nat) (h : c ≤ f x) : least f c (k + 1) x = x := if_pos h
theorem least_miss {f : Int → Int} {c x : Int} (k : Nat) (h : ¬ c ≤ f x) : least f c (k + 1) x = least f c k (x + 1) := if_neg h
theorem least_none {f : Int → Int} {c : Int} : ∀ (k : Nat) (x : Int), (∀ y, x ≤ y → y < x + k → ¬ c ≤ f y) → least f c k x = -1
  | 0, _, _ => rfl
  | k + 1, x, h => by rw [least_miss k (h x (by omega) (by omega)), least_none k (x + 1) fun y h1 h2 => h y (by omega) (by omega)]
/-- What is known of the least number: nothing before it serves; it serves, or there is none. -/
theorem least_spec {f : Int → Int} {c : Int} : ∀ (k : Nat) (x : Int), (least f c k x = -1 ∧ ∀ y, x ≤ y → y < x + k → f y < c) ∨ (x ≤ least f c k x ∧ least f c k x < x + k ∧ c ≤ f (least f c k x) ∧ ∀ y, x ≤ y → y < least f c k x → f y < c)
  | 0, x => Or.inl ⟨rfl, fun y h1 h2 => by omega⟩
  | k + 1, x => by
    by_cases h : c ≤ f x
    · rw [least_hit k h]
      exact Or.inr ⟨by omega, by omega, h, fun y h1 h2 => by omega⟩
    · rw [least_miss k h]
      rcases least_spec (f := f) (c := c) k (x + 1) with ⟨e, hn⟩ | ⟨h1, h2, h3, h4⟩
      · refine Or.inl ⟨e, fun y hy1 hy2 => ?_⟩
        by_cases e2 : y = x
        · subst e2; omega
        · exact hn y (by omega) (by omega)
      · refine Or.inr ⟨by omega, by omega, h3, fun y hy1 hy2 => ?_⟩
        by_cases e2 : y = x
        · subst e2; omega
        · exact h4 y (by omega) hy2
def leastBins (c p : Int) : Int := if 0 ≤ c then least (fun b => cap b p) c 15 2 else -1
def leastPasses (c b : Int) : Int := if 0 ≤ c then least (fun p => cap b p) c 4 1 else -1
theorem leastBins_neg {c p : Int} (h : c < 0) : leastBins c p = -1 := if_neg (by omega)
theorem leastPasses_neg {c p : Int} (h : c < 0) : leastPasses c p = -1 := if_neg (by omega)
theorem leastBins_pos {c p : Int} (h : 0 ≤ c) : leastBins c p = least (fun b => cap b p) c 15 2 := if_pos h
theorem leastPasses_pos {c p : Int} (h : 0 ≤ c) : leastPasses c p = least (fun b => cap p b) c 4 1 := if_pos h
theorem leastBins_shapeless {c p : Int} (h : p < 1 ∨ 4 < p) : leastBins c p = -1 := by
  by_cases hc : 0 ≤ c
  · rw [leastBins_pos hc]
    refine least_none _ _ fun y _ _ => ?_
    have hs : shape y p = false := decide_eq_false (by omega)
    show ¬ c ≤ cap y p
    rw [cap_no hs]; omega
  · exact leastBins_neg (by omega)
theorem leastPasses_shapeless {c b : Int} (h : b < 2 ∨ 16 < b) : leastPasses c b = -1 := by
  by_cases hc : 0 ≤ c
  · rw [leastPasses_pos hc]
    refine least_none _ _ fun y _ _ => ?_
    have hs : shape b y = false := decide_eq_false (by omega)
    show ¬ c ≤ cap b y
    rw [cap_no hs]; omega
  · exact leastPasses_neg (by omega)
/-- Which numbers of bins serve: from the least on. -/
theorem cap_mono_fin : ∀ b : Fin 17, ∀ d : Fin 17, ∀ k : Fin 5, b.val ≤ d.val → pw (b.val : Int) k.val ≤ pw (d.val : Int) k.val := by decide
theorem pw_mono_b {b d : Int} {k : Nat} (b0 : 0 ≤ b) (h : b ≤ d) (d1 : d ≤ 16) (hk : k ≤ 4) : pw b k ≤ pw d k := by
  obtain ⟨n, rfl⟩ := Int.eq_ofNat_of_zero_le b0
  obtain ⟨m, rfl⟩ := Int.eq_ofNat_of_zero_le (show 0 ≤ d by omega)
  exact cap_mono_fin ⟨n, by omega⟩ ⟨m, by omega⟩ ⟨k, by omega⟩ (by show n ≤ m; omega)
theorem pw_mono_fin : ∀ b : Fin 17, ∀ k : Fin 5, ∀ j : Fin 5, 1 ≤ b.val → k.val ≤ j.val → pw (b.val : Int) k.val ≤ pw (b.val : Int) j.val := by decide
theorem pw_mono_p {b : Int} {k j : Nat} (b0 : 1 ≤ b) (b1 : b ≤ 16) (h : k ≤ j) (hk : j ≤ 4) : pw b k ≤ pw b j := by
  obtain ⟨n, rfl⟩ := Int.eq_ofNat_of_zero_le (show 0 ≤ b by omega)
  exact pw_mono_fin ⟨n, by omega⟩ ⟨k, by omega⟩ ⟨j, by omega⟩ (by show 1 ≤ n; omega) h
/-- A number of bins serves exactly from the least one on. -/
theorem leastBins_iff {c p b : Int} (hc : 0 ≤ c) (b0 : 2 ≤ b) (b1 : b ≤ 16) (hp : 0 ≤ cap b p) : c ≤ cap b p ↔ 0 < leastBins c p ∧ leastBins c p ≤ b := by
  have hsb : shape b p = true := by
    cases h : shape b p
    · rw [cap_no h] at hp; omega
    · rfl
  have sb := shape_yes hsb
  rw [leastBins_pos hc]
  have capE : ∀ y, 2 ≤ y → y ≤ 16 → cap y p = pw y p.toNat := fun y h1 h2 => cap_yes (decide_eq_true (by omega))
  rcases least_spec (f := fun b => cap b p) (c := c) 15 2 with ⟨e, hn⟩ | ⟨h1, h2, h3, h4⟩
  · rw [e]
    have := hn b (by omega) (by omega)
    constructor
    · intro h; omega
    · intro h; omega
  · generalize least (fun b => cap b p) c 15 2 = L at h1 h2 h3 h4 ⊢
    constructor
    · intro h
      refine ⟨by omega, ?_⟩
      by_cases hlt : b < L
      · have := h4 b (by omega) hlt; omega
      · omega
    · rintro ⟨_, h⟩
      have := pw_mono_b (b := L) (d := b) (k := p.toNat) (by omega) h (by omega) (by omega)
      rw [capE L (by omega) (by omega)] at h3
      rw [capE b (by omega) (by omega)]
      omega
theorem leastBins_ge (c p : Int) : leastBins c p = -1 ∨ 2 ≤ leastBins c p := by
  by_cases hc : 0 ≤ c
  · rw [leastBins_pos hc]
    rcases least_spec (f := fun b => cap b p) (c := c) 15 2 with ⟨e, _⟩ | ⟨h1, _⟩
    · exact Or.inl e
    · exact Or.inr h1
  · exact Or.inl (leastBins_neg (by omega))
theorem leastPasses_iff {c p b : Int} (hc : 0 ≤ c) (p0 : 1 ≤ p) (p1 : p ≤ 4) (hp : 0 ≤ cap b p) : c ≤ cap b p ↔ 0 < leastPasses c b ∧ leastPasses c b ≤ p := by
  have hsb : shape b p = true := by
    cases h : shape b p
    · rw [cap_no h] at hp; omega
    · rfl
  have sb := shape_yes hsb
  rw [leastPasses_pos hc]
  have capE : ∀ y, 1 ≤ y → y ≤ 4 → cap b y = pw b y.toNat := fun y h1 h2 => cap_yes (decide_eq_true (by omega))
  rcases least_spec (f := fun p => cap b p) (c := c) 4 1 with ⟨e, hn⟩ | ⟨h1, h2, h3, h4⟩
  · rw [e]
    have := hn p (by omega) (by omega)
    constructor
    · intro h; omega
    · intro h; omega
  · generalize least (fun p => cap b p) c 4 1 = L at h1 h2 h3 h4 ⊢
    constructor
    · intro h
      refine ⟨by omega, ?_⟩
      by_cases hlt : p < L
      · have := h4 p (by omega) hlt; omega
      · omega
    · rintro ⟨_, h⟩
      have := pw_mono_p (b := b) (k := L.toNat) (j := p.toNat) (by omega) (by omega) (by omega) (by omega)
      rw [capE L (by omega) (by omega)] at h3
      rw [capE p (by omega) (by omega)]
      omega
theorem leastPasses_ge (c b : Int) : leastPasses c b = -1 ∨ 1 ≤ leastPasses c b := by
  by_cases hc : 0 ≤ c
  · rw [leastPasses_pos hc]
    rcases least_spec (f := fun p => cap b p) (c := c) 4 1 with ⟨e, _⟩ | ⟨h1, _⟩
    · exact Or.inl e
    · exact Or.inr h1
  · exact Or.inl (leastPasses_neg (by omega))
theorem leastBins_bd (c p : Int) : -1 ≤ leastBins c p ∧ leastBins c p ≤ 16 := by
  by_cases hc : 0 ≤ c
  · rw [leastBins_pos hc]
    rcases least_spec (f := fun b => cap b p) (c := c) 15 2 with ⟨e, _⟩ | ⟨h1, h2, _⟩ <;> omega
  · rw [leastBins_neg (by omega)]; omega
theorem leastPasses_bd (c b : Int) : -1 ≤ leastPasses c b ∧ leastPasses c b ≤ 4 := by
  by_cases hc : 0 ≤ c
  · rw [leastPasses_pos hc]
    rcases least_spec (f := fun p => cap b p) (c := c) 4 1 with ⟨e, _⟩ | ⟨h1, h2, _⟩ <;> omega
  · rw [leastPasses_neg (by omega)]; omega
/-- As many codes as the capacity need exactly these passes and bins. -/
theorem exact_fin : ∀ b : Fin 17, ∀ p : Fin 5, 2 ≤ b.val → 1 ≤ p.val → leastPasses (cap (b.val : Int) (p.val : Int)) (b.val : Int) = (p.val : Int) ∧ leastBins (cap (b.val : Int) (p.val : Int)) (p.val : Int) = (b.val : Int) ∧ (p.val = 4 ∨ leastPasses (cap (b.val : Int) (p.val : Int) + 1) (b.val : Int) = (p.val : Int) + 1) ∧
    cap (b.val : Int) (p.val : Int) = (if 1 < p.val then cap (b.val : Int) ((p.val : Int) - 1) else 1) * (b.val : Int) := by decide +kernel
theorem exact_all {b p : Int} (h : shape b p = true) : leastPasses (cap b p) b = p ∧ leastBins (cap b p) p = b ∧ (p = 4 ∨ leastPasses (cap b p + 1) b = p + 1) ∧ cap b p = (if 1 < p then cap b (p - 1) else 1) * b := by
  have hs := shape_yes h
  obtain ⟨n, rfl⟩ := Int.eq_ofNat_of_zero_le (show 0 ≤ b by omega)
  obtain ⟨m, rfl⟩ := Int.eq_ofNat_of_zero_le (show 0 ≤ p by omega)
  have h := exact_fin ⟨n, by omega⟩ ⟨m, by omega⟩ (by show 2 ≤ n; omega) (by show 1 ≤ m; omega)
  obtain ⟨h1, h2, h3, h4⟩ := h
  refine ⟨h1, h2, ?_, ?_⟩
  · rcases h3 with h3 | h3
    · exact Or.inl (by have : m = 4 := h3; omega)
    · exact Or.inr h3
  · have h4' : cap (n : Int) (m : Int) = (if 1 < m then cap (n : Int) ((m : Int) - 1) else 1) * (n : Int) := h4
    rw [h4']
    by_cases hm : 1 < m
    · rw [if_pos hm, if_pos (show (1 : Int) < (m : Int) by omega)]
    · rw [if_neg hm, if_neg (show ¬ (1 : Int) < (m : Int) by omega)]
end Go.Proofs.Ytedhenffolfkeaa.M

/-
  Plain functions on plans: the codes of a round, given by index. No program is named here.
-/
namespace Go.Proofs.Ytedhenffolfkeaa.M
open Go.PlainAid (bt)

/-- The first m strings are codes, no two the same. -/
def diffTo (S : Nat → ByteArray) (m : Nat) : Bool := (List.range m).all fun i => code (S i) && (List.range i).all fun k => decide (S k ≠ S i)
theorem diffTo_iff (S : Nat → ByteArray) (m : Nat) : diffTo S m = true ↔ ∀ i, i < m → code (S i) = true ∧ ∀ k, k < i → S k ≠ S i := by
  unfold diffTo
  rw [List.all_eq_true]
  constructor
  · intro h i hi
    have := h i (List.mem_range.2 hi)
    rw [Bool.and_eq_true, List.all_eq_true] at this
    exact ⟨this.1, fun k hk => of_decide_eq_true (this.2 k (List.mem_range.2 hk))⟩
  · intro h i hi
    obtain ⟨h1, h2⟩ := h i (List.mem_range.1 hi)
    rw [Bool.and_eq_true, List.all_eq_true]
    exact ⟨h1, fun k hk => decide_eq_true (h2 k (List.mem_range.1 hk))⟩
theorem diffTo_zero (S : Nat → ByteArray) : diffTo S 0 = true := rfl
theorem diffTo_succ {S : Nat → ByteArray} {m : Nat} (h : diffTo S m = true) (h1 : code (S m) = true) (h3 : ∀ k, k < m → S k ≠ S m) : diffTo S (m + 1) = true :=
  (diffTo_iff S (m + 1)).2 fun i hi => by
    by_cases e : i = m
    · subst e; exact ⟨h1, h3⟩
    · exact (diffTo_iff S m).1 h i (by omega)
theorem diffTo_no {S : Nat → ByteArray} {n k : Nat} (hk : k < n) (h : code (S k) = false ∨ ∃ j, j < k ∧ S j = S k) : diffTo S n = false := by
  rw [Bool.eq_false_iff]
  intro e
  obtain ⟨h1, h3⟩ := (diffTo_iff S n).1 e k hk
  rcases h with h | ⟨j, hj, h⟩
  · rw [h] at h1; cases h1
  · exact h3 j hj h
/-- The numbers of a plan fit its codes. -/
def fits (b p : Int) (n : Nat) : Bool := shape b p && decide (1 ≤ n ∧ n ≤ 60 ∧ (n : Int) ≤ pw b p.toNat)
/-- A plan is valid. -/
def plan (b p : Int) (n : Nat) (S : Nat → ByteArray) : Bool := fits b p n && diffTo S n
theorem fits_yes {b p : Int} {n : Nat} (h : fits b p n = true) : shape b p = true ∧ 1 ≤ n ∧ n ≤ 60 ∧ (n : Int) ≤ pw b p.toNat := by
  unfold fits at h
  rw [Bool.and_eq_true] at h
  exact ⟨h.1, of_decide_eq_true h.2⟩
theorem plan_yes {b p : Int} {n : Nat} {S : Nat → ByteArray} (h : plan b p n S = true) : fits b p n = true ∧ diffTo S n = true := by
  unfold plan at h
  rwa [Bool.and_eq_true] at h
theorem plan_misfit {b p : Int} {n : Nat} {S : Nat → ByteArray} (h : fits b p n = false) : plan b p n S = false := by unfold plan; rw [h]; rfl
theorem plan_fit {b p : Int} {n : Nat} {S : Nat → ByteArray} (h : fits b p n = true) : plan b p n S = diffTo S n := by unfold plan; rw [h]; rfl
theorem fits_cap {b p : Int} {n : Nat} (h1 : 1 ≤ n) (h2 : n ≤ 60) : fits b p n = decide ((n : Int) ≤ cap b p) := by
  unfold fits
  cases hs : shape b p
  · rw [cap_no hs, Bool.false_and]
    exact (decide_eq_false (by omega)).symm
  · rw [cap_yes hs, Bool.true_and]
    exact decide_eq_decide.2 ⟨fun h => h.2.2, fun h => ⟨h1, h2, h⟩⟩
theorem fits_small {b p : Int} {n : Nat} (h : n < 1 ∨ 60 < n) : fits b p n = false := by
  unfold fits
  rw [decide_eq_false (show ¬ (1 ≤ n ∧ n ≤ 60 ∧ (n : Int) ≤ pw b p.toNat) by omega), Bool.and_false]
/-- Where a code stands among n; -1 if it doesn't. -/
def rankTo (S : Nat → ByteArray) (c : ByteArray) : Nat → Int
  | 0 => -1
  | k + 1 => if rankTo S c k = -1 then (if S k = c then (k : Int) else -1) else rankTo S c k
theorem rankTo_succ (S : Nat → ByteArray) (c : ByteArray) (k : Nat) : rankTo S c (k + 1) = if rankTo S c k = -1 then (if S k = c then (k : Int) else -1) else rankTo S c k := rfl
theorem rank_miss {S : Nat → ByteArray} {c : ByteArray} : ∀ {n : Nat}, (∀ j, j < n → S j ≠ c) → rankTo S c n = -1
  | 0, _ => rfl
  | k + 1, h => by
    unfold rankTo
    rw [if_pos (rank_miss fun j hj => h j (by omega)), if_neg (h k (by omega))]
theorem rank_stay {S : Nat → ByteArray} {c : ByteArray} {k : Nat} (h0 : 0 ≤ rankTo S c k) : ∀ {n : Nat}, k ≤ n → rankTo S c n = rankTo S c k
  | 0, h => by have : k = 0 := by omega
               subst this; rfl
  | n + 1, h => by
    by_cases e : k = n + 1
    · subst e; rfl
    · have ih := rank_stay h0 (n := n) (by omega)
      rw [rankTo_succ, if_neg (by rw [ih]; omega), ih]
theorem rank_hit {S : Nat → ByteArray} {c : ByteArray} {n k : Nat} (hk : k < n) (h : S k = c) (hn : ∀ j, j < k → S j ≠ c) : rankTo S c n = (k : Int) := by
  have h1 : rankTo S c (k + 1) = (k : Int) := by
    unfold rankTo
    rw [if_pos (rank_miss hn), if_pos h]
  rw [rank_stay (k := k + 1) (by rw [h1]; omega) (by omega), h1]
theorem rank_bd (S : Nat → ByteArray) (c : ByteArray) : ∀ n, -1 ≤ rankTo S c n ∧ rankTo S c n < (n : Int)
  | 0 => by unfold rankTo; omega
  | n + 1 => by
    have := rank_bd S c n
    unfold rankTo
    split
    · split <;> omega
    · omega
theorem rank_at {S : Nat → ByteArray} {c : ByteArray} : ∀ {n : Nat}, 0 ≤ rankTo S c n → S (rankTo S c n).toNat = c
  | 0, h => by unfold rankTo at h; omega
  | n + 1, h => by
    by_cases h1 : rankTo S c n = -1
    · by_cases h2 : S n = c
      · have e : rankTo S c (n + 1) = (n : Int) := by unfold rankTo; rw [if_pos h1, if_pos h2]
        rw [e, Int.toNat_natCast]; exact h2
      · have e : rankTo S c (n + 1) = -1 := by unfold rankTo; rw [if_pos h1, if_neg h2]
        omega
    · have e : rankTo S c (n + 1) = rankTo S c n := by rw [rankTo_succ, if_neg h1]
      rw [e] at h ⊢
      exact rank_at h
theorem rank_none {S : Nat → ByteArray} {c : ByteArray} {n : Nat} (h : rankTo S c n = -1) (j : Nat) (hj : j < n) : S j ≠ c := by
  intro e
  have : ∃ k, k ≤ j ∧ S k = c ∧ ∀ i, i < k → S i ≠ c := by
    clear h hj
    induction j using Nat.strongRecOn with
    | ind j ih =>
      by_cases hx : ∃ i, i < j ∧ S i = c
      · obtain ⟨i, hi, hi2⟩ := hx
        obtain ⟨k, hk, hk2⟩ := ih i hi hi2
        exact ⟨k, by omega, hk2⟩
      · exact ⟨j, Nat.le_refl _, e, fun i hi h2 => hx ⟨i, hi, h2⟩⟩
  obtain ⟨k, hk, hk1, hk2⟩ := this
  have := rank_hit (n := n) (by omega) hk1 hk2
  omega
def planRank (b p : Int) (n : Nat) (S : Nat → ByteArray) (c : ByteArray) : Int := if plan b p n S = true then rankTo S c n else -1
theorem planRank_yes {b p : Int} {n : Nat} {S : Nat → ByteArray} {c : ByteArray} (h : plan b p n S = true) : planRank b p n S c = rankTo S c n := if_pos h
theorem planRank_no {b p : Int} {n : Nat} {S : Nat → ByteArray} {c : ByteArray} (h : plan b p n S = false) : planRank b p n S c = -1 := if_neg (by rw [h]; decide)
/-- One digit of a rank. -/
def rankBin (b r : Int) (k : Nat) : Int := r / pw b k % b
theorem rankBin_bd {b r : Int} {k : Nat} (b0 : 2 ≤ b) : 0 ≤ rankBin b r k ∧ rankBin b r k < b := ⟨Int.emod_nonneg _ (by omega), Int.emod_lt_of_pos _ (by omega)⟩
def planBin (b p : Int) (n : Nat) (S : Nat → ByteArray) (c : ByteArray) (x : Int) : Int := if plan b p n S = true ∧ 0 ≤ x ∧ x < p ∧ 0 ≤ rankTo S c n then rankBin b (rankTo S c n) x.toNat else -1
theorem planBin_yes {b p : Int} {n : Nat} {S : Nat → ByteArray} {c : ByteArray} {x : Int} (h : plan b p n S = true) (h1 : 0 ≤ x) (h2 : x < p) (h3 : 0 ≤ rankTo S c n) : planBin b p n S c x = rankBin b (rankTo S c n) x.toNat := if_pos ⟨h, h1, h2, h3⟩
theorem planBin_no {b p : Int} {n : Nat} {S : Nat → ByteArray} {c : ByteArray} {x : Int} (h : plan b p n S = false ∨ x < 0 ∨ p ≤ x ∨ rankTo S c n < 0) : planBin b p n S c x = -1 := if_neg (by
  rintro ⟨h0, h1, h2, h3⟩
  rcases h with h | h | h | h
  · rw [h] at h0; cases h0
  · omega
  · omega
  · omega)
theorem plan_shape {b p : Int} {n : Nat} {S : Nat → ByteArray} (h : plan b p n S = true) : 2 ≤ b ∧ b ≤ 16 ∧ 1 ≤ p ∧ p ≤ 4 := shape_yes (fits_yes (plan_yes h).1).1
/-- The digits of a rank tell it. -/
theorem digit_step (b r : Int) (k : Nat) (b0 : 2 ≤ b) (b1 : b ≤ 16) (hk : k ≤ 4) : r / pw b (k + 1) * b + rankBin b r k = r / pw b k := by
  unfold rankBin
  rw [pw_succ, ← Int.ediv_ediv_of_nonneg (by have := pw_pos b k b0 b1 hk; omega)]
  have := Int.mul_ediv_add_emod (r / pw b k) b
  rw [Int.mul_comm] at this
  exact this
/-- Letters whose codes have ranks that do not descend. -/
def ordTo (S : Nat → ByteArray) (n : Nat) (C : Nat → ByteArray) : Nat → Int
  | 0 => 0
  | k + 1 => if ordTo S n C k < 0 then -1 else (if rankTo S (C k) n < ordTo S n C k then -1 else rankTo S (C k) n)
def inOrder (b p : Int) (n : Nat) (S : Nat → ByteArray) (m : Nat) (I : Nat → Int) (C : Nat → ByteArray) : Bool := plan b p n S && batch m I C && decide (0 ≤ ordTo S n C m)
theorem ordTo_step {S : Nat → ByteArray} {n : Nat} {C : Nat → ByteArray} {k : Nat} (h : 0 ≤ ordTo S n C k) (h2 : ordTo S n C k ≤ rankTo S (C k) n) : ordTo S n C (k + 1) = rankTo S (C k) n := by
  conv => lhs; unfold ordTo
  rw [if_neg (by omega), if_neg (by omega)]
theorem ordTo_stay {S : Nat → ByteArray} {n : Nat} {C : Nat → ByteArray} {k : Nat} (h : ordTo S n C k < 0) : ∀ {m : Nat}, k ≤ m → ordTo S n C m < 0
  | 0, hk => by have : k = 0 := by omega
                subst this; exact h
  | m + 1, hk => by
    by_cases e : k = m + 1
    · subst e; exact h
    · have := ordTo_stay h (m := m) (by omega)
      unfold ordTo
      rw [if_pos this]; omega
theorem ordTo_fail {S : Nat → ByteArray} {n : Nat} {C : Nat → ByteArray} {k m : Nat} (hk : k < m) (h : 0 ≤ ordTo S n C k) (h2 : rankTo S (C k) n < ordTo S n C k) : ordTo S n C m < 0 := by
  refine ordTo_stay (k := k + 1) ?_ (by omega)
  unfold ordTo
  rw [if_neg (by omega), if_pos h2]; omega
theorem inOrder_no {b p : Int} {n : Nat} {S : Nat → ByteArray} {m : Nat} {I : Nat → Int} {C : Nat → ByteArray} (h : plan b p n S = false ∨ batch m I C = false ∨ ordTo S n C m < 0) : inOrder b p n S m I C = false := by
  unfold inOrder
  rcases h with h | h | h
  · rw [h]; rfl
  · rw [h, Bool.and_false]; rfl
  · rw [decide_eq_false (by omega), Bool.and_false]
theorem inOrder_yes {b p : Int} {n : Nat} {S : Nat → ByteArray} {m : Nat} {I : Nat → Int} {C : Nat → ByteArray} (h : plan b p n S = true) (h1 : batch m I C = true) (h2 : 0 ≤ ordTo S n C m) : inOrder b p n S m I C = true := by
  unfold inOrder
  rw [h, h1, decide_eq_true h2]; rfl
end Go.Proofs.Ytedhenffolfkeaa.M

/-
  What CapacityOf, LeastBins and LeastPasses return, in the program and in the model of the document.
-/
namespace Go.Proofs.Ytedhenffolfkeaa
open Go.RowKit

theorem step0 {w a b : World} (h : Below w.heap.size w a) (k : Below a.heap.size a b) : Below w.heap.size w b := h.trans (k.mono h.size)
theorem below_drewN0 {B : Nat} {a w : World} (h : Below B a w) (n : Nat) : Below B a (w.drewN n) := ⟨h.os, h.tape, h.output, h.size, h.block⟩
end Go.Proofs.Ytedhenffolfkeaa

/-
  Plans by value: the copy and the comparison of the law's own text; whether a plan is valid, in the program and in the model of the document.
-/
namespace Go.Proofs.Ytedhenffolfkeaa
open Go.RowKit Go.Maps
open Go.PlainAid (bt get_bt bt_nonneg bt_le)

/-- A block of three cells, which can be written. -/
def Tri (w : World) (b : Nat) (x y z : Value) : Prop := (w.cell? ⟨b, 0, none⟩ = some x ∧ w.cell? ⟨b, 1, none⟩ = some y ∧ w.cell? ⟨b, 2, none⟩ = some z) ∧ (w.frozen? ⟨b, 0, none⟩ = false ∧ w.frozen? ⟨b, 1, none⟩ = false ∧ w.frozen? ⟨b, 2, none⟩ = false)
theorem Tri.lt {w : World} {b : Nat} {x y z : Value} (h : Tri w b x y z) : b < w.heap.size := World.block_lt_of_cell? _ _ h.1.1
theorem Tri.on {w w' : World} {b : Nat} {x y z : Value} (h : Tri w b x y z) (hb : Below w.heap.size w w') : Tri w' b x y z := by
  have hlt := h.lt
  obtain ⟨⟨h0, h1, h2⟩, f0, f1, f2⟩ := h
  have k := fun o => hb.cell (p := ⟨b, o, none⟩) hlt
  have q := fun o => hb.frozen (p := ⟨b, o, none⟩) hlt
  exact ⟨⟨by rw [k]; exact h0, by rw [k]; exact h1, by rw [k]; exact h2⟩, by rw [q]; exact f0, by rw [q]; exact f1, by rw [q]; exact f2⟩
theorem tri_made (w : World) (x y z : Value) (T : TypeId) : Tri (w.alloc (.cells #[x, y, z] T)) w.heap.size x y z :=
  ⟨⟨by simp [go_sem], by simp [go_sem], by simp [go_sem]⟩, by simp [go_sem], by simp [go_sem], by simp [go_sem]⟩
theorem Tri.alloc {w : World} {b : Nat} {x y z : Value} (h : Tri w b x y z) (o : Obj) : Tri (w.alloc o) b x y z := h.on (below_alloc0 w o)

theorem neq_list0 {a b : ByteArray} (h : a ≠ b) : (a.toList == b.toList) = false := by
  rw [beq_eq_false_iff_ne]
  intro e
  rw [ByteArray.toList_eq, ByteArray.toList_eq] at e
  exact h (ByteArray.ext (Array.toList_inj.1 e))
theorem quiet_flip {P : Program} {f : FuncId} {args : Array Value} {w : World} {v : Value} (h : Calls P f args w fun e w' => e = .returned v ∧ w = w') : Calls P f args w fun e w' => e = .returned v ∧ w' = w :=
  h.mono fun _ _ ⟨he, hw⟩ => ⟨he, hw.symm⟩

/-- The first k strings, as the map that the program fills. -/
def SeenS (S : Nat → ByteArray) : Nat → DataW Unit
  | 0 => .map []
  | k + 1 => (SeenS S k).put (.string (S k).data.toList) (.lit (.bool true))
theorem SeenS.isMap (S : Nat → ByteArray) : ∀ k, IsMap (SeenS S k)
  | 0 => isMap_empty
  | k + 1 => (SeenS.isMap S k).put _ _
theorem SeenS.hit (S : Nat → ByteArray) : ∀ k j, j < k → (SeenS S k).atKey (.string (S j).data.toList) (.lit (.bool false)) = .lit (.bool true)
  | 0, j, h => absurd h (by omega)
  | k + 1, j, h => by
    by_cases e : S j = S k
    · rw [e]
      exact atKey_put_same (SeenS.isMap S k) (by simp [WideAt.IsKeyLit]) _ _
    · rw [SeenS, atKey_put_other (by intro h'; injection h' with h2; exact e (ByteArray.ext (Array.toList_inj.1 h2)))]
      exact SeenS.hit S k j (by by_cases e2 : j = k; (subst e2; exact absurd rfl e); omega)
theorem SeenS.miss (S : Nat → ByteArray) (x : ByteArray) : ∀ k, (∀ j, j < k → S j ≠ x) → (SeenS S k).atKey (.string x.data.toList) (.lit (.bool false)) = .lit (.bool false)
  | 0, _ => rfl
  | k + 1, h => by
    rw [SeenS, atKey_put_other (by intro h'; injection h' with h2; exact h k (by omega) (ByteArray.ext (Array.toList_inj.1 h2)).symm)]
    exact SeenS.miss S x k fun j hj => h j (by omega)
theorem plainElem_bool_invS {H : Type} {P : Program} {e : TypeId} (he : P.underlying e = some .bool) {v : Value} {z : DataW H × List MemPlace} (h : plainElem P e v = some z) : ∃ x, v = .bool x ∧ z = (.lit (.bool x), []) := by
  unfold plainElem at h
  rw [he] at h
  cases v <;> simp at h
  exact ⟨_, rfl, h.symm⟩
theorem look_boolS {P : Program} {w : World} {t k e : TypeId} {b n : Nat} {D : DataW Unit} (h : w.ownsMap P k (plainElem P e) b n D) (K : Keyed P k) (ht : P.underlying t = some (.map k e)) (he : P.underlying e = some .bool) (hz : (zeroValue e).run P w = .ok (.bool false) w)
    {key : Value} {kl : Lit} (hkey : keyOf P k key = some kl) {x : Bool} (hx : D.atKey kl (.lit (.bool false)) = .lit (.bool x)) : (Instr.lookup t (.map (some b)) key false).run P w = .ok (.bool x) w := by
  obtain ⟨v, ps, hrun, hv⟩ := h.lookup K ht hz (plainElem_bool he false) hkey
  obtain ⟨c, rfl, hc⟩ := plainElem_bool_invS he hv
  simp only [Prod.mk.injEq] at hc
  have : (.lit (.bool x) : DataW Unit) = .lit (.bool c) := hx.symm.trans hc.1
  injection this with this
  injection this with this
  rw [this]; exact hrun
theorem lawStr : Keyed Try.prog 9 := string_keyed Try.underlying9
theorem zeroBoolS (w : World) : (zeroValue 4).run Try.prog w = .ok (.bool false) w := by kernel_rfl
/-- The map that differentCodes fills. -/
def OwnSeenS (w : World) (b : Nat) (S : Nat → ByteArray) (k : Nat) : Prop := w.ownsMap Try.prog 9 (plainElem Try.prog 4) b k (SeenS S k)
end Go.Proofs.Ytedhenffolfkeaa

/-
  What PlanRank, PlanBin and InOrder return, in the program and in the model of the document.
-/
namespace Go.Proofs.Ytedhenffolfkeaa
open Go.RowKit
open Go.PlainAid (bt get_bt bt_nonneg bt_le)

/-- Rank and digit as the walk has them. -/
theorem M.rankBin_t (b r : Int) (k : Nat) (b0 : 2 ≤ b) (b1 : b ≤ 16) (hk : k ≤ 4) (r0 : 0 ≤ r) : (r / M.pw b k).tmod b = M.rankBin b r k := by
  have := M.pw_pos b k b0 b1 hk
  unfold M.rankBin
  rw [Int.tmod_eq_emod_of_nonneg (Int.ediv_nonneg r0 (by omega))]

end Go.Proofs.Ytedhenffolfkeaa

/-
  A string is appended to a slice that the call itself has made.
-/
namespace Go.Proofs.Ytedhenffolfkeaa
open Go.RowKit

theorem sone_empty (w : World) : SRow (w.alloc (.cells #[] 9)) w.heap.size (.slice (some ⟨w.heap.size, 0, none⟩) 0 0) [] :=
  World.ownsRow_lit (base := w.heap.size) (e := 9) (size := 1) w #[] 0 (Nat.le_refl _) (by unfold maxLen; omega) rfl
theorem SRow.alloc {w : World} {base : Nat} {v : Value} {L : List ByteArray} (h : SRow w base v L) (o : Obj) : SRow (w.alloc o) base v L := World.ownsRow.alloc h o
theorem info_string : (Try.prog.info? 9).map (fun i => (i.zero, i.size, i.bytes)) = some (some (.string ⟨#[]⟩), 1, 16) := by kernel_rfl
theorem wpList_append_string {ops : Array Oper} {rest : List Oper} {o : Oper} {a : Act} {Q : Exit → Act → World → Prop} (w : World) (hgd : o.guard = none) (s x : Operand)
    (ho : o.op = .call { callee := .builtin .append, args := #[s, x], argTypes := #[39, 39] })
    (base : Nat) (v : Value) (L : List ByteArray) (hs : a.eval s = v) (hrow : SRow w base v L) (b : Nat) (t : ByteArray) (hx : a.eval x = .slice (some ⟨b, 0, none⟩) 1 1)
    (hc : w.cell? ⟨b, 0, none⟩ = some (.string t)) (hl : L.length ≤ 1048576) (hbase : base ≤ w.heap.size)
    (K : ∀ v' w', SRow w' base v' (L ++ [t]) → w.grownBy w' v.ownBlock → (v'.ownBlock = v.ownBlock ∨ v'.ownBlock = some w.heap.size) → wpList Try.prog ops Q rest (a.put o.dst v') w') :
    wpList Try.prog ops Q (o :: rest) a w := by
  obtain ⟨i0, hi, hz0, hz1, hz2⟩ := info_parts info_string
  refine wpList_append_own_at w hgd s x 39 ho base 9 i0 _ 1 16 Try.underlying39 hi hz0 hz1 hz2 rfl (by decide) v L.length (scells L) hs hrow ⟨b, 0, none⟩ 1 1 [.string t] hx rfl ?_ ?_ (by unfold maxLen; omega) (by omega) hbase ?_
  · intro j u hu
    match j, hu with
    | 0, hu => simp at hu; subst hu; simpa [Addr.add] using hc
  · intro u hu
    simp at hu
    subst hu; rfl
  · intro v' w' h1 h2 _ h3
    refine K v' w' ?_ h2 h3
    unfold SRow
    rw [List.length_append, scells_append]
    exact h1
end Go.Proofs.Ytedhenffolfkeaa

/-
  Drawn plans, and plans that are sometimes none.
-/
namespace Go.Proofs.Ytedhenffolfkeaa
open Go.RowKit

def SmallS (z : Nat) (L : List ByteArray) : Prop := ∀ x ∈ L, x.size ≤ z
theorem SRow.sg {w w' : World} {base r N : Nat} {v : Value} {L : List ByteArray} (h : SRow w base v L) (hs : Sg w w' r N) (hr : r < base) : SRow w' base v L :=
  h.kept hs.2 (fun b hb e => by have := (h.lt b hb).1; injection e with e; omega)
theorem Rd.sgrown {w w' : World} {base r N : Nat} {v : Value} {L : List ByteArray} (h : Rd w r N) (hr : SRow w base v L) (hrb : r < base) (hg : w.grownBy w' v.ownBlock) : Rd w' r N := by
  have hlt := h.lt
  have hne : ∀ b, b ≤ r → some b ≠ v.ownBlock := fun b hb e => by have := (hr.lt b e.symm).1; omega
  obtain ⟨p, a, l, k, hp, hN, h0, h1, hf, hlk, hk, hl, hB⟩ := h
  refine ⟨p, a, l, k, hp, hN, hg.cell h0 (hne r (Nat.le_refl _)), hg.cell h1 (hne r (Nat.le_refl _)), (World.frozen?_of_block (a := ⟨r, 1, none⟩) (hg.block r hlt (hne r (Nat.le_refl _)))).trans hf, hlk, hk, hl, ?_⟩
  rcases hB with hB | ⟨b, off, rfl, hbr, hB⟩
  · exact Or.inl hB
  · refine Or.inr ⟨b, off, rfl, hbr, fun i hi => ?_⟩
    obtain ⟨x, hx, x0, x1⟩ := hB i hi
    exact ⟨x, hg.cell hx (hne b (by omega)), x0, x1⟩
theorem Sg.sgrown {W w w' : World} {base r N : Nat} {v : Value} {L : List ByteArray} (h : Sg W w r N) (hr : SRow w base v L) (hb : W.heap.size ≤ base) (hrb : r < base) (hg : w.grownBy w' v.ownBlock) : Sg W w' r N :=
  ⟨h.1.sgrown hr hrb hg, h.2.andThen hg fun j e => Or.inl (Nat.le_trans hb (hr.lt j e).1)⟩
def SRowSg (W : World) (base m r N : Nat) (e : Ending) (w' : World) : Prop := ∃ (v : Value) (L : List ByteArray), e = .returned v ∧ SRow w' base v L ∧ 1 ≤ L.length ∧ L.length ≤ m ∧ SmallS 7 L ∧ Sg W w' r N
/-- A plan by value whose codes nobody but the call knows. -/
def PlanSg (W : World) (base r N : Nat) (e : Ending) (w' : World) : Prop := ∃ (b p : Int) (v : Value) (L : List ByteArray), e = .returned (.agg #[.int .i64 b, .int .i64 p, v]) ∧ (2 ≤ b ∧ b ≤ 10) ∧ (1 ≤ p ∧ p ≤ 4) ∧ SRow w' base v L ∧ 1 ≤ L.length ∧ L.length ≤ 12 ∧ SmallS 7 L ∧ Sg W w' r N
theorem max_one (q : Int) (h : q ≤ 4) : 1 ≤ max q 1 ∧ max q 1 ≤ 4 := by omega
theorem Tri.sg {w w' : World} {r N b : Nat} {x y z : Value} (h : Tri w b x y z) (hs : Sg w w' r N) (hr : r ≠ b) : Tri w' b x y z := by
  have hlt := h.lt
  obtain ⟨⟨h0, h1, h2⟩, f0, f1, f2⟩ := h
  have hb := hs.2.block b hlt (by intro e; injection e with e; exact hr e.symm)
  have k : ∀ o, w'.cell? ⟨b, o, none⟩ = w.cell? ⟨b, o, none⟩ := fun o => World.cell?_of_block hb
  have q : ∀ o, w'.frozen? ⟨b, o, none⟩ = w.frozen? ⟨b, o, none⟩ := fun o => World.frozen?_of_block hb
  exact ⟨⟨by rw [k]; exact h0, by rw [k]; exact h1, by rw [k]; exact h2⟩, by rw [q]; exact f0, by rw [q]; exact f1, by rw [q]; exact f2⟩
theorem Tri.setOther {w : World} {b : Nat} {x y z : Value} (h : Tri w b x y z) {p : Addr} (hc : b ≠ p.block) (v : Value) : Tri (w.setCell p v) b x y z := by
  obtain ⟨⟨h0, h1, h2⟩, f0, f1, f2⟩ := h
  have hb := Below.heap_setCell w p v b hc
  have k : ∀ i, (w.setCell p v).cell? ⟨b, i, none⟩ = w.cell? ⟨b, i, none⟩ := fun i => World.cell?_of_block hb
  have q : ∀ i, (w.setCell p v).frozen? ⟨b, i, none⟩ = w.frozen? ⟨b, i, none⟩ := fun i => World.frozen?_of_block hb
  exact ⟨⟨by rw [k]; exact h0, by rw [k]; exact h1, by rw [k]; exact h2⟩, by rw [q]; exact f0, by rw [q]; exact f1, by rw [q]; exact f2⟩
theorem Tri.stored {w : World} {b : Nat} {x y z : Value} (h : Tri w b x y z) (p q r : Value) : Tri (((w.setCell ⟨b, 0, none⟩ p).setCell ⟨b, 1, none⟩ q).setCell ⟨b, 2, none⟩ r) b p q r := by
  obtain ⟨⟨h0, h1, h2⟩, f0, f1, f2⟩ := h
  exact ⟨⟨by simp [go_sem, h0], by simp [go_sem, h1], by simp [go_sem, h2]⟩, by simp [go_sem, f0], by simp [go_sem, f1], by simp [go_sem, f2]⟩
theorem Sg.set {W w : World} {r N : Nat} (h : Sg W w r N) {p : Addr} (hp : W.heap.size ≤ p.block) (hr : r < p.block) (u : Value) : Sg W (w.setCell p u) r N := by
  refine ⟨?_, h.2.andThen (grown_set w p u) fun j e => Or.inl (by injection e with e; omega)⟩
  have hlt := h.1.lt
  obtain ⟨q, a, l, k, hq, hN, h0, h1, hf, hlk, hk, hl, hB⟩ := h.1
  have hg := grown_set w p u
  have hne : ∀ b, b ≤ r → some b ≠ some p.block := fun b hb e => by injection e with e; omega
  refine ⟨q, a, l, k, hq, hN, hg.cell h0 (hne r (Nat.le_refl _)), hg.cell h1 (hne r (Nat.le_refl _)), (World.frozen?_of_block (a := ⟨r, 1, none⟩) (hg.block r hlt (hne r (Nat.le_refl _)))).trans hf, hlk, hk, hl, ?_⟩
  rcases hB with hB | ⟨b, off, rfl, hbr, hB⟩
  · exact Or.inl hB
  · refine Or.inr ⟨b, off, rfl, hbr, fun i hi => ?_⟩
    obtain ⟨x, hx, x0, x1⟩ := hB i hi
    exact ⟨x, hg.cell hx (hne b (by omega)), x0, x1⟩
theorem Sg.three {W w : World} {r N b : Nat} (h : Sg W w r N) (hp : W.heap.size ≤ b) (hr : r < b) (x y z : Value) : Sg W (((w.setCell ⟨b, 0, none⟩ x).setCell ⟨b, 1, none⟩ y).setCell ⟨b, 2, none⟩ z) r N :=
  ((h.set (p := ⟨b, 0, none⟩) hp hr x).set (p := ⟨b, 1, none⟩) hp hr y).set (p := ⟨b, 2, none⟩) hp hr z
theorem SRow.three {w : World} {base b : Nat} {v : Value} {L : List ByteArray} (h : SRow w base v L) (hb : ∀ k, v.ownBlock = some k → k ≠ b) (x y z : Value) : SRow (((w.setCell ⟨b, 0, none⟩ x).setCell ⟨b, 1, none⟩ y).setCell ⟨b, 2, none⟩ z) base v L :=
  ((h.set (p := ⟨b, 0, none⟩) hb x).set (p := ⟨b, 1, none⟩) hb y).set (p := ⟨b, 2, none⟩) hb z

theorem Tri.only {w w' : World} {b : Nat} {x y z : Value} {S : Nat → Prop} (h : Tri w b x y z) (ho : Only w w' S) (hn : ¬ S b) : Tri w' b x y z := by
  have hlt := h.lt
  obtain ⟨⟨h0, h1, h2⟩, f0, f1, f2⟩ := h
  have hb := ho.block b hlt hn
  have k : ∀ i, w'.cell? ⟨b, i, none⟩ = w.cell? ⟨b, i, none⟩ := fun i => World.cell?_of_block hb
  have q : ∀ i, w'.frozen? ⟨b, i, none⟩ = w.frozen? ⟨b, i, none⟩ := fun i => World.frozen?_of_block hb
  exact ⟨⟨by rw [k]; exact h0, by rw [k]; exact h1, by rw [k]; exact h2⟩, by rw [q]; exact f0, by rw [q]; exact f1, by rw [q]; exact f2⟩
theorem Rd.only {w w' : World} {r N : Nat} {S : Nat → Prop} (h : Rd w r N) (ho : Only w w' S) (hn : ∀ k, k ≤ r → ¬ S k) : Rd w' r N := by
  have hlt := h.lt
  obtain ⟨q, a, l, k, hq, hN, h0, h1, hf, hlk, hk, hl, hB⟩ := h
  have hc : ∀ b o, b ≤ r → w'.cell? ⟨b, o, none⟩ = w.cell? ⟨b, o, none⟩ := fun b o hb => World.cell?_of_block (ho.block b (by omega) (hn b hb))
  refine ⟨q, a, l, k, hq, hN, (hc r 0 (Nat.le_refl _)).trans h0, (hc r 1 (Nat.le_refl _)).trans h1, (World.frozen?_of_block (a := ⟨r, 1, none⟩) (ho.block r hlt (hn r (Nat.le_refl _)))).trans hf, hlk, hk, hl, ?_⟩
  rcases hB with hB | ⟨b, off, rfl, hbr, hB⟩
  · exact Or.inl hB
  · refine Or.inr ⟨b, off, rfl, hbr, fun i hi => ?_⟩
    obtain ⟨x, hx, x0, x1⟩ := hB i hi
    exact ⟨x, (hc b _ (by omega)).trans hx, x0, x1⟩
theorem Sg.only {W w : World} {r N : Nat} (h : Sg W w r N) : Only W w (fun k => k = r) := (Only.of_grown h.2).mono fun x _ e => by injection e
/-- Behind l3Bad: a plan by value, whose codes lie where they lay or in new memory. -/
def PlanBad (w : World) (base r N : Nat) (row : Option Nat) (e : Ending) (w' : World) : Prop := ∃ (b p : Int) (a : Option Addr) (c : Nat) (L : List ByteArray), e = .returned (.agg #[.int .i64 b, .int .i64 p, .slice a L.length c]) ∧ (-9223372036854775808 ≤ b ∧ b ≤ 9223372036854775807) ∧ (0 ≤ p ∧ p ≤ 5) ∧ SRow w' base (.slice a L.length c) L ∧ L.length ≤ 13 ∧ SmallS 30 L ∧ Rd w' r (N + 20) ∧ Only w w' (fun k => k = r ∨ row = some k) ∧ ((Value.slice a L.length c).ownBlock = row ∨ ∃ g, (Value.slice a L.length c).ownBlock = some g ∧ w.heap.size ≤ g)
end Go.Proofs.Ytedhenffolfkeaa

/-
  Plans that are sometimes none.
-/
namespace Go.Proofs.Ytedhenffolfkeaa
open Go.RowKit

theorem SmallS.mono {z z' : Nat} {L : List ByteArray} (h : SmallS z L) (hz : z ≤ z') : SmallS z' L := fun x hx => Nat.le_trans (h x hx) hz
theorem SRow.cut0 {w : World} {base g c : Nat} {L : List ByteArray} (h : SRow w base (.slice (some ⟨g, 0, none⟩) L.length c) L) : SRow w base (.slice (some ⟨g, 0, none⟩) ([] : List ByteArray).length c) [] := by
  rcases h.2 with ⟨e, _⟩ | ⟨g', cap, cur, e, h1, h2, h3, h4, h5, _⟩
  · cases e
  · cases e
    exact ⟨rfl, Or.inr ⟨g, c, cur, rfl, h1, h2, Nat.zero_le _, h4, h5, by simp [scells]⟩⟩
/-- The end of l3Bad: the plan is laid into the result's block. -/
theorem planBad_end {w wz : World} {r N base y : Nat} {b p : Int} {a : Option Addr} {c : Nat} {L : List ByteArray} {row : Option Nat} (hy : w.heap.size ≤ y) (hr : r < w.heap.size) (R : SRow wz base (.slice a L.length c) L) (RD : Rd wz r (N + 20)) (O : Only w wz (fun k => k = r ∨ row = some k))
    (hgy : ∀ k, (Value.slice a L.length c).ownBlock = some k → k ≠ y) (hb : -9223372036854775808 ≤ b ∧ b ≤ 9223372036854775807) (hp : 0 ≤ p ∧ p ≤ 5) (hl : L.length ≤ 13) (hs : SmallS 30 L) (ho : (Value.slice a L.length c).ownBlock = row ∨ ∃ g, (Value.slice a L.length c).ownBlock = some g ∧ w.heap.size ≤ g) (x0 x1 x2 : Value) :
    PlanBad w base r N row (.returned (.agg #[.int .i64 b, .int .i64 p, .slice a L.length c])) (((wz.setCell ⟨y, 0, none⟩ x0).setCell ⟨y, 1, none⟩ x1).setCell ⟨y, 2, none⟩ x2) := by
  have h3 : Only wz (((wz.setCell ⟨y, 0, none⟩ x0).setCell ⟨y, 1, none⟩ x1).setCell ⟨y, 2, none⟩ x2) (fun k => k = y) :=
    ((Only.set wz ⟨y, 0, none⟩ x0 (S := fun k => k = y) rfl).trans (Only.set _ ⟨y, 1, none⟩ x1 (S := fun k => k = y) rfl) (fun _ _ h => h)).trans (Only.set _ ⟨y, 2, none⟩ x2 (S := fun k => k = y) rfl) (fun _ _ h => h)
  refine ⟨b, p, a, c, L, rfl, hb, hp, R.only h3 hgy, hl, hs, RD.only h3 (fun k hk => by omega), O.trans h3 (fun x hx e => by omega), ho⟩

end Go.Proofs.Ytedhenffolfkeaa

/-
  Letters that are sometimes no batch: what is written beside them.
-/
namespace Go.Proofs.Ytedhenffolfkeaa
open Go.RowKit
set_option linter.unusedVariables false

/-- Letters behind l2Bad: only the reader's block and their own are written. -/
def RowBadO (w : World) (base r N : Nat) (row : Option Nat) (e : Ending) (w' : World) : Prop := ∃ (v' : Value) (L' : List (Int × ByteArray)), e = .returned v' ∧ Row w' base v' L' ∧ L'.length ≤ 61 ∧ Small 30 L' ∧ Rd w' r (N + 20) ∧ Only w w' (fun k => k = r ∨ row = some k) ∧ (v'.ownBlock = row ∨ ∃ k, v'.ownBlock = some k ∧ w.heap.size ≤ k)
set_option maxHeartbeats 2000000 in
theorem l2Bad_only (w : World) (r N base : Nat) (v : Value) (L : List (Int × ByteArray)) (h : Rd w r N) (hN : N ≤ 80000) (hrow : Row w base v L) (hrb : r < base) (hl : L.length ≤ 40) (hs : Small 7 L) :
    Calls Try.prog 47 #[.pointer (some ⟨r, 0, none⟩), v] w (RowBadO w base r N v.ownBlock) := by
  have hr := h.lt
  have HS := Lib.hid hs
  have HSW := Lib.hid (hs.mono (z' := 30) (by omega))
  by_cases h0 : L.length = 0
  · obtain ⟨a, c, rfl, _, _⟩ := hrow.form
    rw [h0]
    rw [h0] at hrow
    have HR := Lib.hid hrow
    have RD := Lib.hid h
    clear hrow h hs
    go_enter Try.func47, Try.ntmps47
    go_wp2
    go_ret
    exact ⟨_, L, rfl, HR, by omega, HSW, RD.out.mono (by omega) (by omega), Only.refl _ _, Or.inl rfl⟩
  rcases hrow.cases with ⟨rfl, rfl⟩ | ⟨g, c, rfl, hbg, hgl⟩
  · exact absurd rfl h0
  have HR := Lib.hid hrow
  have SG := Lib.hid (Sg.start h)
  have hz : ((L.length : Int) == 0) = false := by rw [beq_eq_false_iff_ne]; omega
  have hown : (Value.slice (some ⟨g, 0, none⟩) L.length c).ownBlock = some g := rfl
  rw [hown]
  clear hrow h hs hown
  go_enter Try.func47, Try.ntmps47
  go_wp2_with fail
  refine (pick_sg _ _ _ r _ SG.out (by omega) (by omega) (by omega)).mono ?_
  rintro e w1 ⟨j, rfl, j0, j1, sg1⟩
  obtain ⟨j, rfl⟩ := Int.eq_ofNat_of_zero_le j0
  have hj : j < L.length := by omega
  clear SG
  have SG := Lib.hid sg1
  clear sg1
  go_wp2_with fail
  refine (pick_sg _ _ _ r _ SG.out (by omega) (by omega) (by omega)).mono ?_
  rintro e w2 ⟨t, rfl, t0, t1, sg2⟩
  have RD2 := Lib.hid sg2.1
  have O2 : Hid (Only w w2 (fun k => k = r ∨ some g = some k)) := sg2.only.mono fun x _ h => Or.inl h
  have R2 := Lib.hid (HR.out.sg sg2 hrb)
  have hr2 := sg2.1.lt
  have hs2 := sg2.2.size
  clear sg2 SG HR
  cases c0 : (t == 0)
  · cases c1 : (t == 1)
    · cases c2 : (t == 2)
      · go_wp2
        go_ret
        exact ⟨_, L, rfl, R2.out, by omega, HSW, RD2.out.mono (by omega) (by omega), O2.out, Or.inl rfl⟩
      · go_wp2
        go_loopw [1] (fun u wr => ∃ (L' : List (Int × ByteArray)), L'.length ≤ 61 ∧ Hid (Small 30 L') ∧ Hid (Row wr base u L') ∧ Hid (Rd wr r (N + 1 + 1)) ∧ Hid (Only w wr (fun k => k = r ∨ some g = some k)) ∧ Hid (u.ownBlock = some g ∨ ∃ k, u.ownBlock = some k ∧ w.heap.size ≤ k) ∧ w2.heap.size ≤ wr.heap.size) (fun u _ => 61 - lenOf u)
        case atStart => exact ⟨L, by omega, HSW, R2, RD2, O2, Or.inl rfl, Nat.le_refl _⟩
        case round =>
          obtain ⟨L', hl', hsm, hrow, hrd, hbl, hown, hsz⟩ := hrel
          obtain ⟨a, c', rfl, hlc, _⟩ := hrow.out.form
          by_cases hlt : L'.length < 61
          · have sk : IntKind.i64.wrap (1000 + (L'.length : Int)) = 1000 + (L'.length : Int) := IntWalk.i64_in _ (by omega)
            have hli : (L'.length : Int) < 61 := by omega
            go_wp2_with (at_builtin; refine wpList_append_letter _ rfl _ _ rfl base _ _ rfl (hrow.out.alloc _) _ (1000 + (L'.length : Int)) ⟨#[49, 50, 48, 48, 49, 48, 49]⟩ rfl ?_ (by omega) (by simp; omega) ?_)
            · simp [go_sem]
            · intro v' w4 hr4 hg4 ho4
              have o4 : Only wr w4 (fun k => some k = (Value.slice a L'.length c').ownBlock) := (Only.new (S := fun k => some k = (Value.slice a L'.length c').ownBlock) (below_alloc' wr _)).trans (Only.of_grown hg4) (fun _ _ h => h)
              have O4 : Hid (Only w w4 (fun k => k = r ∨ some g = some k)) := hbl.out.trans o4 (fun x hx e => by
                rcases hown.out with h | ⟨k, h, hk⟩
                · exact Or.inr (by rw [← h, e])
                · rw [h] at e; injection e with e; omega)
              have H4 : Hid (v'.ownBlock = some g ∨ ∃ k, v'.ownBlock = some k ∧ w.heap.size ≤ k) := by
                rcases ho4 with e | e
                · rw [Hid, e]; exact hown.out
                · exact Or.inr ⟨_, e, by have := hbl.out.size; first | omega | (simp; omega)⟩
              have RD4 := Lib.hid ((hrd.out.below (below_alloc' _ _)).grown (hrow.out.alloc _) hrb hg4)
              have hz4 := hg4.size
              have R4 := Lib.hid hr4
              clear hr4 hg4 ho4 o4
              go_wp2
              go_roundw
              case rel => exact ⟨L' ++ [(1000 + (L'.length : Int), ⟨#[49, 50, 48, 48, 49, 48, 49]⟩)], by simp; omega, (fun y hy => by
                rcases List.mem_append.1 hy with h | h
                · exact hsm.out y h
                · rw [List.mem_singleton.1 h]; exact ⟨⟨by simp; omega, by simp; omega⟩, by show (⟨#[49, 50, 48, 48, 49, 48, 49]⟩ : ByteArray).size ≤ 30; decide⟩), R4, RD4, O4, H4, by simp at hz4; omega⟩
              case measure =>
                obtain ⟨a', c'', e, _⟩ := R4.out.form
                rw [e]
                simp [lenOf]
                omega
          · have hli : ¬ (L'.length : Int) < 61 := by omega
            go_wp2
            go_ret
            exact ⟨_, L', rfl, hrow, hl', hsm.out, hrd.out.mono (by omega) (by omega), hbl, hown.out⟩
    · have p0 : w2.cell? ⟨g, 0, none⟩ = some (.int .i64 L[0].1) := (R2.out.cells 0 (by omega)).1
      obtain ⟨⟨y0, y1⟩, _⟩ := HS.out.at 0 (by omega)
      generalize L[0].1 = y at p0 y0 y1
      have RD := Lib.hid (RD2.out.below (below_alloc' w2 (.cells #[.int .i64 0, .int .i64 10000, .int .i64 9999, .int .i64 (-1), .int .i64 y] 3)))
      go_wp2_with fail
      refine (num_sg _ [0, 10000, 9999, -1, y] w2.heap.size _ r _ (Sg.start RD.out) (by omega) (by simp) (by simp) (by omega) (cells_int [0, 10000, 9999, -1, y] _ w2)).mono ?_
      rintro e w3 ⟨q, rfl, hm, sg3⟩
      have hq : -1 ≤ q ∧ q ≤ 100000 := by simp at hm; omega
      have R3 := Lib.hid ((R2.out.alloc _).sg sg3 hrb)
      have o23 : Only w2 w3 (fun k => k = r) := (Only.new (below_alloc' w2 _)).trans sg3.only (fun _ _ h => h)
      have O3 := Lib.hid (O2.out.trans o23 (fun x hx e => Or.inl e))
      have RD3 := Lib.hid sg3.1
      have hz3 := sg3.2.size
      simp at hz3
      clear sg3 hm RD p0 o23
      obtain ⟨p0, p1, p2, p3⟩ := R3.out.cells j hj
      obtain ⟨q1, q2⟩ := R3.out.id j hj q
      have hx2 := (HS.out.at j hj).2
      have Q1 := Lib.hid q1
      have RD4 := Lib.hid (RD3.out.grown R3.out hrb q2)
      have O4 := Lib.hid (O3.out.trans (Only.of_grown q2) (fun x hx e => Or.inr e.symm))
      have SM := Lib.hid (HS.out.set j (q, L[j].2) (z' := 30) (by omega) ⟨hq, by show L[j].2.size ≤ 30; omega⟩)
      clear q1 q2
      go_wp2
      go_ret
      exact ⟨_, _, rfl, Q1, by simp; omega, SM, RD4.out.mono (by omega) (by omega), O4, Or.inl rfl⟩
  · obtain ⟨p0, p1, p2, p3⟩ := R2.out.cells j hj
    obtain ⟨⟨y0, y1⟩, y2⟩ := HS.out.at j hj
    have hcs : (L[j].2 ++ (⟨#[49]⟩ : ByteArray)).size = L[j].2.size + 1 := by rw [ByteArray.size_append]; rfl
    go_wp2_with fail
    refine (l1Bad_sg _ _ r _ _ (Sg.start RD2.out) (by omega) (by omega) (by omega)).mono ?_
    rintro e w3 ⟨s, rfl, s0, s1, sg3⟩
    have R3 := Lib.hid (R2.out.sg sg3 hrb)
    have O3 := Lib.hid (O2.out.trans sg3.only (fun x hx e => Or.inl e))
    have RD3 := Lib.hid sg3.1
    have hz3 := sg3.2.size
    clear sg3 p0 p1 p2 p3
    obtain ⟨p0, p1, p2, p3⟩ := R3.out.cells j hj
    obtain ⟨q1, q2⟩ := R3.out.code j hj s
    have Q1 := Lib.hid q1
    have RD4 := Lib.hid (RD3.out.grown R3.out hrb q2)
    have O4 := Lib.hid (O3.out.trans (Only.of_grown q2) (fun x hx e => Or.inr e.symm))
    have SM := Lib.hid (HS.out.set j (L[j].1, s) (z' := 30) (by omega) ⟨⟨y0, y1⟩, by show s.size ≤ 30; omega⟩)
    clear q1 q2
    go_wp2
    go_ret
    exact ⟨_, _, rfl, Q1, by simp; omega, SM, RD4.out.mono (by omega) (by omega), O4, Or.inl rfl⟩
end Go.Proofs.Ytedhenffolfkeaa
