/-
  Letters in bins: each letter goes behind those that are already in the bin of its key. No program is named here.
-/
import Derived.Test.YtihbpalhbbingaaMath
import Derived.PlainAid
import Derived.Test.YtihbpalhbbingaaLetM
import GoSem.Dispatch
namespace Go.Proofs.Ytihbpalhbbingaa.M
open Go.PlainAid (bt)

/-- The bins after k letters. -/
def binTo (key : Nat → Option Nat) (I : Nat → Int) (C : Nat → ByteArray) : Nat → Nat → List (Int × ByteArray)
  | 0 => fun _ => []
  | k + 1 => match key k with
    | none => binTo key I C k
    | some d => fun i => if i = d then binTo key I C k d ++ [(I k, C k)] else binTo key I C k i
theorem binTo_none {key : Nat → Option Nat} {k : Nat} (h : key k = none) (I : Nat → Int) (C : Nat → ByteArray) : binTo key I C (k + 1) = binTo key I C k := by
  show (match key k with | none => binTo key I C k | some d => _) = _
  rw [h]
theorem binTo_some {key : Nat → Option Nat} {k d : Nat} (h : key k = some d) (I : Nat → Int) (C : Nat → ByteArray) : binTo key I C (k + 1) = fun i => if i = d then binTo key I C k d ++ [(I k, C k)] else binTo key I C k i := by
  show (match key k with | none => binTo key I C k | some d => _) = _
  rw [h]
theorem binTo_len (key : Nat → Option Nat) (I : Nat → Int) (C : Nat → ByteArray) : ∀ k i, (binTo key I C k i).length ≤ k
  | 0, _ => Nat.le_refl 0
  | k + 1, i => by
    cases h : key k with
    | none => rw [binTo_none h]; have := binTo_len key I C k i; omega
    | some d =>
      rw [binTo_some h]
      simp only
      split
      · have := binTo_len key I C k d; simp; omega
      · have := binTo_len key I C k i; omega
/-- The digit of a code, as the number of its bin. -/
def dig1 (C : Nat → ByteArray) (x : Nat) (k : Nat) : Option Nat := some (bt (C k) x - 48).toNat
def bins (I : Nat → Int) (C : Nat → ByteArray) (x n : Nat) : Nat → List (Int × ByteArray) := binTo (dig1 C x) I C n
/-- The letters of n bins, one bin after the other. -/
def flat (M : Nat → List (Int × ByteArray)) : Nat → List (Int × ByteArray)
  | 0 => []
  | n + 1 => flat M n ++ M n
theorem flat_congr {M M' : Nat → List (Int × ByteArray)} : ∀ {n : Nat}, (∀ i, i < n → M i = M' i) → flat M n = flat M' n
  | 0, _ => rfl
  | n + 1, h => by show flat M n ++ M n = flat M' n ++ M' n; rw [flat_congr fun i hi => h i (by omega), h n (by omega)]
end Go.Proofs.Ytihbpalhbbingaa.M

/-
  Plain functions on numbers of bins and passes. No program is named here.
-/
namespace Go.Proofs.Ytihbpalhbbingaa.M

/-- The shape of a plan. -/
def shape (b p : Int) : Bool := decide (2 ≤ b ∧ b ≤ 16 ∧ 1 ≤ p ∧ p ≤ 4)
/-- Bins to the power of passes. -/
def pw (b : Int) : Nat → Int
  | 0 => 1
  | k + 1 => pw b k * b
def cap (b p : Int) : Int := if shape b p = true then pw b p.toNat else -1
theorem pw_zero (b : Int) : pw b 0 = 1 := rfl
theorem pw_succ (b : Int) (k : Nat) : pw b (k + 1) = pw b k * b := rfl
theorem pw_fin : ∀ b : Fin 17, ∀ k : Fin 5, 0 ≤ pw (b.val : Int) k.val ∧ pw (b.val : Int) k.val ≤ 65536 ∧ (2 ≤ b.val → 1 ≤ pw (b.val : Int) k.val) := by decide
theorem pw_bd (b : Int) (k : Nat) (b0 : 0 ≤ b) (b1 : b ≤ 16) (hk : k ≤ 4) : 0 ≤ pw b k ∧ pw b k ≤ 65536 := by
  obtain ⟨n, rfl⟩ := Int.eq_ofNat_of_zero_le b0
  have h := pw_fin ⟨n, by omega⟩ ⟨k, by omega⟩
  exact ⟨h.1, h.2.1⟩
theorem pw_pos (b : Int) (k : Nat) (b0 : 2 ≤ b) (b1 : b ≤ 16) (hk : k ≤ 4) : 1 ≤ pw b k := by
  obtain ⟨n, rfl⟩ := Int.eq_ofNat_of_zero_le (show 0 ≤ b by omega)
  have h := pw_fin ⟨n, by omega⟩ ⟨k, by omega⟩
  exact h.2.2 (by show 2 ≤ n; omega)
theorem cap_yes {b p : Int} (h : shape b p = true) : cap b p = pw b p.toNat := if_pos h
theorem cap_no {b p : Int} (h : shape b p = false) : cap b p = -1 := if_neg (by rw [h]; decide)
theorem shape_yes {b p : Int} (h : shape b p = true) : 2 ≤ b ∧ b ≤ 16 ∧ 1 ≤ p ∧ p ≤ 4 := of_decide_eq_true h
theorem shape_no {b p : Int} (h : shape b p = false) : b < 2 ∨ 16 < b ∨ p < 1 ∨ 4 < p := by have := of_decide_eq_false h; omega
theorem cap_bd (b p : Int) : -1 ≤ cap b p ∧ cap b p ≤ 65536 := by
  cases h : shape b p
  · rw [cap_no h]; omega
  · have := shape_yes h
    have := pw_bd b p.toNat (by omega) (by omega) (by omega)
    rw [cap_yes h]; omega
theorem cap_neg {b p : Int} : cap b p < 0 ↔ shape b p = false := by
  cases h : shape b p
  · rw [cap_no h]; simp
  · have := shape_yes h
    have := pw_bd b p.toNat (by omega) (by omega) (by omega)
    rw [cap_yes h]; simp; omega
/-- The least number from x on, of k numbers, whose value is not less than c. -/
def least (f : Int → Int) (c : Int) : Nat → Int → Int
  | 0, _ => -1
  | k + 1, x => if c ≤ f x then x else least f c k (x + 1)
theorem least_end (f : Int → Int) (c x : Int) : least f c 0 x = -1 := rfl
theorem least_hit {f : Int → Int} {c x : Int} (k : Nat) (h : c ≤ f x) : least f c (k + 1) x = x := if_pos h
theorem least_miss {f : Int → Int} {c x : Int} (k : Nat) (h : ¬ c ≤ f x) : least f c (k + 1) x = least f c k (x + 1) := if_neg h
theorem least_none {f : Int → Int} {c : Int} : ∀ (k : Nat) (x : Int), (∀ y, x ≤ y → y < x + k → ¬ c ≤ f y) → least f c k x = -1
  | 0, _, _ => rfl
  | k + 1, x, h => by rw [least_miss k (h x (by omega) (by omega)), least_none k (x + 1) fun y h1 h2 => h y (by omega) (by omega)]
/-- What is known of the least number: nothing before it serves; it serves, or there is none. -/
theorem least_spec {f : Int → Int} {c : Int} : ∀ (k : Nat) (x : Int), (least f c k x = -1 ∧ ∀ y, x ≤ y → y < x + k → f y < c) ∨ (x ≤ least f c k x ∧ least f c k x < x + k ∧ c ≤ f (least f c k x) ∧ ∀ y, x ≤ y → y < least f c k x → f y < c)
  | 0, x => Or.inl ⟨rfl, fun y h1 h2 => by omega⟩
  | k + 1, x => by
    by_cases h : c ≤ f x
    · rw [least_hit k h]
      exact Or.inr ⟨by omega, by omega, h, fun y h1 h2 => by omega⟩
    · rw [least_miss k h]
      rcases least_spec (f := f) (c := c) k (x + 1) with ⟨e, hn⟩ | ⟨h1, h2, h3, h4⟩
      · refine Or.inl ⟨e, fun y hy1 hy2 => ?_⟩
        by_cases e2 : y = x
        · subst e2; omega
        · exact hn y (by omega) (by omega)
      · refine Or.inr ⟨by omega, by omega, h3, fun y hy1 hy2 => ?_⟩
        by_cases e2 : y = x
        · subst e2; omega
        · exact h4 y (by omega) hy2
def leastBins (c p : Int) : Int := if 0 ≤ c then least (fun b => cap b p) c 15 2 else -1
def leastPasses (c b : Int) : Int := if 0 ≤ c then least (fun p => cap b p) c 4 1 else -1
theorem leastBins_neg {c p : Int} (h : c < 0) : leastBins c p = -1 := if_neg (by omega)
theorem leastPasses_neg {c p : Int} (h : c < 0) : leastPasses c p = -1 := if_neg (by omega)
theorem leastBins_pos {c p : Int} (h : 0 ≤ c) : leastBins c p = least (fun b => cap b p) c 15 2 := if_pos h
theorem leastPasses_pos {c p : Int} (h : 0 ≤ c) : leastPasses c p = least (fun b => cap p b) c 4 1 := if_pos h
theorem leastBins_shapeless {c p : Int} (h : p < 1 ∨ 4 < p) : leastBins c p = -1 := by
  by_cases hc : 0 ≤ c
  · rw [leastBins_pos hc]
    refine least_none _ _ fun y _ _ => ?_
    have hs : shape y p = false := decide_eq_false (by omega)
    show ¬ c ≤ cap y p
    rw [cap_no hs]; omega
  · exact leastBins_neg (by omega)
theorem leastPasses_shapeless {c b : Int} (h : b < 2 ∨ 16 < b) : leastPasses c b = -1 := by
  by_cases hc : 0 ≤ c
  · rw [leastPasses_pos hc]
    refine least_none _ _ fun y _ _ => ?_
    have hs : shape b y = false := decide_eq_false (by omega)
    show ¬ c ≤ cap b y
    rw [cap_no hs]; omega
  · exact leastPasses_neg (by omega)
/-- Which numbers of bins serve: from the least on. -/
theorem cap_mono_fin : ∀ b : Fin 17, ∀ d : Fin 17, ∀ k : Fin 5, b.val ≤ d.val → pw (b.val : Int) k.val ≤ pw (d.val : Int) k.val := by decide
theorem pw_mono_b {b d : Int} {k : Nat} (b0 : 0 ≤ b) (h : b ≤ d) (d1 : d ≤ 16) (hk : k ≤ 4) : pw b k ≤ pw d k := by
  obtain ⟨n, rfl⟩ := Int.eq_ofNat_of_zero_le b0
  obtain ⟨m, rfl⟩ := Int.eq_ofNat_of_zero_le (show 0 ≤ d by omega)
  exact cap_mono_fin ⟨n, by omega⟩ ⟨m, by omega⟩ ⟨k, by omega⟩ (by show n ≤ m; omega)
theorem pw_mono_fin : ∀ b : Fin 17, ∀ k : Fin 5, ∀ j : Fin 5, 1 ≤ b.val → k.val ≤ j.val → pw (b.val : Int) k.val ≤ pw (b.val : Int) j.val := by decide
theorem pw_mono_p {b : Int} {k j : Nat} (b0 : 1 ≤ b) (b1 : b ≤ 16) (h : k ≤ j) (hk : j ≤ 4) : pw b k ≤ pw b j := by
  obtain ⟨n, rfl⟩ := Int.eq_ofNat_of_zero_le (show 0 ≤ b by omega)
  exact pw_mono_fin ⟨n, by omega⟩ ⟨k, by omega⟩ ⟨j, by omega⟩ (by show 1 ≤ n; omega) h
/-- A number of bins serves exactly from the least one on. -/
theorem leastBins_iff {c p b : Int} (hc : 0 ≤ c) (b0 : 2 ≤ b) (b1 : b ≤ 16) (hp : 0 ≤ cap b p) : c ≤ cap b p ↔ 0 < leastBins c p ∧ leastBins c p ≤ b := by
  have hsb : shape b p = true := by
    cases h : shape b p
    · rw [cap_no h] at hp; omega
    · rfl
  have sb := shape_yes hsb
  rw [leastBins_pos hc]
  have capE : ∀ y, 2 ≤ y → y ≤ 16 → cap y p = pw y p.toNat := fun y h1 h2 => cap_yes (decide_eq_true (by omega))
  rcases least_spec (f := fun b => cap b p) (c := c) 15 2 with ⟨e, hn⟩ | ⟨h1, h2, h3, h4⟩
  · rw [e]
    have := hn b (by omega) (by omega)
    constructor
    · intro h; omega
    · intro h; omega
  · generalize least (fun b => cap b p) c 15 2 = L at h1 h2 h3 h4 ⊢
    constructor
    · intro h
      refine ⟨by omega, ?_⟩
      by_cases hlt : b < L
      · have := h4 b (by omega) hlt; omega
      · omega
    · rintro ⟨_, h⟩
      have := pw_mono_b (b := L) (d := b) (k := p.toNat) (by omega) h (by omega) (by omega)
      rw [capE L (by omega) (by omega)] at h3
      rw [capE b (by omega) (by omega)]
      omega
theorem leastBins_ge (c p : Int) : leastBins c p = -1 ∨ 2 ≤ leastBins c p := by
  by_cases hc : 0 ≤ c
  · rw [leastBins_pos hc]
    rcases least_spec (f := fun b => cap b p) (c := c) 15 2 with ⟨e, _⟩ | ⟨h1, _⟩
    · exact Or.inl e
    · exact Or.inr h1
  · exact Or.inl (leastBins_neg (by omega))
theorem leastPasses_iff {c p b : Int} (hc : 0 ≤ c) (p0 : 1 ≤ p) (p1 : p ≤ 4) (hp : 0 ≤ cap b p) : c ≤ cap b p ↔ 0 < leastPasses c b ∧ leastPasses c b ≤ p := by
  have hsb : shape b p = true := by
    cases h : shape b p
    · rw [cap_no h] at hp; omega
    · rfl
  have sb := shape_yes hsb
  rw [leastPasses_pos hc]
  have capE : ∀ y, 1 ≤ y → y ≤ 4 → cap b y = pw b y.toNat := fun y h1 h2 => cap_yes (decide_eq_true (by omega))
  rcases least_spec (f := fun p => cap b p) (c := c) 4 1 with ⟨e, hn⟩ | ⟨h1, h2, h3, h4⟩
  · rw [e]
    have := hn p (by omega) (by omega)
    constructor
    · intro h; omega
    · intro h; omega
  · generalize least (fun p => cap b p) c 4 1 = L at h1 h2 h3 h4 ⊢
    constructor
    · intro h
      refine ⟨by omega, ?_⟩
      by_cases hlt : p < L
      · have := h4 p (by omega) hlt; omega
      · omega
    · rintro ⟨_, h⟩
      have := pw_mono_p (b := b) (k := L.toNat) (j := p.toNat) (by omega) (by omega) (by omega) (by omega)
      rw [capE L (by omega) (by omega)] at h3
      rw [capE p (by omega) (by omega)]
      omega
theorem leastPasses_ge (c b : Int) : leastPasses c b = -1 ∨ 1 ≤ leastPasses c b := by
  by_cases hc : 0 ≤ c
  · rw [leastPasses_pos hc]
    rcases least_spec (f := fun p => cap b p) (c := c) 4 1 with ⟨e, _⟩ | ⟨h1, _⟩
    · exact Or.inl e
    · exact Or.inr h1
  · exact Or.inl (leastPasses_neg (by omega))
theorem leastBins_bd (c p : Int) : -1 ≤ leastBins c p ∧ leastBins c p ≤ 16 := by
  by_cases hc : 0 ≤ c
  · rw [leastBins_pos hc]
    rcases least_spec (f := fun b => cap b p) (c := c) 15 2 with ⟨e, _⟩ | ⟨h1, h2, _⟩ <;> omega
  · rw [leastBins_neg (by omega)]; omega
theorem leastPasses_bd (c b : Int) : -1 ≤ leastPasses c b ∧ leastPasses c b ≤ 4 := by
  by_cases hc : 0 ≤ c
  · rw [leastPasses_pos hc]
    rcases least_spec (f := fun p => cap b p) (c := c) 4 1 with ⟨e, _⟩ | ⟨h1, h2, _⟩ <;> omega
  · rw [leastPasses_neg (by omega)]; omega
/-- As many codes as the capacity need exactly these passes and bins. -/
theorem exact_fin : ∀ b : Fin 17, ∀ p : Fin 5, 2 ≤ b.val → 1 ≤ p.val → leastPasses (cap (b.val : Int) (p.val : Int)) (b.val : Int) = (p.val : Int) ∧ leastBins (cap (b.val : Int) (p.val : Int)) (p.val : Int) = (b.val : Int) ∧ (p.val = 4 ∨ leastPasses (cap (b.val : Int) (p.val : Int) + 1) (b.val : Int) = (p.val : Int) + 1) ∧
    cap (b.val : Int) (p.val : Int) = (if 1 < p.val then cap (b.val : Int) ((p.val : Int) - 1) else 1) * (b.val : Int) := by decide +kernel
theorem exact_all {b p : Int} (h : shape b p = true) : leastPasses (cap b p) b = p ∧ leastBins (cap b p) p = b ∧ (p = 4 ∨ leastPasses (cap b p + 1) b = p + 1) ∧ cap b p = (if 1 < p then cap b (p - 1) else 1) * b := by
  have hs := shape_yes h
  obtain ⟨n, rfl⟩ := Int.eq_ofNat_of_zero_le (show 0 ≤ b by omega)
  obtain ⟨m, rfl⟩ := Int.eq_ofNat_of_zero_le (show 0 ≤ p by omega)
  have h := exact_fin ⟨n, by omega⟩ ⟨m, by omega⟩ (by show 2 ≤ n; omega) (by show 1 ≤ m; omega)
  obtain ⟨h1, h2, h3, h4⟩ := h
  refine ⟨h1, h2, ?_, ?_⟩
  · rcases h3 with h3 | h3
    · exact Or.inl (by have : m = 4 := h3; omega)
    · exact Or.inr h3
  · have h4' : cap (n : Int) (m : Int) = (if 1 < m then cap (n : Int) ((m : Int) - 1) else 1) * (n : Int) := h4
    rw [h4']
    by_cases hm : 1 < m
    · rw [if_pos hm, if_pos (show (1 : Int) < (m : Int) by omega)]
    · rw [if_neg hm, if_neg (show ¬ (1 : Int) < (m : Int) by omega)]
end Go.Proofs.Ytihbpalhbbingaa.M

/-
  Plain functions on plans: the codes of a round, given by index. No program is named here.
-/
namespace Go.Proofs.Ytihbpalhbbingaa.M
open Go.PlainAid (bt)

/-- The first m strings are codes, no two the same. -/
def diffTo (S : Nat → ByteArray) (m : Nat) : Bool := (List.range m).all fun i => code (S i) && (List.range i).all fun k => decide (S k ≠ S i)
theorem diffTo_iff (S : Nat → ByteArray) (m : Nat) : diffTo S m = true ↔ ∀ i, i < m → code (S i) = true ∧ ∀ k, k < i → S k ≠ S i := by
  unfold diffTo
  rw [List.all_eq_true]
  constructor
  · intro h i hi
    have := h i (List.mem_range.2 hi)
    rw [Bool.and_eq_true, List.all_eq_true] at this
    exact ⟨this.1, fun k hk => of_decide_eq_true (this.2 k (List.mem_range.2 hk))⟩
  · intro h i hi
    obtain ⟨h1, h2⟩ := h i (List.mem_range.1 hi)
    rw [Bool.and_eq_true, List.all_eq_true]
    exact ⟨h1, fun k hk => decide_eq_true (h2 k (List.mem_range.1 hk))⟩
theorem diffTo_zero (S : Nat → ByteArray) : diffTo S 0 = true := rfl
theorem diffTo_succ {S : Nat → ByteArray} {m : Nat} (h : diffTo S m = true) (h1 : code (S m) = true) (h3 : ∀ k, k < m → S k ≠ S m) : diffTo S (m + 1) = true :=
  (diffTo_iff S (m + 1)).2 fun i hi => by
    by_cases e : i = m
    · subst e; exact ⟨h1, h3⟩
    · exact (diffTo_iff S m).1 h i (by omega)
theorem diffTo_no {S : Nat → ByteArray} {n k : Nat} (hk : k < n) (h : code (S k) = false ∨ ∃ j, j < k ∧ S j = S k) : diffTo S n = false := by
  rw [Bool.eq_false_iff]
  intro e
  obtain ⟨h1, h3⟩ := (diffTo_iff S n).1 e k hk
  rcases h with h | ⟨j, hj, h⟩
  · rw [h] at h1; cases h1
  · exact h3 j hj h
/-- The numbers of a plan fit its codes. -/
def fits (b p : Int) (n : Nat) : Bool := shape b p && decide (1 ≤ n ∧ n ≤ 60 ∧ (n : Int) ≤ pw b p.toNat)
/-- A plan is valid. -/
def plan (b p : Int) (n : Nat) (S : Nat → ByteArray) : Bool := fits b p n && diffTo S n
theorem fits_yes {b p : Int} {n : Nat} (h : fits b p n = true) : shape b p = true ∧ 1 ≤ n ∧ n ≤ 60 ∧ (n : Int) ≤ pw b p.toNat := by
  unfold fits at h
  rw [Bool.and_eq_true] at h
  exact ⟨h.1, of_decide_eq_true h.2⟩
theorem plan_yes {b p : Int} {n : Nat} {S : Nat → ByteArray} (h : plan b p n S = true) : fits b p n = true ∧ diffTo S n = true := by
  unfold plan at h
  rwa [Bool.and_eq_true] at h
theorem plan_misfit {b p : Int} {n : Nat} {S : Nat → ByteArray} (h : fits b p n = false) : plan b p n S = false := by unfold plan; rw [h]; rfl
theorem plan_fit {b p : Int} {n : Nat} {S : Nat → ByteArray} (h : fits b p n = true) : plan b p n S = diffTo S n := by unfold plan; rw [h]; rfl
theorem fits_cap {b p : Int} {n : Nat} (h1 : 1 ≤ n) (h2 : n ≤ 60) : fits b p n = decide ((n : Int) ≤ cap b p) := by
  unfold fits
  cases hs : shape b p
  · rw [cap_no hs, Bool.false_and]
    exact (decide_eq_false (by omega)).symm
  · rw [cap_yes hs, Bool.true_and]
    exact decide_eq_decide.2 ⟨fun h => h.2.2, fun h => ⟨h1, h2, h⟩⟩
theorem fits_small {b p : Int} {n : Nat} (h : n < 1 ∨ 60 < n) : fits b p n = false := by
  unfold fits
  rw [decide_eq_false (show ¬ (1 ≤ n ∧ n ≤ 60 ∧ (n : Int) ≤ pw b p.toNat) by omega), Bool.and_false]
/-- Where a code stands among n; -1 if it doesn't. -/
def rankTo (S : Nat → ByteArray) (c : ByteArray) : Nat → Int
  | 0 => -1
  | k + 1 => if rankTo S c k = -1 then (if S k = c then (k : Int) else -1) else rankTo S c k
theorem rankTo_succ (S : Nat → ByteArray) (c : ByteArray) (k : Nat) : rankTo S c (k + 1) = if rankTo S c k = -1 then (if S k = c then (k : Int) else -1) else rankTo S c k := rfl
theorem rank_miss {S : Nat → ByteArray} {c : ByteArray} : ∀ {n : Nat}, (∀ j, j < n → S j ≠ c) → rankTo S c n = -1
  | 0, _ => rfl
  | k + 1, h => by
    unfold rankTo
    rw [if_pos (rank_miss fun j hj => h j (by omega)), if_neg (h k (by omega))]
theorem rank_stay {S : Nat → ByteArray} {c : ByteArray} {k : Nat} (h0 : 0 ≤ rankTo S c k) : ∀ {n : Nat}, k ≤ n → rankTo S c n = rankTo S c k
  | 0, h => by have : k = 0 := by omega
               subst this; rfl
  | n + 1, h => by
    by_cases e : k = n + 1
    · subst e; rfl
    · have ih := rank_stay h0 (n := n) (by omega)
      rw [rankTo_succ, if_neg (by rw [ih]; omega), ih]
theorem rank_hit {S : Nat → ByteArray} {c : ByteArray} {n k : Nat} (hk : k < n) (h : S k = c) (hn : ∀ j, j < k → S j ≠ c) : rankTo S c n = (k : Int) := by
  have h1 : rankTo S c (k + 1) = (k : Int) := by
    unfold rankTo
    rw [if_pos (rank_miss hn), if_pos h]
  rw [rank_stay (k := k + 1) (by rw [h1]; omega) (by omega), h1]
theorem rank_bd (S : Nat → ByteArray) (c : ByteArray) : ∀ n, -1 ≤ rankTo S c n ∧ rankTo S c n < (n : Int)
  | 0 => by unfold rankTo; omega
  | n + 1 => by
    have := rank_bd S c n
    unfold rankTo
    split
    · split <;> omega
    · omega
theorem rank_at {S : Nat → ByteArray} {c : ByteArray} : ∀ {n : Nat}, 0 ≤ rankTo S c n → S (rankTo S c n).toNat = c
  | 0, h => by unfold rankTo at h; omega
  | n + 1, h => by
    by_cases h1 : rankTo S c n = -1
    · by_cases h2 : S n = c
      · have e : rankTo S c (n + 1) = (n : Int) := by unfold rankTo; rw [if_pos h1, if_pos h2]
        rw [e, Int.toNat_natCast]; exact h2
      · have e : rankTo S c (n + 1) = -1 := by unfold rankTo; rw [if_pos h1, if_neg h2]
        omega
    · have e : rankTo S c (n + 1) = rankTo S c n := by rw [rankTo_succ, if_neg h1]
      rw [e] at h ⊢
      exact rank_at h
theorem rank_none {S : Nat → ByteArray} {c : ByteArray} {n : Nat} (h : rankTo S c n = -1) (j : Nat) (hj : j < n) : S j ≠ c := by
  intro e
  have : ∃ k, k ≤ j ∧ S k = c ∧ ∀ i, i < k → S i ≠ c := by
    clear h hj
    induction j using Nat.strongRecOn with
    | ind j ih =>
      by_cases hx : ∃ i, i < j ∧ S i = c
      · obtain ⟨i, hi, hi2⟩ := hx
        obtain ⟨k, hk, hk2⟩ := ih i hi hi2
        exact ⟨k, by omega, hk2⟩
      · exact ⟨j, Nat.le_refl _, e, fun i hi h2 => hx ⟨i, hi, h2⟩⟩
  obtain ⟨k, hk, hk1, hk2⟩ := this
  have := rank_hit (n := n) (by omega) hk1 hk2
  omega
def planRank (b p : Int) (n : Nat) (S : Nat → ByteArray) (c : ByteArray) : Int := if plan b p n S = true then rankTo S c n else -1
theorem planRank_yes {b p : Int} {n : Nat} {S : Nat → ByteArray} {c : ByteArray} (h : plan b p n S = true) : planRank b p n S c = rankTo S c n := if_pos h
theorem planRank_no {b p : Int} {n : Nat} {S : Nat → ByteArray} {c : ByteArray} (h : plan b p n S = false) : planRank b p n S c = -1 := if_neg (by rw [h]; decide)
/-- One digit of a rank. -/
def rankBin (b r : Int) (k : Nat) : Int := r / pw b k % b
theorem rankBin_bd {b r : Int} {k : Nat} (b0 : 2 ≤ b) : 0 ≤ rankBin b r k ∧ rankBin b r k < b := ⟨Int.emod_nonneg _ (by omega), Int.emod_lt_of_pos _ (by omega)⟩
def planBin (b p : Int) (n : Nat) (S : Nat → ByteArray) (c : ByteArray) (x : Int) : Int := if plan b p n S = true ∧ 0 ≤ x ∧ x < p ∧ 0 ≤ rankTo S c n then rankBin b (rankTo S c n) x.toNat else -1
theorem planBin_yes {b p : Int} {n : Nat} {S : Nat → ByteArray} {c : ByteArray} {x : Int} (h : plan b p n S = true) (h1 : 0 ≤ x) (h2 : x < p) (h3 : 0 ≤ rankTo S c n) : planBin b p n S c x = rankBin b (rankTo S c n) x.toNat := if_pos ⟨h, h1, h2, h3⟩
theorem planBin_no {b p : Int} {n : Nat} {S : Nat → ByteArray} {c : ByteArray} {x : Int} (h : plan b p n S = false ∨ x < 0 ∨ p ≤ x ∨ rankTo S c n < 0) : planBin b p n S c x = -1 := if_neg (by
  rintro ⟨h0, h1, h2, h3⟩
  rcases h with h | h | h | h
  · rw [h] at h0; cases h0
  · omega
  · omega
  · omega)
theorem plan_shape {b p : Int} {n : Nat} {S : Nat → ByteArray} (h : plan b p n S = true) : 2 ≤ b ∧ b ≤ 16 ∧ 1 ≤ p ∧ p ≤ 4 := shape_yes (fits_yes (plan_yes h).1).1
/-- The digits of a rank tell it. -/
theorem digit_step (b r : Int) (k : Nat) (b0 : 2 ≤ b) (b1 : b ≤ 16) (hk : k ≤ 4) : r / pw b (k + 1) * b + rankBin b r k = r / pw b k := by
  unfold rankBin
  rw [pw_succ, ← Int.ediv_ediv_of_nonneg (by have := pw_pos b k b0 b1 hk; omega)]
  have := Int.mul_ediv_add_emod (r / pw b k) b
  rw [Int.mul_comm] at this
  exact this
/-- Letters whose codes have ranks that do not descend. -/
def ordTo (S : Nat → ByteArray) (n : Nat) (C : Nat → ByteArray) : Nat → Int
  | 0 => 0
  | k + 1 => if ordTo S n C k < 0 then -1 else (if rankTo S (C k) n < ordTo S n C k then -1 else rankTo S (C k) n)
def inOrder (b p : Int) (n : Nat) (S : Nat → ByteArray) (m : Nat) (I : Nat → Int) (C : Nat → ByteArray) : Bool := plan b p n S && batch m I C && decide (0 ≤ ordTo S n C m)
theorem ordTo_step {S : Nat → ByteArray} {n : Nat} {C : Nat → ByteArray} {k : Nat} (h : 0 ≤ ordTo S n C k) (h2 : ordTo S n C k ≤ rankTo S (C k) n) : ordTo S n C (k + 1) = rankTo S (C k) n := by
  conv => lhs; unfold ordTo
  rw [if_neg (by omega), if_neg (by omega)]
theorem ordTo_stay {S : Nat → ByteArray} {n : Nat} {C : Nat → ByteArray} {k : Nat} (h : ordTo S n C k < 0) : ∀ {m : Nat}, k ≤ m → ordTo S n C m < 0
  | 0, hk => by have : k = 0 := by omega
                subst this; exact h
  | m + 1, hk => by
    by_cases e : k = m + 1
    · subst e; exact h
    · have := ordTo_stay h (m := m) (by omega)
      unfold ordTo
      rw [if_pos this]; omega
theorem ordTo_fail {S : Nat → ByteArray} {n : Nat} {C : Nat → ByteArray} {k m : Nat} (hk : k < m) (h : 0 ≤ ordTo S n C k) (h2 : rankTo S (C k) n < ordTo S n C k) : ordTo S n C m < 0 := by
  refine ordTo_stay (k := k + 1) ?_ (by omega)
  unfold ordTo
  rw [if_neg (by omega), if_pos h2]; omega
theorem inOrder_no {b p : Int} {n : Nat} {S : Nat → ByteArray} {m : Nat} {I : Nat → Int} {C : Nat → ByteArray} (h : plan b p n S = false ∨ batch m I C = false ∨ ordTo S n C m < 0) : inOrder b p n S m I C = false := by
  unfold inOrder
  rcases h with h | h | h
  · rw [h]; rfl
  · rw [h, Bool.and_false]; rfl
  · rw [decide_eq_false (by omega), Bool.and_false]
theorem inOrder_yes {b p : Int} {n : Nat} {S : Nat → ByteArray} {m : Nat} {I : Nat → Int} {C : Nat → ByteArray} (h : plan b p n S = true) (h1 : batch m I C = true) (h2 : 0 ≤ ordTo S n C m) : inOrder b p n S m I C = true := by
  unfold inOrder
  rw [h, h1, decide_eq_true h2]; rfl
end Go.Proofs.Ytihbpalhbbingaa.M

/-
  Plain functions on letters: as a list, and divided by the beginning of their codes. No program is named here.
-/
namespace Go.Proofs.Ytihbpalhbbingaa.M

/-- The first k letters. -/
def lst (I : Nat → Int) (C : Nat → ByteArray) (k : Nat) : List (Int × ByteArray) := (List.range k).map fun i => (I i, C i)
theorem lst_succ (I : Nat → Int) (C : Nat → ByteArray) (k : Nat) : lst I C (k + 1) = lst I C k ++ [(I k, C k)] := by
  unfold lst
  rw [List.range_succ, List.map_append]
  rfl
theorem lst_length (I : Nat → Int) (C : Nat → ByteArray) (k : Nat) : (lst I C k).length = k := by simp [lst]
/-- A code begins with a prefix. -/
def begins (c p : ByteArray) : Bool := decide (p.size ≤ c.size) && decide (c.extract 0 p.size = p)
theorem begins_short {c p : ByteArray} (h : c.size < p.size) : begins c p = false := by
  unfold begins
  rw [decide_eq_false (by omega)]; rfl
theorem begins_long {c p : ByteArray} (h : p.size ≤ c.size) : begins c p = decide (c.extract 0 p.size = p) := by
  unfold begins
  rw [decide_eq_true h]; rfl
theorem list_eq (a b : ByteArray) : (a.toList == b.toList) = decide (a = b) := by
  by_cases h : a = b
  · subst h; simp
  · rw [decide_eq_false h, beq_eq_false_iff_ne]
    intro e
    rw [ByteArray.toList_eq, ByteArray.toList_eq] at e
    exact h (ByteArray.ext (Array.toList_inj.1 e))
/-- The letters whose codes begin with a prefix, and the others. -/
def withP (p : ByteArray) (L : List (Int × ByteArray)) : List (Int × ByteArray) := L.filter fun x => begins x.2 p
def sansP (p : ByteArray) (L : List (Int × ByteArray)) : List (Int × ByteArray) := L.filter fun x => !begins x.2 p
theorem split_yes {p : ByteArray} {I : Nat → Int} {C : Nat → ByteArray} {k : Nat} (h : begins (C k) p = true) : withP p (lst I C (k + 1)) = withP p (lst I C k) ++ [(I k, C k)] ∧ sansP p (lst I C (k + 1)) = sansP p (lst I C k) := by
  unfold withP sansP
  rw [lst_succ, List.filter_append, List.filter_append]
  simp [h]
theorem split_no {p : ByteArray} {I : Nat → Int} {C : Nat → ByteArray} {k : Nat} (h : begins (C k) p = false) : withP p (lst I C (k + 1)) = withP p (lst I C k) ∧ sansP p (lst I C (k + 1)) = sansP p (lst I C k) ++ [(I k, C k)] := by
  unfold withP sansP
  rw [lst_succ, List.filter_append, List.filter_append]
  simp [h]
theorem withP_le (p : ByteArray) (I : Nat → Int) (C : Nat → ByteArray) (k : Nat) : (withP p (lst I C k)).length ≤ k := by
  have := List.length_filter_le (fun x : Int × ByteArray => begins x.2 p) (lst I C k)
  rw [lst_length] at this
  exact this
theorem sansP_le (p : ByteArray) (I : Nat → Int) (C : Nat → ByteArray) (k : Nat) : (sansP p (lst I C k)).length ≤ k := by
  have := List.length_filter_le (fun x : Int × ByteArray => !begins x.2 p) (lst I C k)
  rw [lst_length] at this
  exact this
/-- The letters whose codes are wanted, and the others. -/
def withF (f : ByteArray → Bool) (L : List (Int × ByteArray)) : List (Int × ByteArray) := L.filter fun x => f x.2
def sansF (f : ByteArray → Bool) (L : List (Int × ByteArray)) : List (Int × ByteArray) := L.filter fun x => !f x.2
theorem filt_yes {f : ByteArray → Bool} {I : Nat → Int} {C : Nat → ByteArray} {k : Nat} (h : f (C k) = true) : withF f (lst I C (k + 1)) = withF f (lst I C k) ++ [(I k, C k)] ∧ sansF f (lst I C (k + 1)) = sansF f (lst I C k) := by
  unfold withF sansF
  rw [lst_succ, List.filter_append, List.filter_append]
  simp [h]
theorem filt_no {f : ByteArray → Bool} {I : Nat → Int} {C : Nat → ByteArray} {k : Nat} (h : f (C k) = false) : withF f (lst I C (k + 1)) = withF f (lst I C k) ∧ sansF f (lst I C (k + 1)) = sansF f (lst I C k) ++ [(I k, C k)] := by
  unfold withF sansF
  rw [lst_succ, List.filter_append, List.filter_append]
  simp [h]
theorem withF_le (f : ByteArray → Bool) (I : Nat → Int) (C : Nat → ByteArray) (k : Nat) : (withF f (lst I C k)).length ≤ k := by
  have := List.length_filter_le (fun x : Int × ByteArray => f x.2) (lst I C k)
  rw [lst_length] at this
  exact this
theorem sansF_le (f : ByteArray → Bool) (I : Nat → Int) (C : Nat → ByteArray) (k : Nat) : (sansF f (lst I C k)).length ≤ k := by
  have := List.length_filter_le (fun x : Int × ByteArray => !f x.2) (lst I C k)
  rw [lst_length] at this
  exact this
/-- A prefix of codes. -/
def prefixOk (p : ByteArray) : Bool := digs p && decide (p.size ≤ 7)
def splitOk (n : Nat) (I : Nat → Int) (C : Nat → ByteArray) (p : ByteArray) : Bool := batch n I C && prefixOk p
def countP (n : Nat) (I : Nat → Int) (C : Nat → ByteArray) (p : ByteArray) : Int := if splitOk n I C p = true then ((withP p (lst I C n)).length : Int) else -1
theorem countP_no {n : Nat} {I : Nat → Int} {C : Nat → ByteArray} {p : ByteArray} (h : splitOk n I C p = false) : countP n I C p = -1 := if_neg (by rw [h]; decide)
theorem countP_yes {n : Nat} {I : Nat → Int} {C : Nat → ByteArray} {p : ByteArray} (h : splitOk n I C p = true) : countP n I C p = (withP p (lst I C n)).length := if_pos h
end Go.Proofs.Ytihbpalhbbingaa.M

/-
  Plain functions on letters, given by index: their order by codes, pairs in the wrong order, where a number stands. No program is named here.
-/
namespace Go.Proofs.Ytihbpalhbbingaa.M

/-- One code comes before another. -/
def less (a b : ByteArray) : Bool := Op.bytesLess a.toList b.toList
theorem bytesLess_other : ∀ a b : List UInt8, Op.bytesLess b a = (!Op.bytesLess a b && !(a == b))
  | [], [] => rfl
  | [], _ :: _ => rfl
  | _ :: _, [] => rfl
  | x :: a, y :: b => by
    have ih := bytesLess_other a b
    unfold Op.bytesLess
    by_cases h1 : x < y
    · have h2 : ¬ y < x := UInt8.lt_asymm h1
      have h3 : ¬ x = y := fun e => by subst e; exact h2 h1
      have h4 : ¬ y = x := fun e => h3 e.symm
      simp [h1, h2, h4]
    · by_cases h2 : y < x
      · have h3 : ¬ x = y := fun e => by subst e; exact h1 h2
        simp [h1, h2, h3]
      · have h3 : x = y := by
          apply UInt8.toNat_inj.1
          simp only [UInt8.lt_iff_toNat_lt] at h1 h2
          omega
        subst h3
        simp [h1, ih]
theorem less_yes {a b : ByteArray} (h : less b a = true) : Op.bytesLess a.toList b.toList = false ∧ (a.toList == b.toList) = false := by
  have := bytesLess_other a.toList b.toList
  rw [show Op.bytesLess b.toList a.toList = true from h] at this
  have := this.symm
  rw [Bool.and_eq_true] at this
  simpa using this
theorem less_no {a b : ByteArray} (h : less b a = false) : Op.bytesLess a.toList b.toList = true ∨ (Op.bytesLess a.toList b.toList = false ∧ (a.toList == b.toList) = true) := by
  have := bytesLess_other a.toList b.toList
  rw [show Op.bytesLess b.toList a.toList = false from h] at this
  cases h1 : Op.bytesLess a.toList b.toList
  · rw [h1] at this
    exact Or.inr ⟨rfl, by simpa using this.symm⟩
  · exact Or.inl rfl
/-- Among the first m letters none has a code that comes before that of the letter before it. -/
def asc (C : Nat → ByteArray) : Nat → Bool
  | 0 => true
  | 1 => true
  | m + 2 => asc C (m + 1) && !less (C (m + 1)) (C m)
theorem asc_succ {C : Nat → ByteArray} {m : Nat} (h : asc C (m + 1) = true) (hl : less (C (m + 1)) (C m) = false) : asc C (m + 2) = true := by
  show (asc C (m + 1) && !less (C (m + 1)) (C m)) = true
  rw [h, hl]; rfl
theorem asc_down {C : Nat → ByteArray} : ∀ {m : Nat}, asc C (m + 1) = true → asc C m = true
  | 0, _ => rfl
  | m + 1, h => by
    have h' : (asc C (m + 1) && !less (C (m + 1)) (C m)) = true := h
    rw [Bool.and_eq_true] at h'
    exact h'.1
theorem asc_le {C : Nat → ByteArray} {m : Nat} : ∀ d, asc C (m + d) = true → asc C m = true
  | 0, h => h
  | d + 1, h => asc_le d (asc_down h)
theorem asc_end {C : Nat → ByteArray} {k n : Nat} (h : asc C k = true) (hn : n ≤ k) : asc C n = true := by
  obtain ⟨d, rfl⟩ := Nat.exists_eq_add_of_le hn
  exact asc_le d h
theorem asc_no {C : Nat → ByteArray} {k n : Nat} (hk : k + 1 < n) (h : less (C (k + 1)) (C k) = true) : asc C n = false := by
  rw [Bool.eq_false_iff]
  intro e
  have e2 : (asc C (k + 1) && !less (C (k + 1)) (C k)) = true := asc_end (k := n) e (n := k + 2) (by omega)
  rw [h, Bool.and_eq_true] at e2
  exact absurd e2.2 (by decide)
/-- Letters are a batch in which no code comes before that of the letter before it. -/
def sorted (n : Nat) (I : Nat → Int) (C : Nat → ByteArray) : Bool := batch n I C && asc C n
theorem sorted_no {n : Nat} {I : Nat → Int} {C : Nat → ByteArray} (h : batch n I C = false) : sorted n I C = false := by
  unfold sorted; rw [h]; rfl
theorem sorted_yes {n : Nat} {I : Nat → Int} {C : Nat → ByteArray} (h : batch n I C = true) : sorted n I C = asc C n := by
  unfold sorted; rw [h]; rfl
/-- Among the first k letters those whose codes come behind that of letter i. -/
def invAt (C : Nat → ByteArray) (i : Nat) : Nat → Nat
  | 0 => 0
  | k + 1 => if less (C i) (C k) = true then invAt C i k + 1 else invAt C i k
theorem invAt_yes {C : Nat → ByteArray} {i k : Nat} (h : less (C i) (C k) = true) : invAt C i (k + 1) = invAt C i k + 1 := if_pos h
theorem invAt_no {C : Nat → ByteArray} {i k : Nat} (h : less (C i) (C k) = false) : invAt C i (k + 1) = invAt C i k := if_neg (by rw [h]; decide)
theorem invAt_le (C : Nat → ByteArray) (i : Nat) : ∀ k, invAt C i k ≤ k
  | 0 => Nat.le_refl 0
  | k + 1 => by
    have := invAt_le C i k
    cases h : less (C i) (C k)
    · rw [invAt_no h]; omega
    · rw [invAt_yes h]; omega
/-- Pairs in the wrong order among the first m letters. -/
def inv (C : Nat → ByteArray) : Nat → Nat
  | 0 => 0
  | i + 1 => inv C i + invAt C i i
theorem inv_succ (C : Nat → ByteArray) (i : Nat) : inv C (i + 1) = inv C i + invAt C i i := rfl
theorem inv_le (C : Nat → ByteArray) : ∀ i, i ≤ 60 → inv C i ≤ 60 * i
  | 0, _ => Nat.le_refl 0
  | i + 1, h => by
    have := inv_le C i (by omega)
    have := invAt_le C i i
    rw [inv_succ]; omega
def inversions (n : Nat) (I : Nat → Int) (C : Nat → ByteArray) : Int := if batch n I C = true then (inv C n : Int) else -1
theorem inversions_no {n : Nat} {I : Nat → Int} {C : Nat → ByteArray} (h : batch n I C = false) : inversions n I C = -1 := if_neg (by rw [h]; decide)
theorem inversions_yes {n : Nat} {I : Nat → Int} {C : Nat → ByteArray} (h : batch n I C = true) : inversions n I C = inv C n := if_pos h
/-- Where a number stands first, or -1. -/
def find (I : Nat → Int) (n : Nat) (x : Int) : Int := match (List.range n).find? (fun i => decide (I i = x)) with
  | some i => (i : Int)
  | none => -1
theorem find_hit {I : Nat → Int} {n : Nat} {x : Int} {k : Nat} (hk : k < n) (h : I k = x) (hno : ∀ j, j < k → I j ≠ x) : find I n x = k := by
  have e : (List.range n).find? (fun i => decide (I i = x)) = some k := by
    rw [List.find?_range_eq_some]
    exact ⟨decide_eq_true h, List.mem_range.2 hk, fun j hj => by rw [decide_eq_false (hno j hj)]; rfl⟩
  unfold find; rw [e]
theorem find_miss {I : Nat → Int} {n : Nat} {x : Int} (hno : ∀ j, j < n → I j ≠ x) : find I n x = -1 := by
  have e : (List.range n).find? (fun i => decide (I i = x)) = none := by
    rw [List.find?_range_eq_none]
    exact fun j hj => by rw [decide_eq_false (hno j hj)]; rfl
  unfold find; rw [e]
theorem find_below {I : Nat → Int} {x : Int} {k : Nat} (hno : ∀ j, j < k → I j ≠ x) (h : I k ≠ x) : ∀ j, j < k + 1 → I j ≠ x := fun j hj => by
  by_cases e : j = k
  · subst e; exact h
  · exact hno j (by omega)
def findLetter (n : Nat) (I : Nat → Int) (C : Nat → ByteArray) (x : Int) : Int := if batch n I C = true then find I n x else -1
theorem findLetter_no {n : Nat} {I : Nat → Int} {C : Nat → ByteArray} {x : Int} (h : batch n I C = false) : findLetter n I C x = -1 := if_neg (by rw [h]; decide)
theorem findLetter_yes {n : Nat} {I : Nat → Int} {C : Nat → ByteArray} {x : Int} (h : batch n I C = true) : findLetter n I C x = find I n x := if_pos h
theorem batch_pos {n : Nat} {I : Nat → Int} {C : Nat → ByteArray} (h : batch n I C = false) : 0 < n := by
  cases n with
  | zero => cases h
  | succ n => omega
end Go.Proofs.Ytihbpalhbbingaa.M
