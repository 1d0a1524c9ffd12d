/-
  Plain functions on bars: groups, recovered digits, codes that are read. No program is named here.
-/
import Derived.Test.YthpdcilffbffoaaDoorShow
namespace Go.Proofs.YthpdcilffbffoaaDoor.M
open Go.PlainAid (bt get_bt bt_nonneg bt_le)

/-- The digit of a group of bars, or -1. -/
def G (b : ByteArray) (k : Nat) : Int := barDigit (b.extract (1 + 5 * k) (6 + 5 * k))
/-- The same, with 0 for a group that is not the bars of a digit. -/
def val (b : ByteArray) (k : Nat) : Int := if G b k < 0 then 0 else G b k
theorem barDigit_bd (b : ByteArray) : -1 ≤ barDigit b ∧ barDigit b ≤ 9 := by
  unfold barDigit
  split <;> omega
theorem G_bd (b : ByteArray) (k : Nat) : -1 ≤ G b k ∧ G b k ≤ 9 := barDigit_bd _
theorem val_bd (b : ByteArray) (k : Nat) : 0 ≤ val b k ∧ val b k ≤ 9 := by
  have := G_bd b k
  unfold val
  split <;> omega
theorem val_ok {b : ByteArray} {k : Nat} (h : 0 ≤ G b k) : val b k = G b k := if_neg (by omega)
theorem val_lost {b : ByteArray} {k : Nat} (h : G b k < 0) : val b k = 0 := if_pos h
def vsum (f : Nat → Int) : Nat → Int
  | 0 => 0
  | k + 1 => vsum f k + f k
theorem vsum_succ (f : Nat → Int) (k : Nat) : vsum f (k + 1) = vsum f k + f k := rfl
theorem vsum_bd {f : Nat → Int} (h : ∀ i, 0 ≤ f i ∧ f i ≤ 9) : ∀ k : Nat, 0 ≤ vsum f k ∧ vsum f k ≤ 9 * k
  | 0 => by simp [vsum]
  | k + 1 => by
    have := vsum_bd h k
    have := h k
    rw [vsum_succ]
    omega
/-- The digits f 0, .., f (n - 1) as a string. -/
def str (f : Nat → Int) (n : Nat) : ByteArray := ofInts ((List.range n).map fun i => 48 + f i)
theorem str_succ (f : Nat → Int) (n : Nat) : str f (n + 1) = str f n ++ dig (f n) := by
  unfold str
  rw [dig_ofInts, ofInts_append, List.range_succ, List.map_append]
  rfl
theorem str_size (f : Nat → Int) (n : Nat) : (str f n).size = n := by unfold str; rw [ofInts_size]; simp
theorem bt_str {f : Nat → Int} (h : ∀ i, 0 ≤ f i ∧ f i ≤ 9) {n i : Nat} (hi : i < n) : bt (str f n) i = 48 + f i := by
  have := h i
  unfold str
  rw [bt_ofInts _ i (by simpa using hi) (by simp; omega) (by simp; omega)]
  simp
theorem digs_str {f : Nat → Int} (h : ∀ i, 0 ≤ f i ∧ f i ≤ 9) {n : Nat} (hn : n ≤ 20) : digs (str f n) = true := by
  unfold digs
  rw [str_size, decide_eq_true hn, Bool.and_true]
  refine (digsTo_iff _ _).2 fun i hi => ?_
  have := h i
  rw [bt_str h hi]
  omega
theorem sumTo_str {f : Nat → Int} (h : ∀ i, 0 ≤ f i ∧ f i ≤ 9) {n : Nat} : ∀ k, k ≤ n → sumTo (str f n) k = vsum f k
  | 0, _ => rfl
  | k + 1, hk => by
    rw [sumTo_succ, sumTo_str h k (by omega), bt_str h (by omega), vsum_succ]
    omega
theorem sum_str {f : Nat → Int} (h : ∀ i, 0 ≤ f i ∧ f i ≤ 9) (n : Nat) : sum (str f n) = vsum f n := by
  unfold sum
  rw [str_size]
  exact sumTo_str h n (Nat.le_refl n)
theorem str_congr {f g : Nat → Int} {n : Nat} (h : ∀ i, i < n → f i = g i) : str f n = str g n := by
  unfold str
  congr 1
  apply List.map_congr_left
  intro i hi
  rw [h i (List.mem_range.1 hi)]
theorem vsum_congr {f g : Nat → Int} : ∀ {n : Nat}, (∀ i, i < n → f i = g i) → vsum f n = vsum g n
  | 0, _ => rfl
  | n + 1, h => by rw [vsum_succ, vsum_succ, vsum_congr fun i hi => h i (by omega), h n (by omega)]
theorem code_str {f : Nat → Int} (h : ∀ i, 0 ≤ f i ∧ f i ≤ 9) : code (str f 7) = true := by
  unfold code
  rw [digs_str h (by omega), str_size]; rfl
/-- Another digit in a place. -/
def upd (f : Nat → Int) (u : Nat) (m : Int) (i : Nat) : Int := if i = u then m else f i
theorem upd_bd {f : Nat → Int} (h : ∀ i, 0 ≤ f i ∧ f i ≤ 9) {u : Nat} {m : Int} (h0 : 0 ≤ m) (h9 : m ≤ 9) : ∀ i, 0 ≤ upd f u m i ∧ upd f u m i ≤ 9 := fun i => by
  unfold upd
  split
  · exact ⟨h0, h9⟩
  · exact h i
theorem vsum_upd {f : Nat → Int} {u : Nat} {m : Int} (hf : f u = 0) : ∀ n, vsum (upd f u m) n = vsum f n + if u < n then m else 0
  | 0 => by simp [vsum]
  | n + 1 => by
    rw [vsum_succ, vsum_succ, vsum_upd hf n]
    unfold upd
    by_cases e : n = u
    · subst e
      rw [if_pos rfl, if_neg (by omega), if_pos (by omega), hf]
    · rw [if_neg e]
      by_cases hu : u < n
      · rw [if_pos hu, if_pos (by omega)]; omega
      · rw [if_neg hu, if_neg (by omega)]; omega
theorem str_upd (f : Nat → Int) (m : Int) {u n : Nat} (hu : u < n) : (str f n).extract 0 u ++ dig m ++ (str f n).extract (u + 1) n = str (upd f u m) n := by
  unfold str
  rw [extract_ofInts, extract_ofInts, dig_ofInts, ofInts_append, ofInts_append]
  congr 1
  apply List.ext_getElem?
  intro i
  by_cases h1 : i < u
  · rw [List.getElem?_append_left (by simp; omega), List.getElem?_append_left (by simp; omega)]
    have h2 : i < n := by omega
    have h3 : ¬ i = u := by omega
    simp [h1, h2, upd, h3]
  · by_cases h2 : i = u
    · subst h2
      rw [List.getElem?_append_left (by simp; omega), List.getElem?_append_right (by simp; omega)]
      have h3 : min i n = i := by omega
      simp [upd, hu, h3]
    · rw [List.getElem?_append_right (by simp; omega)]
      have e1 : i - (u + 1) + (u + 1) = i := by omega
      by_cases h3 : i < n
      · have h4 : ¬ i = u := h2
        have h5 : i - (u + 1) < n - (u + 1) := by omega
        have h6 : u + 1 + (i - (u + 1)) = i := by omega
        have h7 : min u n + 1 = u + 1 := by omega
        simp [upd, h3, h4, h7, h5, h6]
      · have h5 : ¬ i - (u + 1) < n - (u + 1) := by omega
        have h7 : min u n + 1 = u + 1 := by omega
        simp [h3, h7, h5]
theorem str_cut (f : Nat → Int) {k n : Nat} (h : k ≤ n) : (str f n).extract 0 k = str f k := by
  unfold str
  rw [extract_ofInts]
  congr 1
  apply List.ext_getElem?
  intro i
  by_cases hi : i < k
  · have : i < n := by omega
    simp [hi, this]
  · have : min k n ≤ i := by omega
    simp [hi, this]
/-- The digit that completes a sum. -/
def miss (s : Int) : Int := (10 - s % 10) % 10
theorem miss_bd (s : Int) : 0 ≤ miss s ∧ miss s ≤ 9 := by unfold miss; omega
theorem miss_zero (s : Int) : miss s = 0 ↔ s % 10 = 0 := by unfold miss; omega
theorem miss_sum (s : Int) : (s + miss s) % 10 = 0 := by unfold miss; omega
/-- All eight groups are bars of digits. -/
def allOk (b : ByteArray) : Bool := (List.range 8).all fun i => decide (0 ≤ G b i)
theorem allOk_iff (b : ByteArray) : allOk b = true ↔ ∀ i, i < 8 → 0 ≤ G b i := by
  unfold allOk
  rw [List.all_eq_true]
  exact ⟨fun h i hi => of_decide_eq_true (h i (List.mem_range.2 hi)), fun h i hi => decide_eq_true (h i (List.mem_range.1 hi))⟩
/-- All groups but u are bars of digits. -/
def oneLost (b : ByteArray) (u : Nat) : Bool := decide (G b u < 0) && (List.range 8).all fun i => decide (i = u ∨ 0 ≤ G b i)
theorem oneLost_iff (b : ByteArray) (u : Nat) : oneLost b u = true ↔ G b u < 0 ∧ ∀ i, i < 8 → i ≠ u → 0 ≤ G b i := by
  unfold oneLost
  rw [Bool.and_eq_true, List.all_eq_true, decide_eq_true_eq]
  refine and_congr_right fun _ => ⟨fun h i hi hne => ?_, fun h i hi => decide_eq_true ?_⟩
  · rcases of_decide_eq_true (h i (List.mem_range.2 hi)) with e | e
    · exact absurd e hne
    · exact e
  · by_cases e : i = u
    · exact Or.inl e
    · exact Or.inr (h i (List.mem_range.1 hi) e)
/-- The recovered code. -/
def recov (b : ByteArray) : Option ByteArray :=
  if b.size = 42 then
    if allOk b = true then (if vsum (val b) 8 % 10 = 0 then some (str (val b) 7) else none)
    else ((List.range 8).find? (oneLost b)).map fun u => str (upd (val b) u (miss (vsum (val b) 8))) 7
  else none
theorem recov_size {b : ByteArray} (h : ¬ b.size = 42) : recov b = none := if_neg h
theorem recov_all {b : ByteArray} (h : b.size = 42) (ha : ∀ i, i < 8 → 0 ≤ G b i) (hs : vsum (val b) 8 % 10 = 0) : recov b = some (str (val b) 7) := by
  unfold recov
  rw [if_pos h, if_pos ((allOk_iff b).2 ha), if_pos hs]
theorem recov_bad {b : ByteArray} (h : b.size = 42) (ha : ∀ i, i < 8 → 0 ≤ G b i) (hs : ¬ vsum (val b) 8 % 10 = 0) : recov b = none := by
  unfold recov
  rw [if_pos h, if_pos ((allOk_iff b).2 ha), if_neg hs]
theorem recov_one {b : ByteArray} (h : b.size = 42) {u : Nat} (hu : u < 8) (hl : G b u < 0) (ha : ∀ i, i < 8 → i ≠ u → 0 ≤ G b i) : recov b = some (str (upd (val b) u (miss (vsum (val b) 8))) 7) := by
  have h1 : ¬ allOk b = true := fun e => by
    have := (allOk_iff b).1 e u hu
    omega
  have h2 : (List.range 8).find? (oneLost b) = some u := by
    rw [List.find?_range_eq_some]
    refine ⟨(oneLost_iff b u).2 ⟨hl, ha⟩, List.mem_range.2 hu, fun j hj => ?_⟩
    have : oneLost b j = false := by
      rw [Bool.eq_false_iff]
      intro e
      have := ((oneLost_iff b j).1 e).2 u hu (by omega)
      omega
    rw [this]; rfl
  unfold recov
  rw [if_pos h, if_neg h1, h2]; rfl
theorem recov_two {b : ByteArray} (h : b.size = 42) {i j : Nat} (hij : i < j) (hj : j < 8) (hi : G b i < 0) (hl : G b j < 0) : recov b = none := by
  have h1 : ¬ allOk b = true := fun e => by
    have := (allOk_iff b).1 e j hj
    omega
  have h2 : (List.range 8).find? (oneLost b) = none := by
    rw [List.find?_range_eq_none]
    intro u _
    have : oneLost b u = false := by
      rw [Bool.eq_false_iff]
      intro e
      have h3 := ((oneLost_iff b u).1 e).2
      by_cases e : i = u
      · have := h3 j hj (by omega); omega
      · have := h3 i (by omega) e; omega
    rw [this]; rfl
  unfold recov
  rw [if_pos h, if_neg h1, h2]; rfl
/-- How many of the first k groups are lost: none; the one at u; at least two. -/
inductive Lost (b : ByteArray) : Nat → Int → Prop
  | no {k : Nat} (h : ∀ i, i < k → 0 ≤ G b i) : Lost b k (-1)
  | at_ {k : Nat} (u : Nat) (hu : u < k) (hl : G b u < 0) (h : ∀ i, i < k → i ≠ u → 0 ≤ G b i) : Lost b k u
theorem Lost.zero (b : ByteArray) : Lost b 0 (-1) := .no fun i hi => absurd hi (by omega)
theorem below_succ {p : Nat → Prop} {k : Nat} (h : ∀ i, i < k → p i) (hk : p k) : ∀ i, i < k + 1 → p i := fun i hi => by
  by_cases e : i = k
  · subst e; exact hk
  · exact h i (by omega)
theorem Lost.keep {b : ByteArray} {k : Nat} {u : Int} (h : Lost b k u) (hk : 0 ≤ G b k) : Lost b (k + 1) u := by
  cases h with
  | no h => exact .no (below_succ h hk)
  | at_ u hu hl h => exact .at_ u (by omega) hl (below_succ (p := fun i => i ≠ u → 0 ≤ G b i) h fun _ => hk)
theorem Lost.first {b : ByteArray} {k : Nat} {u : Int} (h : Lost b k u) (hu : u < 0) (hk : G b k < 0) : Lost b (k + 1) (k : Int) := by
  cases h with
  | no h => exact .at_ k (by omega) hk fun i hi hne => h i (by omega)
  | at_ u hu' hl h => exact absurd hu (by omega)
theorem Lost.second {b : ByteArray} {k : Nat} {u : Int} (h : Lost b k u) (hu : 0 ≤ u) (hk : G b k < 0) (h8 : k < 8) (h42 : b.size = 42) : recov b = none := by
  cases h with
  | no h => exact absurd hu (by omega)
  | at_ u hu' hl h => exact recov_two h42 hu' h8 hl hk
theorem Lost.bd {b : ByteArray} {k : Nat} {u : Int} (h : Lost b k u) : -1 ≤ u ∧ u < k := by
  cases h with
  | no h => omega
  | at_ u hu' hl h => omega
/-- What a code's bars, or no code's, give back. -/
def ans (o : Option ByteArray) : Value := match o with
  | some s => .tuple #[.string s, .bool true]
  | none => .tuple #[.string ⟨#[]⟩, .bool false]
theorem ans_some (s : ByteArray) : ans (some s) = .tuple #[.string s, .bool true] := rfl
theorem ans_none : ans none = .tuple #[.string ⟨#[]⟩, .bool false] := rfl
end Go.Proofs.YthpdcilffbffoaaDoor.M
