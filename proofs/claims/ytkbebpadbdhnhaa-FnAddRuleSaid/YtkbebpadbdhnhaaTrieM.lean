/-
  Tries on paper: the digits of a string, the rule that ends behind some digits, the last rule on the way along some digits; and the rule with the longest beginning, found by index.
-/
import Derived.Test.YtkbebpadbdhnhaaRulM
namespace Go.Proofs.Ytkbebpadbdhnhaa.M
open Go.PlainAid (bt get_bt bt_nonneg bt_le)

/-- The first k digits of a string. -/
def dg (s : ByteArray) (k : Nat) : List Nat := (List.range k).map fun i => (bt s i - 48).toNat
theorem dg_length (s : ByteArray) (k : Nat) : (dg s k).length = k := by simp [dg]
theorem dg_zero (s : ByteArray) : dg s 0 = [] := rfl
theorem dg_succ (s : ByteArray) (k : Nat) : dg s (k + 1) = dg s k ++ [(bt s k - 48).toNat] := by unfold dg; rw [List.range_succ, List.map_append]; rfl
theorem dg_at (s : ByteArray) (k i : Nat) (h : i < k) : (dg s k)[i]? = some (bt s i - 48).toNat := by simp [dg, h]
/-- All the digits of a string. -/
def dgs (s : ByteArray) : List Nat := dg s s.size
theorem dgs_length (s : ByteArray) : (dgs s).length = s.size := dg_length s s.size
theorem dg_take (s : ByteArray) {j k : Nat} (h : j ≤ k) : (dg s k).take j = dg s j := by
  unfold dg
  rw [← List.map_take, List.take_range, Nat.min_eq_left h]
theorem bt_eq {s t : ByteArray} (h : s.size = t.size) (e : ∀ i, i < s.size → bt s i = bt t i) : s = t := by
  apply ByteArray.ext
  apply Array.ext
  · exact h
  · intro i h1 h2
    have := e i h1
    have g1 := get_bt s i h1
    have g2 := get_bt t i h2
    apply UInt8.toNat_inj.1
    have : ((s[i]'h1).toNat : Int) = ((t[i]'h2).toNat : Int) := by rw [g1, g2]; exact this
    show (s[i]'h1).toNat = (t[i]'h2).toNat
    omega
/-- Strings of digits with the same digits are the same. -/
theorem dgs_inj {s t : ByteArray} (hs : digs s = true) (ht : digs t = true) (h : dgs s = dgs t) : s = t := by
  have hl : s.size = t.size := by rw [← dgs_length s, ← dgs_length t, h]
  refine bt_eq hl fun i hi => ?_
  have h1 := dg_at s s.size i hi
  have h2 := dg_at t t.size i (by omega)
  have h3 : dg s s.size = dg t t.size := h
  rw [h3, h2] at h1
  have h4 := Option.some.inj h1
  have b1 := digs_bt hs i hi
  have b2 := digs_bt ht i (by omega)
  omega
/-- A string of digits begins with another one exactly if its first digits are those of that one. -/
theorem begins_dg {c p : ByteArray} (hc : digs c = true) (hp : digs p = true) : begins c p = true ↔ p.size ≤ c.size ∧ dg c p.size = dgs p := by
  have hx : p.size ≤ c.size → ∀ i, i < p.size → bt (c.extract 0 p.size) i = bt c i := fun hle i hi => by
    have hsz : (c.extract 0 p.size).size = p.size := by rw [ByteArray.size_extract]; omega
    rw [← get_bt _ i (by omega), ← get_bt c i (by omega), ByteArray.getElem_extract]
    congr 3
    omega
  constructor
  · intro h
    have hle : p.size ≤ c.size := by
      by_cases e : p.size ≤ c.size
      · exact e
      · rw [begins_short (by omega)] at h; cases h
    rw [begins_long hle] at h
    have he := of_decide_eq_true h
    refine ⟨hle, ?_⟩
    unfold dgs dg
    refine List.map_congr_left fun i hi => ?_
    rw [← hx hle i (List.mem_range.1 hi), he]
  · rintro ⟨hle, h⟩
    rw [begins_long hle]
    refine decide_eq_true ?_
    have hsz : (c.extract 0 p.size).size = p.size := by rw [ByteArray.size_extract]; omega
    refine bt_eq hsz fun i hi => ?_
    rw [hsz] at hi
    rw [hx hle i hi]
    have h1 := dg_at c p.size i hi
    have h2 := dg_at p p.size i hi
    have h3 : dg c p.size = dg p p.size := h
    rw [h3, h2] at h1
    have h4 := Option.some.inj h1
    have b1 := digs_bt hc i (by omega)
    have b2 := digs_bt hp i hi
    omega

/-- Of the first n rules, where the last one whose prefix has these digits sends letters. -/
def ruleAt (P N : Nat → ByteArray) : Nat → List Nat → Option ByteArray
  | 0, _ => none
  | n + 1, q => if dgs (P n) = q then some (N n) else ruleAt P N n q
theorem ruleAt_zero (P N : Nat → ByteArray) (q : List Nat) : ruleAt P N 0 q = none := rfl
theorem ruleAt_succ (P N : Nat → ByteArray) (n : Nat) (q : List Nat) : ruleAt P N (n + 1) q = if dgs (P n) = q then some (N n) else ruleAt P N n q := rfl
theorem ruleAt_none {P N : Nat → ByteArray} {q : List Nat} : ∀ {n : Nat}, ruleAt P N n q = none ↔ ∀ i, i < n → dgs (P i) ≠ q
  | 0 => ⟨fun _ i hi => absurd hi (by omega), fun _ => rfl⟩
  | n + 1 => by
    rw [ruleAt_succ]
    by_cases e : dgs (P n) = q
    · rw [if_pos e]
      exact ⟨fun h => (by cases h), fun h => absurd e (h n (by omega))⟩
    · rw [if_neg e, ruleAt_none (n := n)]
      refine ⟨fun h i hi => ?_, fun h i hi => h i (by omega)⟩
      by_cases e2 : i = n
      · subst e2; exact e
      · exact h i (by omega)
theorem ruleAt_some {P N : Nat → ByteArray} {q : List Nat} {x : ByteArray} : ∀ {n : Nat}, ruleAt P N n q = some x → ∃ i, i < n ∧ dgs (P i) = q ∧ N i = x
  | 0, h => by cases h
  | n + 1, h => by
    rw [ruleAt_succ] at h
    by_cases e : dgs (P n) = q
    · rw [if_pos e] at h
      exact ⟨n, by omega, e, Option.some.inj h⟩
    · rw [if_neg e] at h
      obtain ⟨i, hi, h1, h2⟩ := ruleAt_some h
      exact ⟨i, by omega, h1, h2⟩
/-- Where no two prefixes have the same digits, each rule is found. -/
theorem ruleAt_hit {P N : Nat → ByteArray} : ∀ {n : Nat}, (∀ i k, i < n → k < i → dgs (P k) ≠ dgs (P i)) → ∀ i, i < n → ruleAt P N n (dgs (P i)) = some (N i)
  | 0, _, i, hi => absurd hi (by omega)
  | n + 1, h, i, hi => by
    rw [ruleAt_succ]
    by_cases e : i = n
    · subst e; rw [if_pos rfl]
    · rw [if_neg (fun e2 => h n i (by omega) (by omega) e2.symm)]
      exact ruleAt_hit (fun a b ha hb => h a b (by omega) hb) i (by omega)
/-- The last of what R has along the first k digits of a string. -/
def look {α : Type} (R : List Nat → Option α) (c : ByteArray) : Nat → Option α
  | 0 => R []
  | k + 1 => match R (dg c (k + 1)) with
    | some x => some x
    | none => look R c k
section
variable {α β : Type} {R : List Nat → Option α} {c : ByteArray}
theorem look_zero (R : List Nat → Option α) (c : ByteArray) : look R c 0 = R [] := rfl
theorem look_hit {k : Nat} {x : α} (h : R (dg c (k + 1)) = some x) : look R c (k + 1) = some x := by unfold look; rw [h]
theorem look_miss {k : Nat} (h : R (dg c (k + 1)) = none) : look R c (k + 1) = look R c k := by rw [look, h]
theorem look_stay {k : Nat} : ∀ {n : Nat}, k ≤ n → (∀ j, k < j → j ≤ n → R (dg c j) = none) → look R c n = look R c k
  | 0, h, _ => by rw [show k = 0 by omega]
  | n + 1, h, hn => by
    by_cases e : k = n + 1
    · rw [e]
    · rw [look_miss (hn (n + 1) (by omega) (Nat.le_refl _))]
      exact look_stay (by omega) fun j h1 h2 => hn j h1 (by omega)
theorem look_at {k n : Nat} {x : α} (h : k ≤ n) (hx : R (dg c k) = some x) (hn : ∀ j, k < j → j ≤ n → R (dg c j) = none) : look R c n = some x := by
  rw [look_stay h hn]
  cases k with
  | zero => exact hx
  | succ k => exact look_hit hx
theorem look_none {n : Nat} (hn : ∀ j, j ≤ n → R (dg c j) = none) : look R c n = none := by
  rw [look_stay (Nat.zero_le n) fun j _ h => hn j h]
  exact hn 0 (Nat.zero_le _)
theorem look_map (f : α → β) (R : List Nat → Option α) (c : ByteArray) : ∀ n, look (fun q => (R q).map f) c n = (look R c n).map f
  | 0 => rfl
  | n + 1 => by
    cases h : R (dg c (n + 1)) with
    | none => rw [look_miss h, look_miss (R := fun q => (R q).map f) (by show (R _).map f = none; rw [h]; rfl), look_map f R c n]
    | some x => rw [look_hit h, look_hit (R := fun q => (R q).map f) (x := f x) (by show (R _).map f = some (f x); rw [h]; rfl)]; rfl
/-- What is found is somewhere. -/
theorem look_is {x : α} : ∀ {n : Nat}, look R c n = some x → ∃ k, k ≤ n ∧ R (dg c k) = some x
  | 0, h => ⟨0, Nat.le_refl _, h⟩
  | n + 1, h => by
    cases e : R (dg c (n + 1)) with
    | none =>
      rw [look_miss e] at h
      obtain ⟨k, hk, h1⟩ := look_is h
      exact ⟨k, by omega, h1⟩
    | some y =>
      rw [look_hit e] at h
      exact ⟨n + 1, Nat.le_refl _, h ▸ e⟩
theorem look_congr {R' : List Nat → Option α} (h : ∀ q, R q = R' q) (n : Nat) : look R c n = look R' c n := by
  rw [show R = R' from funext h]
end
/-- The first digits go on. -/
theorem dg_more (c : ByteArray) {k j : Nat} (h : k ≤ j) : ∃ r, dg c j = dg c k ++ r := ⟨(dg c j).drop k, by rw [← dg_take c h, List.take_append_drop]⟩

/-- The index of the rule with the longest prefix with which a string begins, as the document's model seeks it. -/
def bestTo (P : Nat → ByteArray) (c : ByteArray) : Nat → Int
  | 0 => -1
  | n + 1 => if begins c (P n) = true ∧ (bestTo P c n < 0 ∨ (P (bestTo P c n).toNat).size < (P n).size) then (n : Int) else bestTo P c n
theorem bestTo_zero (P : Nat → ByteArray) (c : ByteArray) : bestTo P c 0 = -1 := rfl
theorem bestTo_yes {P : Nat → ByteArray} {c : ByteArray} {n : Nat} (h : begins c (P n) = true) (h2 : bestTo P c n < 0 ∨ (P (bestTo P c n).toNat).size < (P n).size) : bestTo P c (n + 1) = (n : Int) := by
  unfold bestTo; exact if_pos ⟨h, h2⟩
theorem bestTo_other {P : Nat → ByteArray} {c : ByteArray} {n : Nat} (h : begins c (P n) = false) : bestTo P c (n + 1) = bestTo P c n := by
  rw [bestTo]; exact if_neg (fun e => by rw [h] at e; cases e.1)
theorem bestTo_less {P : Nat → ByteArray} {c : ByteArray} {n : Nat} (h1 : 0 ≤ bestTo P c n) (h2 : (P n).size ≤ (P (bestTo P c n).toNat).size) : bestTo P c (n + 1) = bestTo P c n := by
  rw [bestTo]; exact if_neg (fun e => by rcases e.2 with h | h <;> omega)
/-- What is found is a rule with which the string begins, and none is longer. -/
theorem bestTo_is (P : Nat → ByteArray) (c : ByteArray) : ∀ n, (bestTo P c n = -1 ∧ ∀ i, i < n → begins c (P i) = false) ∨
    ∃ b : Nat, bestTo P c n = (b : Int) ∧ b < n ∧ begins c (P b) = true ∧ ∀ i, i < n → begins c (P i) = true → (P i).size ≤ (P b).size
  | 0 => Or.inl ⟨rfl, fun i hi => absurd hi (by omega)⟩
  | n + 1 => by
    cases hb : begins c (P n)
    · rw [bestTo_other hb]
      rcases bestTo_is P c n with ⟨h1, h2⟩ | ⟨b, h1, h2, h3, h4⟩
      · exact Or.inl ⟨h1, fun i hi => by
          by_cases e : i = n
          · subst e; exact hb
          · exact h2 i (by omega)⟩
      · exact Or.inr ⟨b, h1, by omega, h3, fun i hi hbi => by
          by_cases e : i = n
          · subst e; rw [hb] at hbi; cases hbi
          · exact h4 i (by omega) hbi⟩
    · rcases bestTo_is P c n with ⟨h1, h2⟩ | ⟨b, h1, h2, h3, h4⟩
      · refine Or.inr ⟨n, bestTo_yes hb (Or.inl (by omega)), by omega, hb, fun i hi hbi => ?_⟩
        by_cases e : i = n
        · subst e; exact Nat.le_refl _
        · rw [h2 i (by omega)] at hbi; cases hbi
      · by_cases hl : (P b).size < (P n).size
        · refine Or.inr ⟨n, bestTo_yes hb (Or.inr (by rw [h1]; simpa using hl)), by omega, hb, fun i hi hbi => ?_⟩
          by_cases e : i = n
          · subst e; exact Nat.le_refl _
          · have := h4 i (by omega) hbi; omega
        · refine Or.inr ⟨b, (bestTo_less (by omega) (by rw [h1]; simpa using (by omega : (P n).size ≤ (P b).size))).trans h1, by omega, h3, fun i hi hbi => ?_⟩
          by_cases e : i = n
          · subst e; omega
          · exact h4 i (by omega) hbi
theorem bestTo_bd (P : Nat → ByteArray) (c : ByteArray) (n : Nat) : -1 ≤ bestTo P c n ∧ bestTo P c n < (n : Int) := by
  rcases bestTo_is P c n with ⟨h1, _⟩ | ⟨b, h1, h2, _⟩ <;> omega
/-- Where letters are sent by the rule that is found; none: the empty string. -/
def nextTo (P N : Nat → ByteArray) (c : ByteArray) (n : Nat) : ByteArray := if bestTo P c n < 0 then ⟨#[]⟩ else N (bestTo P c n).toNat
/-- Both ways of seeking agree. -/
theorem look_best {P N : Nat → ByteArray} {n : Nat} {c : ByteArray} (hc : digs c = true) (hP : ∀ i, i < n → digs (P i) = true) (hd : ∀ i k, i < n → k < i → P k ≠ P i) :
    look (ruleAt P N n) c c.size = if bestTo P c n < 0 then none else some (N (bestTo P c n).toNat) := by
  have hdd : ∀ i k, i < n → k < i → dgs (P k) ≠ dgs (P i) := fun i k hi hk e => hd i k hi hk (dgs_inj (hP k (by omega)) (hP i hi) e)
  rcases bestTo_is P c n with ⟨h1, h2⟩ | ⟨b, h1, h2, h3, h4⟩
  · rw [h1, if_pos (by omega)]
    refine look_none fun j hj => ruleAt_none.2 fun i hi e => ?_
    have hsz : (P i).size = j := by rw [← dgs_length (P i), e, dg_length]
    have := (begins_dg hc (hP i hi)).2 ⟨by omega, by rw [hsz]; exact e.symm⟩
    rw [h2 i hi] at this; cases this
  · rw [h1, if_neg (by omega)]
    obtain ⟨hle, he⟩ := (begins_dg hc (hP b h2)).1 h3
    have hN : N ((b : Int)).toNat = N b := by rw [Int.toNat_natCast]
    rw [hN]
    refine look_at hle (by rw [he]; exact ruleAt_hit hdd b h2) fun j hj1 hj2 => ruleAt_none.2 fun i hi e => ?_
    have hsz : (P i).size = j := by rw [← dgs_length (P i), e, dg_length]
    have hbi := (begins_dg hc (hP i hi)).2 ⟨by omega, by rw [hsz]; exact e.symm⟩
    have := h4 i hi hbi
    omega
end Go.Proofs.Ytkbebpadbdhnhaa.M
