/-
  Plain functions on bars: what a recovered code has to do with the bars that were given. No program is named here.
-/
import Derived.Test.YthpdcilffbffoaaDoorReadM
namespace Go.Proofs.YthpdcilffbffoaaDoor.M
open Go.PlainAid (bt get_bt bt_nonneg bt_le)

/-- Bars of a digit are the bars of that digit. -/
theorem bar_of_digit {b : ByteArray} (h : 0 ≤ barDigit b) : b = bar (barDigit b) := by
  rcases bar_cases b with ⟨d, hd, rfl⟩ | hn
  · rw [bar_digit (by omega) (by omega)]
  · rw [barDigit_no hn] at h
    omega
theorem group_eq {b c : ByteArray} {k : Nat} (h : 0 ≤ G b k) (e : G c k = G b k) : b.extract (1 + 5 * k) (6 + 5 * k) = c.extract (1 + 5 * k) (6 + 5 * k) := by
  have h1 := bar_of_digit (b := b.extract (1 + 5 * k) (6 + 5 * k)) h
  have h2 := bar_of_digit (b := c.extract (1 + 5 * k) (6 + 5 * k)) (by show 0 ≤ G c k; rw [e]; exact h)
  rw [h1, h2]
  show bar (G b k) = bar (G c k)
  rw [e]
/-- The digits of a code that eight digits with a sum of a multiple of ten begin with. -/
theorem bars_str {f : Nat → Int} (hf : ∀ i, 0 ≤ f i ∧ f i ≤ 9) (hs : vsum f 8 % 10 = 0) {k : Nat} (hk : k < 8) : G (barsOf (str f 7)) k = f k := by
  have hc := code_str hf
  by_cases e : k = 7
  · subst e
    rw [G_check hc, checkDigit_yes (code_yes hc).1, sum_str hf]
    have h1 : vsum f 8 = vsum f 7 + f 7 := vsum_succ f 7
    have h2 := hf 7
    omega
  · rw [G_bars hc (by omega), bt_str hf (by omega)]
    omega
theorem recov_agrees {b c : ByteArray} (h : recov b = some c) {k : Nat} (hk : k < 8) (hg : 0 ≤ G b k) : G (barsOf c) k = G b k := by
  by_cases h42 : b.size = 42
  · by_cases ha : allOk b = true
    · have hall := (allOk_iff b).1 ha
      by_cases hs : vsum (val b) 8 % 10 = 0
      · rw [recov_all h42 hall hs] at h
        injection h with h
        rw [← h, bars_str (val_bd b) hs hk, val_ok hg]
      · rw [recov_bad h42 hall hs] at h
        cases h
    · unfold recov at h
      rw [if_pos h42, if_neg ha, Option.map_eq_some_iff] at h
      obtain ⟨u, hu, h⟩ := h
      obtain ⟨h1, h2, _⟩ := List.find?_range_eq_some.1 hu
      have h3 := (oneLost_iff b u).1 h1
      have hu8 := List.mem_range.1 h2
      have hb := upd_bd (val_bd b) (u := u) (miss_bd (vsum (val b) 8)).1 (miss_bd (vsum (val b) 8)).2
      have hsum : vsum (upd (val b) u (miss (vsum (val b) 8))) 8 % 10 = 0 := by
        rw [vsum_upd (val_lost h3.1), if_pos hu8]
        exact miss_sum _
      rw [← h, bars_str hb hsum hk]
      unfold upd
      rw [if_neg (fun e => by subst e; omega), val_ok hg]
  · rw [recov_size h42] at h
    cases h
theorem list_eqB {a b : ByteArray} (h : a = b) : (a.toList == b.toList) = true := by subst h; simp
theorem recov_groups {b c : ByteArray} (h : recov b = some c) {k : Nat} (hk : k < 8) (hg : 0 ≤ G b k) : ((b.extract (1 + 5 * k) (6 + 5 * k)).toList == ((barsOf c).extract (1 + 5 * k) (6 + 5 * k)).toList) = true :=
  list_eqB (group_eq hg (recov_agrees h hk hg))
theorem recov_len {b c : ByteArray} (h : recov b = some c) : b.size = 42 := by
  by_cases h42 : b.size = 42
  · exact h42
  · rw [recov_size h42] at h; cases h
end Go.Proofs.YthpdcilffbffoaaDoor.M
