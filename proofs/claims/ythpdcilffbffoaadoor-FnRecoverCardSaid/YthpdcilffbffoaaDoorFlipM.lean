/-
  Plain functions on bars: bars of which one is changed, and bars of which a group cannot be read. No program is named here.
-/
import Derived.Test.YthpdcilffbffoaaDoorTrueM
import Derived.Test.YthpdcilffbffoaaDoorSums
namespace Go.Proofs.YthpdcilffbffoaaDoor.M
open Go.PlainAid (bt get_bt bt_nonneg bt_le)

theorem ext_bt {a b : ByteArray} (hs : a.size = b.size) (h : ∀ i, i < a.size → bt a i = bt b i) : a = b := by
  rw [ofInts_bytes a, ofInts_bytes b, ← hs]
  congr 1
  apply List.map_congr_left
  intro i hi
  exact h i (List.mem_range.1 hi)
theorem ext_size (s : ByteArray) {a b : Nat} (hb : b ≤ s.size) : (s.extract a b).size = b - a := by simp; omega
theorem G_congr {x b : ByteArray} {k : Nat} (hx : 6 + 5 * k ≤ x.size) (hb : 6 + 5 * k ≤ b.size) (h : ∀ p, p < 5 → bt x (1 + 5 * k + p) = bt b (1 + 5 * k + p)) : G x k = G b k := by
  have e : x.extract (1 + 5 * k) (6 + 5 * k) = b.extract (1 + 5 * k) (6 + 5 * k) := by
    apply ext_bt
    · rw [ext_size x hx, ext_size b hb]
    · intro i hi
      rw [ext_size x hx] at hi
      rw [bt_ext x _ _ i hx hi, bt_ext b _ _ i hb hi]
      exact h i (by omega)
  unfold G
  rw [e]
theorem bar_bytes {d : Int} (h0 : 0 ≤ d) (h9 : d ≤ 9) : ∀ p, p < 5 → bt (bar d) p = 124 ∨ bt (bar d) p = 46 := by
  rcases digit_cases h0 h9 with rfl | rfl | rfl | rfl | rfl | rfl | rfl | rfl | rfl | rfl
  all_goals
    intro p hp
    have hk' : p = 0 ∨ p = 1 ∨ p = 2 ∨ p = 3 ∨ p = 4 := by omega
    rcases hk' with rfl | rfl | rfl | rfl | rfl <;> decide
/-- A group with another byte than those of bars is no digit's. -/
theorem G_odd {x : ByteArray} {k p : Nat} (hx : 6 + 5 * k ≤ x.size) (hp : p < 5) (h1 : bt x (1 + 5 * k + p) ≠ 124) (h2 : bt x (1 + 5 * k + p) ≠ 46) : G x k < 0 := by
  apply Classical.byContradiction
  intro hn
  have h0 : 0 ≤ barDigit (x.extract (1 + 5 * k) (6 + 5 * k)) := by
    have : 0 ≤ G x k := by omega
    exact this
  have he := bar_of_digit h0
  have hb := bar_bytes h0 (barDigit_bd _).2 p hp
  rw [← he, bt_ext x _ _ p hx (by omega)] at hb
  rcases hb with hb | hb
  · exact h1 hb
  · exact h2 hb
theorem bars_first (c : ByteArray) : bt (barsOf c) 0 = 124 := by
  obtain ⟨R, hR⟩ := bars_split c 0 7
  have e : barsTo c (0 + 7) = barsTo c 7 := rfl
  have e0 : barsTo c 0 = ⟨#[124]⟩ := rfl
  rw [e, e0] at hR
  unfold barsOf
  rw [hR, app_assoc, app_assoc, bt_append_left _ _ 0 (by decide)]
  decide
theorem bars_last {c : ByteArray} (h : code c = true) : bt (barsOf c) 41 = 124 := by
  have hs := bars_size h
  unfold barsOf at hs ⊢
  rw [ByteArray.size_append] at hs
  have h1 : (⟨#[124]⟩ : ByteArray).size = 1 := rfl
  have e : 41 = (barsTo c 7 ++ bar (checkDigit c)).size := by omega
  rw [e, bt_append_byte]
  decide
theorem put_ext (b : ByteArray) {a e i : Nat} (n : Int) (n0 : 0 ≤ n) (n1 : n ≤ 255) (he : e ≤ b.size) (hi : a ≤ i) : (put b i n).extract a e = put (b.extract a e) (i - a) n := by
  have hp : e ≤ (put b i n).size := by rw [put_size]; exact he
  apply ext_bt
  · rw [put_size, ext_size _ hp, ext_size _ he]
  · intro j hj
    rw [ext_size _ hp] at hj
    rw [bt_ext _ _ _ j hp hj, bt_put b i n n0 n1 _ (by omega), bt_put _ _ n n0 n1 j (by rw [ext_size _ he]; exact hj), bt_ext _ _ _ j he hj]
    by_cases e1 : a + j = i
    · rw [if_pos e1, if_pos (by omega)]
    · rw [if_neg e1, if_neg (by omega)]
/-- Bars of which one is changed are not read. -/
theorem unread {c : ByteArray} (h : code c = true) {i : Nat} (hi : i < 42) : readB (put (barsOf c) i (if bt (barsOf c) i = 124 then 46 else 124)) = none := by
  have hs := bars_size h
  have hf : ∀ (n : Int), 0 ≤ (if n = 124 then (46 : Int) else 124) ∧ (if n = 124 then (46 : Int) else 124) ≤ 255 := fun n => by split <;> omega
  obtain ⟨f0, f1⟩ := hf (bt (barsOf c) i)
  by_cases h0 : i = 0
  · subst h0
    refine read_none_of fun c' hc' e => ?_
    have := bars_first c'
    rw [e, bt_put _ _ _ f0 f1 0 (by omega), if_pos rfl, bars_first c, if_pos rfl] at this
    omega
  · by_cases h41 : i = 41
    · subst h41
      refine read_none_of fun c' hc' e => ?_
      have := bars_last hc'
      rw [e, bt_put _ _ _ f0 f1 41 (by omega), if_pos rfl, bars_last h, if_pos rfl] at this
      omega
    · obtain ⟨k, p, hk, hp, hkp⟩ : ∃ k p, k < 8 ∧ p < 5 ∧ i = 1 + 5 * k + p := ⟨(i - 1) / 5, (i - 1) % 5, by omega, by omega, by omega⟩
      have hg := bars_all h k hk
      have hb := bar_of_digit (b := (barsOf c).extract (1 + 5 * k) (6 + 5 * k)) hg
      have h9 := (barDigit_bd ((barsOf c).extract (1 + 5 * k) (6 + 5 * k))).2
      obtain ⟨d, hde⟩ : ∃ d, barDigit ((barsOf c).extract (1 + 5 * k) (6 + 5 * k)) = d := ⟨_, rfl⟩
      have hg' : 0 ≤ d := by rw [← hde]; exact hg
      rw [hde] at hb h9
      have hd := (bar_facts (d := d) hg' h9).2 p hp
      refine read_lost (i := k) hk ?_
      unfold G
      rw [put_ext _ _ f0 f1 (by omega) (by omega)]
      have e1 : i - (1 + 5 * k) = p := by omega
      have e2 : bt (barsOf c) i = bt (bar d) p := by
        rw [← hb, bt_ext _ _ _ p (by omega) (by omega), hkp]
      rw [e1, e2, hb, hd]
      omega
/-- Bars that agree with others but for their ends and for group k. -/
def Smudged (b x : ByteArray) (k : Nat) : Prop := x.size = 42 ∧ ∀ q, 1 ≤ q → q < 41 → q < 1 + 5 * k ∨ 6 + 5 * k ≤ q → bt x q = bt b q
theorem Smudged.refl {b : ByteArray} (h : b.size = 42) (k : Nat) : Smudged b b k := ⟨h, fun _ _ _ _ => rfl⟩
theorem Smudged.put {b x : ByteArray} {k : Nat} (h : Smudged b x k) {i : Nat} (n : Int) (n0 : 0 ≤ n) (n1 : n ≤ 255) (hi : i < 1 ∨ 41 ≤ i ∨ (1 + 5 * k ≤ i ∧ i < 6 + 5 * k)) : Smudged b (put x i n) k := by
  obtain ⟨hs, hq⟩ := h
  refine ⟨by rw [put_size]; exact hs, fun q h1 h2 h3 => ?_⟩
  rw [bt_put x i n n0 n1 q (by omega), if_neg (by omega)]
  exact hq q h1 h2 h3
theorem Smudged.G {c x : ByteArray} (h : code c = true) {k : Nat} (hs : Smudged (barsOf c) x k) {j : Nat} (hj : j < 8) (hjk : j ≠ k) : G x j = G (barsOf c) j := by
  have hb := bars_size h
  refine G_congr (by rw [hs.1]; omega) (by omega) fun p hp => hs.2 _ (by omega) (by omega) (by omega)
theorem Smudged.recov {c x : ByteArray} (h : code c = true) {k : Nat} (hk : k < 8) (hs : Smudged (barsOf c) x k) (hq : bt x (1 + 5 * k) = 63) : recov x = some c := by
  have hl : M.G x k < 0 := G_odd (p := 0) (by rw [hs.1]; omega) (by omega) (by rw [Nat.add_zero, hq]; omega) (by rw [Nat.add_zero, hq]; omega)
  have hg : ∀ j, j < 8 → j ≠ k → M.G x j = M.G (barsOf c) j := fun j hj hne => hs.G h hj hne
  have hall := bars_all h
  rw [recov_one hs.1 hk hl (fun j hj hne => by rw [hg j hj hne]; exact hall j hj)]
  have hv : ∀ j, j < 8 → j ≠ k → val x j = val (barsOf c) j := fun j hj hne => by
    rw [val_ok (hall j hj), val_ok (by rw [hg j hj hne]; exact hall j hj), hg j hj hne]
  have hsum := bars_sum h
  have hup : ∀ j, j < 8 → val (barsOf c) j = upd (val x) k (val (barsOf c) k) j := fun j hj => by
    unfold upd
    by_cases e : j = k
    · rw [if_pos e, e]
    · rw [if_neg e, hv j hj e]
  rw [vsum_congr hup, vsum_upd (val_lost hl), if_pos hk] at hsum
  have hm : miss (vsum (val x) 8) = val (barsOf c) k := by
    have := val_bd (barsOf c) k
    unfold miss
    omega
  rw [hm, ← str_congr (fun j hj => hup j (by omega)), str_code h (fun _ hi => bars_val h hi)]
theorem Smudged.unread {c x : ByteArray} {k : Nat} (hk : k < 8) (hs : Smudged (barsOf c) x k) (hq : bt x (1 + 5 * k) = 63) : readB x = none :=
  read_lost hk (G_odd (p := 0) (by rw [hs.1]; omega) (by omega) (by rw [Nat.add_zero, hq]; omega) (by rw [Nat.add_zero, hq]; omega))
end Go.Proofs.YthpdcilffbffoaaDoor.M
