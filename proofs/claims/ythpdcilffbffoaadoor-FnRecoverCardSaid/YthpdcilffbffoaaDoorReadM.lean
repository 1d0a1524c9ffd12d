/-
  Plain functions on bars: the code that is read from bars. No program is named here.
-/
import Derived.Test.YthpdcilffbffoaaDoorRecM
namespace Go.Proofs.YthpdcilffbffoaaDoor.M
open Go.PlainAid (bt get_bt bt_nonneg bt_le)

theorem data_app (a b : ByteArray) : (a ++ b).data.toList = a.data.toList ++ b.data.toList := by
  rw [ByteArray.data_append]; simp
theorem size_list (a : ByteArray) : a.data.toList.length = a.size := by rw [Array.length_toList]; rfl
theorem extract_mid (A B R : ByteArray) : (A ++ B ++ R).extract A.size (A.size + B.size) = B := by
  apply ByteArray.ext
  apply Array.toList_inj.1
  rw [ByteArray.data_extract, Array.toList_extract, List.extract_eq_take_drop, data_app, data_app, List.append_assoc, ← size_list A, List.drop_left]
  have : A.data.toList.length + B.size - A.data.toList.length = B.data.toList.length := by rw [size_list B]; omega
  rw [this, List.take_left]
theorem bars_split (s : ByteArray) (k : Nat) : ∀ d, ∃ R, barsTo s (k + d) = barsTo s k ++ R
  | 0 => ⟨⟨#[]⟩, (append_empty _).symm⟩
  | d + 1 => by
    obtain ⟨R, h⟩ := bars_split s k d
    refine ⟨R ++ bar (bt s (k + d) - 48), ?_⟩
    rw [← Nat.add_assoc, barsTo_succ, h]
    apply ByteArray.ext
    simp only [ByteArray.data_append, Array.append_assoc]
theorem app_assoc (a b c : ByteArray) : a ++ b ++ c = a ++ (b ++ c) := by
  apply ByteArray.ext
  simp only [ByteArray.data_append, Array.append_assoc]
theorem G_bars {c : ByteArray} (h : code c = true) {k : Nat} (hk : k < 7) : G (barsOf c) k = bt c k - 48 := by
  obtain ⟨h7, hb⟩ := code_bts h
  have hbk := hb k hk
  obtain ⟨R, hR⟩ := bars_split c (k + 1) (6 - k)
  have e7 : k + 1 + (6 - k) = 7 := by omega
  rw [e7, barsTo_succ c k] at hR
  have hs := barsTo_size (s := c) (by rw [h7]; exact hb) k (by omega)
  have hz := bar_size (d := bt c k - 48) (by omega) (by omega)
  unfold G barsOf
  rw [hR, app_assoc _ R, app_assoc _ (R ++ _)]
  have e1 : 1 + 5 * k = (barsTo c k).size := hs.symm
  have e2 : 6 + 5 * k = (barsTo c k).size + (bar (bt c k - 48)).size := by omega
  rw [e1, e2, extract_mid, bar_digit (by omega) (by omega)]
theorem G_check {c : ByteArray} (h : code c = true) : G (barsOf c) 7 = checkDigit c := by
  obtain ⟨h7, hb⟩ := code_bts h
  obtain ⟨d0, d9⟩ := checkDigit_bd (code_yes h).1
  have hs := barsTo_size (s := c) (by rw [h7]; exact hb) 7 (by omega)
  have hz := bar_size d0 d9
  unfold G barsOf
  have e1 : 1 + 5 * 7 = (barsTo c 7).size := hs.symm
  have e2 : 6 + 5 * 7 = (barsTo c 7).size + (bar (checkDigit c)).size := by omega
  rw [e1, e2, extract_mid, bar_digit d0 d9]
theorem bars_size {c : ByteArray} (h : code c = true) : (barsOf c).size = 42 := by
  obtain ⟨h7, hb⟩ := code_bts h
  obtain ⟨d0, d9⟩ := checkDigit_bd (code_yes h).1
  have hs := barsTo_size (s := c) (by rw [h7]; exact hb) 7 (by omega)
  have hz := bar_size d0 d9
  unfold barsOf
  rw [ByteArray.size_append, ByteArray.size_append, hs, hz]
  rfl
theorem str_code {c : ByteArray} (h : code c = true) {f : Nat → Int} (hf : ∀ i, i < 7 → f i = bt c i - 48) : str f 7 = c := by
  obtain ⟨h7, _⟩ := code_bts h
  rw [str_congr hf]
  conv => rhs; rw [seven h7]
  show ofInts [48 + (bt c 0 - 48), 48 + (bt c 1 - 48), 48 + (bt c 2 - 48), 48 + (bt c 3 - 48), 48 + (bt c 4 - 48), 48 + (bt c 5 - 48), 48 + (bt c 6 - 48)] = _
  congr 1
  simp only [List.cons.injEq, and_true]
  omega
theorem sum_code {c : ByteArray} (h : code c = true) : vsum (fun i => bt c i - 48) 7 = sum c := by
  obtain ⟨h7, hb⟩ := code_bts h
  unfold sum
  rw [h7]
  show 0 + (bt c 0 - 48) + (bt c 1 - 48) + (bt c 2 - 48) + (bt c 3 - 48) + (bt c 4 - 48) + (bt c 5 - 48) + (bt c 6 - 48) = 0 + bt c 0 - 48 + bt c 1 - 48 + bt c 2 - 48 + bt c 3 - 48 + bt c 4 - 48 + bt c 5 - 48 + bt c 6 - 48
  omega
theorem bars_all {c : ByteArray} (h : code c = true) : ∀ i, i < 8 → 0 ≤ G (barsOf c) i := fun i hi => by
  obtain ⟨_, hb⟩ := code_bts h
  by_cases e : i = 7
  · subst e
    rw [G_check h]
    exact (checkDigit_bd (code_yes h).1).1
  · have := hb i (by omega)
    rw [G_bars h (by omega)]
    omega
theorem bars_val {c : ByteArray} (h : code c = true) {i : Nat} (hi : i < 7) : val (barsOf c) i = bt c i - 48 := by
  rw [val_ok (bars_all h i (by omega)), G_bars h hi]
theorem bars_sum {c : ByteArray} (h : code c = true) : vsum (val (barsOf c)) 8 % 10 = 0 := by
  rw [vsum_succ, vsum_congr (g := fun i => bt c i - 48) (fun _ hi => bars_val h hi), sum_code h, val_ok (bars_all h 7 (by omega)), G_check h, checkDigit_yes (code_yes h).1]
  omega
theorem recov_bars {c : ByteArray} (h : code c = true) : recov (barsOf c) = some c := by
  rw [recov_all (bars_size h) (bars_all h) (bars_sum h), str_code h (fun _ hi => bars_val h hi)]
theorem recov_code {b c : ByteArray} (h : recov b = some c) : code c = true := by
  unfold recov at h
  split at h
  · split at h
    · split at h
      · injection h with h; rw [← h]; exact code_str (val_bd b)
      · cases h
    · rw [Option.map_eq_some_iff] at h
      obtain ⟨u, _, h⟩ := h
      rw [← h]
      exact code_str (upd_bd (val_bd b) (miss_bd _).1 (miss_bd _).2)
  · cases h
/-- The code that may be read from bars. -/
def cand (b : ByteArray) : ByteArray := str (val b) 7
theorem cand_code (b : ByteArray) : code (cand b) = true := code_str (val_bd b)
def readB (b : ByteArray) : Option ByteArray := if barsOf (cand b) = b then some (cand b) else none
theorem cand_bars {c : ByteArray} (h : code c = true) : cand (barsOf c) = c := str_code h (fun _ hi => bars_val h hi)
theorem read_bars {c : ByteArray} (h : code c = true) : readB (barsOf c) = some c := by
  unfold readB
  rw [cand_bars h, if_pos rfl]
theorem read_some {b c : ByteArray} (h : readB b = some c) : code c = true ∧ barsOf c = b := by
  unfold readB at h
  split at h
  · injection h with h
    subst h
    exact ⟨cand_code b, by assumption⟩
  · cases h
theorem read_none_of {b : ByteArray} (h : ∀ c, code c = true → barsOf c ≠ b) : readB b = none := by
  cases e : readB b with
  | none => rfl
  | some c => exact absurd (read_some e).2 (h c (read_some e).1)
theorem read_of_recov_none {b : ByteArray} (h : recov b = none) : readB b = none :=
  read_none_of fun c hc e => by rw [← e, recov_bars hc] at h; cases h
theorem read_of_recov_eq {b c : ByteArray} (h : recov b = some c) (e : barsOf c = b) : readB b = some c := by
  rw [← e]; exact read_bars (recov_code h)
theorem read_of_recov_ne {b c : ByteArray} (h : recov b = some c) (e : barsOf c ≠ b) : readB b = none :=
  read_none_of fun c' hc' e' => by
    rw [← e', recov_bars hc'] at h
    injection h with h
    subst h
    exact e e'
theorem read_size {b : ByteArray} (h : ¬ b.size = 42) : readB b = none :=
  read_none_of fun c hc e => h (by rw [← e]; exact bars_size hc)
theorem read_lost {b : ByteArray} {i : Nat} (hi : i < 8) (h : G b i < 0) : readB b = none :=
  read_none_of fun c hc e => by
    have := bars_all hc i hi
    rw [e] at this
    omega
theorem read_cand_eq {b : ByteArray} (e : barsOf (cand b) = b) : readB b = some (cand b) := if_pos e
theorem read_cand_ne {b : ByteArray} (e : barsOf (cand b) ≠ b) : readB b = none := if_neg e
end Go.Proofs.YthpdcilffbffoaaDoor.M
