/-
  Plain functions on strings: numbers written with leading zeros, the text of a place. No program is named here.
-/
import Derived.Test.YtekkajgifgnklaaMath
import Derived.Lib.ItoaNum
import Derived.Lib.Replace
import Derived.Lib.Repeat
import Derived.Lib.SplitLaws
namespace Go.Proofs.Ytekkajgifgnklaa.M
open Go.PlainAid (bt get_bt bt_nonneg bt_le)

/-- One digit. -/
def dig (d : Int) : ByteArray := ⟨#[UInt8.ofNat (48 + d).toNat]⟩
/-- The last k digits of a number. -/
def showTo (n : Int) : Nat → ByteArray
  | 0 => ⟨#[]⟩
  | k + 1 => dig (n / 10 ^ k % 10) ++ showTo n k
theorem showTo_succ (n : Int) (k : Nat) : showTo n (k + 1) = dig (n / 10 ^ k % 10) ++ showTo n k := rfl
theorem dig_size (d : Int) : (dig d).size = 1 := rfl
theorem showTo_size (n : Int) : ∀ k, (showTo n k).size = k
  | 0 => rfl
  | k + 1 => by rw [showTo_succ, ByteArray.size_append, dig_size, showTo_size n k]; omega
theorem append_empty (a : ByteArray) : a ++ (⟨#[]⟩ : ByteArray) = a := by
  apply ByteArray.ext
  rw [ByteArray.data_append]
  exact Array.append_empty
theorem div_step (n : Int) (k : Nat) : n / 10 ^ k / 10 = n / 10 ^ (k + 1) := by
  rw [Int.pow_succ, Int.ediv_ediv_of_nonneg]
  exact Int.le_of_lt (Int.pow_pos (by decide))
theorem div_bd {n : Int} (h : 0 ≤ n) (k : Nat) : 0 ≤ n / 10 ^ k ∧ n / 10 ^ k ≤ n := by
  refine ⟨Int.ediv_nonneg h (Int.le_of_lt (Int.pow_pos (by decide))), ?_⟩
  exact Int.ediv_le_self _ h

/-- Strings by their bytes. -/
def ofInts (l : List Int) : ByteArray := ⟨(l.map fun n => UInt8.ofNat n.toNat).toArray⟩
theorem ofInts_append (a b : List Int) : ofInts a ++ ofInts b = ofInts (a ++ b) := by
  apply ByteArray.ext
  rw [ByteArray.data_append]
  simp [ofInts]
theorem ofInts_size (a : List Int) : (ofInts a).size = a.length := by
  show ((a.map fun n => UInt8.ofNat n.toNat).toArray).size = a.length
  simp
theorem bt_ofInts (l : List Int) (i : Nat) (hi : i < l.length) (h0 : 0 ≤ l[i]) (h1 : l[i] ≤ 255) : bt (ofInts l) i = l[i] := by
  have hs : i < (ofInts l).size := by rw [ofInts_size]; exact hi
  rw [← get_bt (ofInts l) i hs]
  have : (ofInts l)[i] = UInt8.ofNat l[i].toNat := by
    show ((l.map fun n => UInt8.ofNat n.toNat).toArray)[i]'(by simpa using hi) = _
    simp
  rw [this, UInt8.toNat_ofNat']
  omega
theorem getElem_ofInts (l : List Int) (i : Nat) (hi : i < l.length) (h : i < (ofInts l).size) : (ofInts l)[i] = UInt8.ofNat l[i].toNat := by
  show ((l.map fun n => UInt8.ofNat n.toNat).toArray)[i]'(by simpa using hi) = _
  simp
theorem ofInts_bytes (s : ByteArray) : s = ofInts ((List.range s.size).map fun i => bt s i) := by
  refine ByteArray.ext_getElem (by rw [ofInts_size]; simp) ?_
  intro i h1 h2
  have := get_bt s i h1
  rw [getElem_ofInts _ i (by simpa using h1)]
  simp only [List.getElem_map, List.getElem_range]
  rw [← this]
  simp
theorem extract_ofInts (l : List Int) (a b : Nat) : (ofInts l).extract a b = ofInts ((l.drop a).take (b - a)) := by
  apply ByteArray.ext
  rw [ByteArray.data_extract]
  simp only [ofInts, List.extract_toArray, List.map_take, List.map_drop, List.extract_eq_take_drop]
theorem dig_ofInts (d : Int) : dig d = ofInts [48 + d] := rfl
theorem show3 (n : Int) (h0 : 0 ≤ n) (h1 : n ≤ 999) : showTo n 3 = ofInts [48 + n / 100, 48 + n / 10 % 10, 48 + n % 10] := by
  have e : n / 100 % 10 = n / 100 := by omega
  show dig (n / 10 ^ 2 % 10) ++ (dig (n / 10 ^ 1 % 10) ++ (dig (n / 10 ^ 0 % 10) ++ ofInts [])) = _
  rw [dig_ofInts, dig_ofInts, dig_ofInts, ofInts_append, ofInts_append, ofInts_append]
  show ofInts [48 + n / 100 % 10, 48 + n / 10 % 10, 48 + n / 1 % 10] = _
  rw [e, Int.ediv_one]
theorem show2 (n : Int) (h0 : 0 ≤ n) (h1 : n ≤ 99) : showTo n 2 = ofInts [48 + n / 10, 48 + n % 10] := by
  have e : n / 10 % 10 = n / 10 := by omega
  show dig (n / 10 ^ 1 % 10) ++ (dig (n / 10 ^ 0 % 10) ++ ofInts []) = _
  rw [dig_ofInts, dig_ofInts, ofInts_append, ofInts_append]
  show ofInts [48 + n / 10 % 10, 48 + n / 1 % 10] = _
  rw [e, Int.ediv_one]

/-- The code of a place. -/
def codeOf (a b c : Int) : ByteArray := showTo a 3 ++ showTo b 2 ++ showTo c 2
theorem codeOf_ints {a b c : Int} (h : placeOk a b c = true) : codeOf a b c = ofInts [48 + a / 100, 48 + a / 10 % 10, 48 + a % 10, 48 + b / 10, 48 + b % 10, 48 + c / 10, 48 + c % 10] := by
  obtain ⟨a0, a1, b0, b1, c0, c1⟩ := placeOk_out h
  unfold codeOf
  rw [show3 a a0 a1, show2 b b0 b1, show2 c c0 c1, ofInts_append, ofInts_append]
  rfl
theorem codeOf_size (a b c : Int) : (codeOf a b c).size = 7 := by
  unfold codeOf
  rw [ByteArray.size_append, ByteArray.size_append, showTo_size, showTo_size, showTo_size]
theorem digs_of_bt {s : ByteArray} (h : s.size = 7) (hb : ∀ i, i < 7 → 48 ≤ bt s i ∧ bt s i ≤ 57) : code s = true := by
  unfold code digs
  rw [(digsTo_iff s s.size).2 (by rw [h]; exact hb), h]
  rfl
theorem lt7 {p : Nat → Prop} (h : p 0 ∧ p 1 ∧ p 2 ∧ p 3 ∧ p 4 ∧ p 5 ∧ p 6) : ∀ i, i < 7 → p i := by
  intro i hi
  obtain ⟨h0, h1, h2, h3, h4, h5, h6⟩ := h
  have hk : i = 0 ∨ i = 1 ∨ i = 2 ∨ i = 3 ∨ i = 4 ∨ i = 5 ∨ i = 6 := by omega
  rcases hk with rfl | rfl | rfl | rfl | rfl | rfl | rfl <;> assumption
theorem bt_codeOf {a b c : Int} (h : placeOk a b c = true) :
    bt (codeOf a b c) 0 = 48 + a / 100 ∧ bt (codeOf a b c) 1 = 48 + a / 10 % 10 ∧ bt (codeOf a b c) 2 = 48 + a % 10 ∧ bt (codeOf a b c) 3 = 48 + b / 10 ∧ bt (codeOf a b c) 4 = 48 + b % 10 ∧ bt (codeOf a b c) 5 = 48 + c / 10 ∧ bt (codeOf a b c) 6 = 48 + c % 10 := by
  obtain ⟨a0, a1, b0, b1, c0, c1⟩ := placeOk_out h
  rw [codeOf_ints h]
  refine ⟨?_, ?_, ?_, ?_, ?_, ?_, ?_⟩
  all_goals
    refine bt_ofInts _ _ (by simp) ?_ ?_
    all_goals
      simp only [List.getElem_cons_zero, List.getElem_cons_succ]
      omega
theorem codeOf_code {a b c : Int} (h : placeOk a b c = true) : code (codeOf a b c) = true := by
  obtain ⟨a0, a1, b0, b1, c0, c1⟩ := placeOk_out h
  obtain ⟨e0, e1, e2, e3, e4, e5, e6⟩ := bt_codeOf h
  refine digs_of_bt (codeOf_size a b c) (lt7 ?_)
  rw [e0, e1, e2, e3, e4, e5, e6]
  omega
/-- The three numbers of seven digits. -/
def area (s : ByteArray) : Int := num (s.extract 0 3)
def walk (s : ByteArray) : Int := num (s.extract 3 5)
def point (s : ByteArray) : Int := num (s.extract 5 7)
theorem bt_ext (s : ByteArray) (a b i : Nat) (hb : b ≤ s.size) (hi : i < b - a) : bt (s.extract a b) i = bt s (a + i) := by
  have h0 : (s.extract a b).size = b - a := by simp; omega
  have h1 := get_bt (s.extract a b) i (by omega)
  have h2 := get_bt s (a + i) (by omega)
  rw [← h1, ← h2]
  simp [ByteArray.getElem_extract]
theorem num3 {s : ByteArray} (h : s.size = 3) : num s = 10 * (10 * (bt s 0 - 48) + bt s 1 - 48) + bt s 2 - 48 := by
  unfold num
  rw [h]
  show 10 * (10 * (10 * 0 + bt s 0 - 48) + bt s 1 - 48) + bt s 2 - 48 = _
  omega
theorem num2 {s : ByteArray} (h : s.size = 2) : num s = 10 * (bt s 0 - 48) + bt s 1 - 48 := by
  unfold num
  rw [h]
  show 10 * (10 * 0 + bt s 0 - 48) + bt s 1 - 48 = _
  omega
theorem area_bt {s : ByteArray} (h : s.size = 7) : area s = 10 * (10 * (bt s 0 - 48) + bt s 1 - 48) + bt s 2 - 48 := by
  unfold area
  rw [num3 (by simp; omega), bt_ext s 0 3 0 (by omega) (by omega), bt_ext s 0 3 1 (by omega) (by omega), bt_ext s 0 3 2 (by omega) (by omega)]
theorem walk_bt {s : ByteArray} (h : s.size = 7) : walk s = 10 * (bt s 3 - 48) + bt s 4 - 48 := by
  unfold walk
  rw [num2 (by simp; omega), bt_ext s 3 5 0 (by omega) (by omega), bt_ext s 3 5 1 (by omega) (by omega)]
theorem point_bt {s : ByteArray} (h : s.size = 7) : point s = 10 * (bt s 5 - 48) + bt s 6 - 48 := by
  unfold point
  rw [num2 (by simp; omega), bt_ext s 5 7 0 (by omega) (by omega), bt_ext s 5 7 1 (by omega) (by omega)]
/-- The place of a code, and the code of that. -/
theorem code_bts {s : ByteArray} (h : code s = true) : s.size = 7 ∧ ∀ i, i < 7 → 48 ≤ bt s i ∧ bt s i ≤ 57 := by
  obtain ⟨hd, h7⟩ := code_yes h
  exact ⟨h7, fun i hi => digs_bt hd i (by omega)⟩
theorem place_of_code {s : ByteArray} (h : code s = true) : placeOk (area s) (walk s) (point s) = true := by
  obtain ⟨h7, hb⟩ := code_bts h
  have := hb 0 (by omega); have := hb 1 (by omega); have := hb 2 (by omega); have := hb 3 (by omega); have := hb 4 (by omega); have := hb 5 (by omega); have := hb 6 (by omega)
  rw [area_bt h7, walk_bt h7, point_bt h7]
  exact placeOk_yes (by omega)
theorem codeOf_place {s : ByteArray} (h : code s = true) : codeOf (area s) (walk s) (point s) = s := by
  obtain ⟨h7, hb⟩ := code_bts h
  have := hb 0 (by omega); have := hb 1 (by omega); have := hb 2 (by omega); have := hb 3 (by omega); have := hb 4 (by omega); have := hb 5 (by omega); have := hb 6 (by omega)
  rw [codeOf_ints (place_of_code h), area_bt h7, walk_bt h7, point_bt h7]
  conv => rhs; rw [ofInts_bytes s, h7]
  show ofInts _ = ofInts [bt s 0, bt s 1, bt s 2, bt s 3, bt s 4, bt s 5, bt s 6]
  congr 1
  simp only [List.cons.injEq, and_true]
  omega
theorem place_codeOf {a b c : Int} (h : placeOk a b c = true) : area (codeOf a b c) = a ∧ walk (codeOf a b c) = b ∧ point (codeOf a b c) = c := by
  obtain ⟨a0, a1, b0, b1, c0, c1⟩ := placeOk_out h
  obtain ⟨e0, e1, e2, e3, e4, e5, e6⟩ := bt_codeOf h
  rw [area_bt (codeOf_size a b c), walk_bt (codeOf_size a b c), point_bt (codeOf_size a b c), e0, e1, e2, e3, e4, e5, e6]
  omega
/-- The text of a place with a code. -/
def fmt (s : ByteArray) : ByteArray := s.extract 0 3 ++ ⟨#[45]⟩ ++ s.extract 3 5 ++ ⟨#[45]⟩ ++ s.extract 5 7
def text (a b c : Int) : ByteArray := if placeOk a b c = true then fmt (codeOf a b c) else ⟨#[]⟩
theorem dash : (⟨#[45]⟩ : ByteArray) = ofInts [45] := rfl
theorem seven {s : ByteArray} (h : s.size = 7) : s = ofInts [bt s 0, bt s 1, bt s 2, bt s 3, bt s 4, bt s 5, bt s 6] := by
  conv => lhs; rw [ofInts_bytes s, h]
  rfl
theorem fmt_ints {s : ByteArray} (h : s.size = 7) : fmt s = ofInts [bt s 0, bt s 1, bt s 2, 45, bt s 3, bt s 4, 45, bt s 5, bt s 6] := by
  unfold fmt
  conv => lhs; rw [seven h]
  rw [extract_ofInts, extract_ofInts, extract_ofInts, dash, ofInts_append, ofInts_append, ofInts_append, ofInts_append]
  rfl
theorem fmt_size {s : ByteArray} (h : s.size = 7) : (fmt s).size = 9 := by
  rw [fmt_ints h, ofInts_size]; rfl
/-- What stands in a text in the places of the digits. -/
def parts (t : ByteArray) : ByteArray := t.extract 0 3 ++ t.extract 4 6 ++ t.extract 7 9
theorem parts_fmt {s : ByteArray} (h : s.size = 7) : parts (fmt s) = s := by
  unfold parts
  rw [fmt_ints h, extract_ofInts, extract_ofInts, extract_ofInts, ofInts_append, ofInts_append]
  exact (seven h).symm
/-- The text of a place. -/
def isText (t : ByteArray) : Bool := decide (t.size = 9) && (code (parts t) && decide (fmt (parts t) = t))
theorem isText_out {t : ByteArray} (h : isText t = true) : t.size = 9 ∧ code (parts t) = true ∧ fmt (parts t) = t := by
  unfold isText at h
  rw [Bool.and_eq_true, Bool.and_eq_true] at h
  exact ⟨of_decide_eq_true h.1, h.2.1, of_decide_eq_true h.2.2⟩
theorem isText_fmt {s : ByteArray} (h : code s = true) : isText (fmt s) = true := by
  obtain ⟨h7, _⟩ := code_bts h
  unfold isText
  rw [fmt_size h7, parts_fmt h7, h]
  simp
/-- A text without its dashes. -/
def bare (t : ByteArray) : ByteArray := ⟨(t.data.toList.filter (· ≠ 45)).toArray⟩
theorem ofInts_data (l : List Int) : (ofInts l).data.toList = l.map fun n => UInt8.ofNat n.toNat := by simp [ofInts]
theorem byte_ne {x : Int} (h0 : 48 ≤ x) (h1 : x ≤ 57) : (UInt8.ofNat x.toNat ≠ 45) := by
  intro e
  have := congrArg UInt8.toNat e
  rw [UInt8.toNat_ofNat'] at this
  have : (45 : UInt8).toNat = 45 := rfl
  omega
theorem bare_fmt {s : ByteArray} (h : code s = true) : bare (fmt s) = s := by
  obtain ⟨h7, hb⟩ := code_bts h
  have b0 := hb 0 (by omega); have b1 := hb 1 (by omega); have b2 := hb 2 (by omega); have b3 := hb 3 (by omega); have b4 := hb 4 (by omega); have b5 := hb 5 (by omega); have b6 := hb 6 (by omega)
  have c0 := byte_ne b0.1 b0.2; have c1 := byte_ne b1.1 b1.2; have c2 := byte_ne b2.1 b2.2; have c3 := byte_ne b3.1 b3.2; have c4 := byte_ne b4.1 b4.2; have c5 := byte_ne b5.1 b5.2; have c6 := byte_ne b6.1 b6.2
  unfold bare
  rw [fmt_ints h7, ofInts_data]
  conv => rhs; rw [seven h7]
  show _ = ofInts _
  unfold ofInts
  simp [c0, c1, c2, c3, c4, c5, c6]
/-- A text of a place is told by its bare digits alone. -/
theorem isText_bare (t : ByteArray) : isText t = (code (bare t) && decide (fmt (bare t) = t)) := by
  cases h : (code (bare t) && decide (fmt (bare t) = t))
  · cases h2 : isText t
    · rfl
    · obtain ⟨_, hc, hf⟩ := isText_out h2
      have e : bare t = parts t := by
        conv => lhs; rw [← hf]
        exact bare_fmt hc
      rw [e, hc, hf] at h
      simp at h
  · rw [Bool.and_eq_true] at h
    have hf := of_decide_eq_true h.2
    rw [← hf]
    exact isText_fmt h.1
theorem parts_bare {t : ByteArray} (h : isText t = true) : parts t = bare t := by
  obtain ⟨_, hc, hf⟩ := isText_out h
  conv => rhs; rw [← hf]
  exact (bare_fmt hc).symm
/-- strings.ReplaceAll of a byte by nothing. -/
theorem replaceK_keep (c b : UInt8) (h : b ≠ c) (l : List UInt8) : ∀ k, Lib.replaceK [c] [] k (b :: l) = b :: Lib.replaceK [c] [] k l
  | 0 => rfl
  | k + 1 => by
    have hp : ([c] : List UInt8).isPrefixOf (b :: l) = false := by simp [List.isPrefixOf, Ne.symm h]
    have hix : Lib.index (b :: l) [c] = if Lib.index l [c] == -1 then -1 else Lib.index l [c] + 1 := by rw [Lib.index, hp]; simp
    have hge := Lib.index_ge l [c]
    by_cases hm : Lib.index l [c] = -1
    · have e1 : Lib.index (b :: l) [c] = -1 := by rw [hix, if_pos (beq_iff_eq.2 hm)]
      rw [Lib.replaceK, Lib.replaceK, if_pos (beq_iff_eq.2 e1), if_pos (beq_iff_eq.2 hm)]
    · obtain ⟨i, hi⟩ : ∃ i : Nat, Lib.index l [c] = i := ⟨(Lib.index l [c]).toNat, by omega⟩
      have e1 : Lib.index (b :: l) [c] = ((i + 1 : Nat) : Int) := by
        rw [hix, if_neg (fun e => hm (beq_iff_eq.1 e)), hi]
        omega
      rw [Lib.replaceK_hit _ _ _ _ _ e1, Lib.replaceK_hit _ _ _ _ _ hi]
      simp
theorem replaceK_filter (c : UInt8) : ∀ l : List UInt8, Lib.replaceK [c] [] (l.count c) l = l.filter (· ≠ c)
  | [] => rfl
  | b :: l => by
    by_cases h : b = c
    · subst h
      have hix : Lib.index (b :: l) [b] = ((0 : Nat) : Int) := by rw [Lib.index]; simp [List.isPrefixOf]
      rw [List.count_cons_self, Lib.replaceK_hit _ _ _ _ _ hix]
      simpa using replaceK_filter b l
    · rw [List.count_cons_of_ne h, replaceK_keep c b h, replaceK_filter c l]
      simp [h]
theorem replaceAll_filter (c : UInt8) (l : List UInt8) : Lib.replaceAll l [c] [] = l.filter (· ≠ c) := by
  unfold Lib.replaceAll Lib.replace Lib.replaceNum
  rw [if_neg (by simp), if_pos (by omega), Lib.count_one]
  exact replaceK_filter c l
theorem bare_replace (t : ByteArray) : (⟨(Lib.replaceAll t.data.toList (⟨#[45]⟩ : ByteArray).data.toList (⟨#[]⟩ : ByteArray).data.toList).toArray⟩ : ByteArray) = bare t := by
  have : Lib.replaceAll t.data.toList (⟨#[45]⟩ : ByteArray).data.toList (⟨#[]⟩ : ByteArray).data.toList = Lib.replaceAll t.data.toList [45] [] := rfl
  rw [this, replaceAll_filter]
  rfl
theorem bare_size (t : ByteArray) : (bare t).size ≤ t.size := by
  show ((t.data.toList.filter (· ≠ 45)).toArray).size ≤ t.data.size
  have := List.length_filter_le (fun x : UInt8 => decide (x ≠ 45)) t.data.toList
  simpa using this
/-- Itoa's digits behind zeros. -/
theorem dec1 {n : Nat} (h : n < 10) : Lib.decDigits n = [UInt8.ofNat (48 + n)] := by
  rw [Lib.decDigits]
  simp [h]
theorem dec2 {n : Nat} (h0 : 10 ≤ n) (h : n < 100) : Lib.decDigits n = [UInt8.ofNat (48 + n / 10), UInt8.ofNat (48 + n % 10)] := by
  rw [Lib.decDigits, dif_neg (by omega), dec1 (show n / 10 < 10 by omega)]
  rfl
theorem dec3 {n : Nat} (h0 : 100 ≤ n) (h : n < 1000) : Lib.decDigits n = [UInt8.ofNat (48 + n / 100), UInt8.ofNat (48 + n / 10 % 10), UInt8.ofNat (48 + n % 10)] := by
  rw [Lib.decDigits, dif_neg (by omega), dec2 (show 10 ≤ n / 10 by omega) (by omega), Nat.div_div_eq_div_mul]
  rfl
def decInts (n : Int) : List Int := if n < 10 then [48 + n] else if n < 100 then [48 + n / 10, 48 + n % 10] else [48 + n / 100, 48 + n / 10 % 10, 48 + n % 10]
theorem itoa_ints {n : Int} (h0 : 0 ≤ n) (h1 : n ≤ 999) : (⟨(Lib.itoa n).toArray⟩ : ByteArray) = ofInts (decInts n) := by
  unfold Lib.itoa ofInts decInts
  rw [if_neg (by omega)]
  congr 2
  by_cases a : n < 10
  · rw [dec1 (by omega), if_pos a]
    simp only [List.map_cons, List.map_nil]
    congr 2; omega
  · by_cases b : n < 100
    · rw [dec2 (by omega) (by omega), if_neg a, if_pos b]
      simp only [List.map_cons, List.map_nil, List.cons.injEq, and_true]
      refine ⟨?_, ?_⟩ <;> (congr 1; omega)
    · rw [dec3 (by omega) (by omega), if_neg a, if_neg b]
      simp only [List.map_cons, List.map_nil, List.cons.injEq, and_true]
      refine ⟨?_, ?_, ?_⟩ <;> (congr 1; omega)
theorem decInts_length (n : Int) : (decInts n).length = if n < 10 then 1 else if n < 100 then 2 else 3 := by
  unfold decInts
  split
  · rfl
  · split <;> rfl
/-- Zeros. -/
def zeros (k : Nat) : ByteArray := ofInts (List.replicate k 48)
theorem zeros_size (k : Nat) : (zeros k).size = k := by unfold zeros; rw [ofInts_size]; simp
theorem zeros_repeat (k : Nat) : (⟨(Lib.repeatL (⟨#[48]⟩ : ByteArray).data.toList k).toArray⟩ : ByteArray) = zeros k := by
  have : (⟨#[48]⟩ : ByteArray).data.toList = List.replicate 1 (48 : UInt8) := rfl
  rw [this, Lib.repeatL_replicate]
  unfold zeros ofInts
  congr 2
  rw [List.map_replicate, Nat.mul_one]
  rfl
theorem pad3 {n : Int} (h0 : 0 ≤ n) (h1 : n ≤ 999) : zeros (3 - (decInts n).length) ++ ofInts (decInts n) = showTo n 3 := by
  rw [show3 n h0 h1, decInts_length n]
  unfold zeros decInts
  by_cases a : n < 10
  · rw [if_pos a, if_pos a, ofInts_append]
    show ofInts [48, 48, 48 + n] = _
    congr 1
    simp only [List.cons.injEq, and_true]
    omega
  · by_cases b : n < 100
    · rw [if_neg a, if_pos b, if_neg a, if_pos b, ofInts_append]
      show ofInts [48, 48 + n / 10, 48 + n % 10] = _
      congr 1
      simp only [List.cons.injEq, and_true]
      omega
    · rw [if_neg a, if_neg b, if_neg a, if_neg b, ofInts_append]
      rfl
theorem pad2 {n : Int} (h0 : 0 ≤ n) (h1 : n ≤ 99) : zeros (2 - (decInts n).length) ++ ofInts (decInts n) = showTo n 2 := by
  rw [show2 n h0 h1, decInts_length n]
  unfold zeros decInts
  by_cases a : n < 10
  · rw [if_pos a, if_pos a, ofInts_append]
    show ofInts [48, 48 + n] = _
    congr 1
    simp only [List.cons.injEq, and_true]
    omega
  · rw [if_neg a, if_pos (by omega), if_neg a, if_pos (by omega), ofInts_append]
    rfl
end Go.Proofs.Ytekkajgifgnklaa.M
