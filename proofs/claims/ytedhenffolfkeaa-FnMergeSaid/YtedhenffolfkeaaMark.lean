/-
  The marks that a law writes into letters, and reads again.
-/
import Derived.Test.YtedhenffolfkeaaByte
import Derived.Test.YtedhenffolfkeaaRow
import Derived.Test.YtedhenffolfkeaaPureA
import Derived.Deep.RegionWith
namespace Go.Proofs.Ytedhenffolfkeaa
open Go.RowKit
open Go.PlainAid (bt get_bt bt_nonneg bt_le)

namespace M
/-- A number's digits; none for 0. -/
def dec (k : Nat) : ByteArray := if _h : k = 0 then ⟨#[]⟩ else dec (k / 10) ++ dig ((k % 10 : Nat) : Int)
termination_by k
decreasing_by omega
theorem dec_zero : dec 0 = ⟨#[]⟩ := by unfold dec; rfl
theorem dec_pos {k : Nat} (h : 0 < k) : dec k = dec (k / 10) ++ dig ((k % 10 : Nat) : Int) := by
  conv => lhs; unfold dec
  rw [dif_neg (by omega)]
theorem dec_size : ∀ k : Nat, (dec k).size ≤ k := by
  intro k
  induction k using Nat.strongRecOn with
  | ind k ih =>
    by_cases h : k = 0
    · subst h; rw [dec_zero]; exact Nat.le_refl 0
    · rw [dec_pos (by omega), ByteArray.size_append, dig_size]
      have := ih (k / 10) (by omega)
      omega
theorem empty_append (a : ByteArray) : (⟨#[]⟩ : ByteArray) ++ a = a := by
  apply ByteArray.ext
  rw [ByteArray.data_append]
  exact Array.empty_append
theorem append_assoc (a b c : ByteArray) : a ++ b ++ c = a ++ (b ++ c) := by
  apply ByteArray.ext
  simp only [ByteArray.data_append, Array.append_assoc]
/-- The letter m and a number's digits. -/
def mark (k : Nat) : ByteArray := ⟨#[109]⟩ ++ dec k
theorem dig_nat (n : Nat) : dig ((n : Nat) : Int) = ⟨#[48 + UInt8.ofNat n]⟩ := by
  unfold dig
  rw [show ((48 : Int) + (n : Int)).toNat = 48 + n from by omega, UInt8.ofNat_add]
  rfl
theorem dec_step {k j : Nat} {s : ByteArray} (h : dec k = dec j ++ s) (hj : 0 < j) : dec k = dec (j / 10) ++ (dig ((j % 10 : Nat) : Int) ++ s) := by
  rw [h, dec_pos hj, append_assoc]
theorem dec_le {k j : Nat} {s : ByteArray} (h : dec k = dec j ++ s) : s.size ≤ k := by
  have := dec_size k
  rw [h, ByteArray.size_append] at this
  omega
theorem mark_end {k : Nat} {s : ByteArray} (h : dec k = dec 0 ++ s) : mark k = ⟨#[109]⟩ ++ s := by
  unfold mark
  rw [h, dec_zero, empty_append]
/-- Marked letters. -/
def marks (k n : Nat) : List (Int × ByteArray) := (List.range n).map fun i => (((k + 2 * i : Nat) : Int), mark (k + 2 * i + 1))
theorem marks_length (k n : Nat) : (marks k n).length = n := by simp [marks]
def markTo (L : List (Int × ByteArray)) (k : Nat) : Nat → List (Int × ByteArray)
  | 0 => L
  | j + 1 => (markTo L k j).set j (((k + 2 * j : Nat) : Int), mark (k + 2 * j + 1))
theorem markTo_length (L : List (Int × ByteArray)) (k : Nat) : ∀ j, (markTo L k j).length = L.length
  | 0 => rfl
  | j + 1 => by show ((markTo L k j).set j _).length = _; rw [List.length_set, markTo_length L k j]
theorem markTo_at (L : List (Int × ByteArray)) (k : Nat) : ∀ j i, i < j → i < L.length → (markTo L k j)[i]? = some (((k + 2 * i : Nat) : Int), mark (k + 2 * i + 1))
  | 0, _, h, _ => absurd h (by omega)
  | j + 1, i, h, hl => by
    show ((markTo L k j).set j _)[i]? = _
    by_cases e : i = j
    · subst e
      rw [List.getElem?_set_self (by rw [markTo_length]; exact hl)]
    · rw [List.getElem?_set_ne (by omega)]
      exact markTo_at L k j i (by omega) hl
theorem markTo_end (L : List (Int × ByteArray)) (k : Nat) : markTo L k L.length = marks k L.length := by
  apply List.ext_getElem?
  intro i
  by_cases h : i < L.length
  · rw [markTo_at L k _ i h h]
    simp [marks, h]
  · rw [List.getElem?_eq_none (by rw [markTo_length]; omega), List.getElem?_eq_none (by rw [marks_length]; omega)]
end M
theorem nI_marks {k n i : Nat} (h : i < n) : nI (M.marks k n) i = ((k + 2 * i : Nat) : Int) := by
  rw [nI_at (by rw [M.marks_length]; exact h)]; simp [M.marks]
theorem nC_marks {k n i : Nat} (h : i < n) : nC (M.marks k n) i = M.mark (k + 2 * i + 1) := by
  rw [nC_at (by rw [M.marks_length]; exact h)]; simp [M.marks]
theorem lcells_set : ∀ (L : List (Int × ByteArray)) (j : Nat) (x : Int) (s : ByteArray), ((lcells L).set (j * 2) (.int .i64 x)).set (j * 2 + 1) (.string s) = lcells (L.set j (x, s))
  | [], _, _, _ => rfl
  | _ :: _, 0, _, _ => rfl
  | y :: L, j + 1, x, s => by
    have ih := lcells_set L j x s
    have e1 : (j + 1) * 2 = j * 2 + 1 + 1 := by omega
    rw [e1]
    show _ :: _ :: (((lcells L).set (j * 2) (.int .i64 x)).set (j * 2 + 1) (.string s)) = _ :: _ :: lcells (L.set j (x, s))
    rw [ih]
theorem Row.cases {w : World} {base : Nat} {v : Value} {L : List (Int × ByteArray)} (h : Row w base v L) : (v = .slice none 0 0 ∧ L = []) ∨ ∃ g c, v = .slice (some ⟨g, 0, none⟩) L.length c ∧ base ≤ g ∧ g < w.heap.size := by
  rcases h.2 with ⟨rfl, hn⟩ | ⟨g, cap, cur, rfl, hb, hg, _⟩
  · exact Or.inl ⟨rfl, List.eq_nil_of_length_eq_zero hn⟩
  · exact Or.inr ⟨g, cap, rfl, hb, (Array.getElem?_eq_some_iff.1 hg).1⟩

set_option maxHeartbeats 1000000 in
theorem markText_any (k : Nat) (w : World) (k1 : 1 ≤ k) (k2 : k ≤ 100000000) :
    Calls Try.prog 56 #[.int .i64 k] w fun e w' => e = .returned (.string (M.mark k)) ∧ Below w.heap.size w w' := by
  go_enter Try.func56, Try.ntmps56
  go_wp2
  go_loopw [0, 3] (fun i o wr => ∃ (j : Nat) (s : ByteArray), j ≤ k ∧ i = .int .i64 j ∧ o = .string s ∧ Hid (M.dec k = M.dec j ++ s) ∧ Below w.heap.size w wr) (fun i _ _ => (intOf i).toNat)
  case atStart => exact ⟨k, ⟨#[]⟩, Nat.le_refl _, rfl, rfl, (M.append_empty _).symm, Below.refl _ _⟩
  case round =>
    obtain ⟨j, s, hj, rfl, rfl, hd, hb⟩ := hrel
    have hz := hb.size
    have hs := M.dec_le hd.out
    by_cases h0 : 0 < j
    · have hst := Lib.hid (M.dec_step hd.out h0)
      have hbs := byte_string wr (48 + (j : Int) % 10) (by omega) (by omega)
      go_wp2
      go_roundw
      case rel => exact ⟨j / 10, M.dig ((j % 10 : Nat) : Int) ++ s, by omega, by go_num, by rw [M.dig_nat], hst.out, by go_grown⟩
      case measure => simp [intOf]; omega
    · obtain rfl : j = 0 := by omega
      have he := Lib.hid (M.mark_end hd.out)
      go_wp2
      go_ret
      exact ⟨congrArg (fun s => Ending.returned (.string s)) he.out.symm, hb⟩

theorem grown_some {w w' : World} (hb : Below w.heap.size w w') {row : Option Nat} : w.grownBy w' row := ⟨hb.os, hb.tape, hb.output, hb.size, fun k hk _ => hb.block k hk⟩
theorem grown_row {a b c : World} {row : Option Nat} (h : a.grownBy b row) (k : b.grownBy c row) : a.grownBy c row :=
  ⟨k.os.trans h.os, k.tape.trans h.tape, k.output.trans h.output, Nat.le_trans h.size k.size, fun i hi hne => (k.block i (Nat.lt_of_lt_of_le hi h.size) hne).trans (h.block i hi hne)⟩

set_option maxHeartbeats 1000000 in
theorem markLetterS_row (w : World) (base : Nat) (v : Value) (L : List (Int × ByteArray)) (k : Nat) (h : Row w base v L) (hn : L.length ≤ 1048576) (k1 : 1 ≤ k) (k2 : k ≤ 10000000) :
    Calls Try.prog 31 #[v, .int .i64 k] w fun e w' => e = .returned (.int .i64 ((k + 2 * L.length : Nat) : Int)) ∧ Row w' base v (M.marks k L.length) ∧ w.grownBy w' v.ownBlock := by
  rcases h.cases with ⟨rfl, rfl⟩ | ⟨g, c, rfl, hbg, hgl⟩
  · go_enter Try.func31, Try.ntmps31
    go_wp2
    go_rounds 1
    go_ret
    exact ⟨rfl, Row.nil _ _, World.grownBy.refl _ _⟩
  · have hend := Lib.hid (M.markTo_end L k)
    go_enter Try.func31, Try.ntmps31
    go_wp2
    go_loopw [1, 5] (fun q i wr => ∃ j : Nat, j ≤ L.length ∧ i = .int .i64 j ∧ q = .int .i64 ((k + 2 * j : Nat) : Int) ∧ Hid (Row wr base (.slice (some ⟨g, 0, none⟩) L.length c) (M.markTo L k j)) ∧ Hid (w.grownBy wr (some g))) (fun _ i _ => L.length - (intOf i).toNat)
    case atStart => exact ⟨0, Nat.zero_le _, rfl, rfl, h, World.grownBy.refl _ _⟩
    case round =>
      obtain ⟨j, hj, rfl, rfl, hr, hg⟩ := hrel
      by_cases hlt : j < L.length
      · have hlen := Lib.hid (M.markTo_length L k j)
        obtain ⟨X, hX⟩ : ∃ X : Int, X = (k : Int) + 2 * (j : Int) := ⟨_, rfl⟩
        have hXc : ((k + 2 * j : Nat) : Int) = X := by omega
        have hset : Hid (lcells (M.markTo L k (j + 1)) = ((lcells (M.markTo L k j)).set (j * 2) (.int .i64 X)).set (j * 2 + 1) (.string (M.mark (k + 2 * j + 1)))) := by
          have := lcells_set (M.markTo L k j) j X (M.mark (k + 2 * j + 1))
          rw [← hXc] at this ⊢
          exact this.symm
        have hrow : wr.ownsRow base 29 2 (.slice (some ⟨g, 0, none⟩) L.length c) L.length (lcells (M.markTo L k j)) := by
          have := hr.out
          unfold Row at this
          rw [hlen.out] at this
          exact this
        have hat := lcells_at (M.markTo L k j) j (by rw [hlen.out]; exact hlt)
        have c0 : wr.cell? ⟨g, j * 2, none⟩ = some (.int .i64 ((M.markTo L k j)[j]'(by rw [hlen.out]; exact hlt)).1) := by rw [World.ownsRow.cellAt hrow (j * 2) (by omega)]; exact hat.1
        have f0 := World.ownsRow.frozenAt hrow (j * 2)
        obtain ⟨s1, g1⟩ := World.ownsRow.stored hrow (j * 2) (.int .i64 X)
        have c1 : (wr.setCell ⟨g, j * 2, none⟩ (.int .i64 X)).cell? ⟨g, j * 2 + 1, none⟩ = some (.string ((M.markTo L k j)[j]'(by rw [hlen.out]; exact hlt)).2) := by
          rw [World.ownsRow.cellAt s1 (j * 2 + 1) (by omega), List.getElem?_set_ne (by omega)]; exact hat.2
        have hgl2 : g < (wr.setCell ⟨g, j * 2, none⟩ (.int .i64 X)).heap.size := (World.ownsRow.lt s1 g rfl).2
        have S1 := Lib.hid s1
        have G1 := Lib.hid g1
        generalize ((M.markTo L k j)[j]'(by rw [hlen.out]; exact hlt)).1 = y at c0
        generalize ((M.markTo L k j)[j]'(by rw [hlen.out]; exact hlt)).2 = z at c1
        have C1 := Lib.hid c1
        have HX := Lib.hid hX
        have HXC := Lib.hid hXc
        have hXb : 1 ≤ X ∧ X ≤ 20000000 := by omega
        clear hrow hat s1 g1 c1 hX
        rw [hXc]
        clear hXc
        obtain ⟨x1, x2⟩ := hXb
        go_wp2_with fail
        rw [show X + 1 = ((k + 2 * j + 1 : Nat) : Int) from by have := HX.out; omega]
        refine (markText_any _ _ (by omega) (by omega)).mono ?_
        rintro e w1 ⟨rfl, hb1⟩
        have r2 := World.ownsRow.kept S1.out (grown_of_below hb1) (Or.inr (by intro e; cases e))
        have c2 : w1.cell? ⟨g, j * 2 + 1, none⟩ = some (.string z) := (hb1.cell (p := ⟨g, j * 2 + 1, none⟩) hgl2).trans C1.out
        have f2 := World.ownsRow.frozenAt r2 (j * 2 + 1)
        obtain ⟨s3, g3⟩ := World.ownsRow.stored r2 (j * 2 + 1) (.string (M.mark (k + 2 * j + 1)))
        have S3 : Hid (Row (w1.setCell ⟨g, j * 2 + 1, none⟩ (.string (M.mark (k + 2 * j + 1)))) base (.slice (some ⟨g, 0, none⟩) L.length c) (M.markTo L k (j + 1))) := by
          unfold Hid Row
          rw [M.markTo_length, hset.out]
          exact s3
        have G3 : Hid (w.grownBy (w1.setCell ⟨g, j * 2 + 1, none⟩ (.string (M.mark (k + 2 * j + 1)))) (some g)) :=
          grown_row (grown_row hg.out G1.out) (grown_row (grown_some hb1) g3)
        clear r2 s3 g3 hgl2
        go_wp2
        go_roundw
        case rel => exact ⟨j + 1, by omega, by go_num, by refine congrArg (Value.int .i64) ?_; omega, S3, G3⟩
        case measure => simp [intOf]; omega
      · obtain rfl : j = L.length := by omega
        go_wp2
        go_ret
        exact ⟨rfl, by have := hr.out; rw [hend.out] at this; exact this, hg.out⟩

set_option maxHeartbeats 1000000 in
theorem heldLetterS_any (w : World) (a : Option Addr) (n c : Nat) (I : Nat → Int) (C : Nat → ByteArray) (k : Nat) (h : Lts w a n I C) (hm : ∀ i, i < n → I i = ((k + 2 * i : Nat) : Int) ∧ C i = M.mark (k + 2 * i + 1)) (hn : n ≤ 1048576) (k1 : 1 ≤ k) (k2 : k ≤ 10000000) :
    Calls Try.prog 32 #[.slice a n c, .int .i64 k] w fun e w' => e = .returned (.int .i64 ((k + 2 * n : Nat) : Int)) ∧ Below w.heap.size w w' := by
  have HL := Lib.hid h
  have HM := Lib.hid hm
  clear h hm
  go_enter Try.func32, Try.ntmps32
  go_wp2
  go_loopw [1, 5] (fun q i wr => ∃ j : Nat, j ≤ n ∧ i = .int .i64 j ∧ q = .int .i64 ((k + 2 * j : Nat) : Int) ∧ Below w.heap.size w wr) (fun _ i _ => n - (intOf i).toNat)
  case atStart => exact ⟨0, Nat.zero_le _, rfl, rfl, Below.refl _ _⟩
  case round =>
    obtain ⟨j, hj, rfl, rfl, hb⟩ := hrel
    have hz := hb.size
    by_cases hlt : j < n
    · obtain ⟨b, o, rfl, c0, c1⟩ := (HL.out.on hb) j hlt
      obtain ⟨e0, e1⟩ := HM.out j hlt
      rw [e0] at c0
      rw [e1] at c1
      clear e0 e1
      have hlb : b < wr.heap.size := World.block_lt_of_cell? _ _ c0
      obtain ⟨X, hX⟩ : ∃ X : Int, X = (k : Int) + 2 * (j : Int) := ⟨_, rfl⟩
      have hXc : ((k + 2 * j : Nat) : Int) = X := by omega
      rw [hXc] at c0 ⊢
      have hXb : 1 ≤ X ∧ X ≤ 20000000 := by omega
      have HX := Lib.hid hX
      clear hXc hX
      obtain ⟨x1, x2⟩ := hXb
      go_wp2
      go_region_with (go_at_call 56; rw [show X + 1 = ((k + 2 * j + 1 : Nat) : Int) from by have := HX.out; omega]; refine (markText_any _ _ (by omega) (by omega)).mono ?_; rintro e w1 ⟨rfl, hb1⟩; have c2 : w1.cell? ⟨b, o + j * 2 + 1, none⟩ = some (.string (M.mark (k + 2 * j + 1))) := (hb1.cell (p := ⟨b, o + j * 2 + 1, none⟩) hlb).trans c1)
      all_goals
        go_wp2
        refine ⟨⟨j + 1, by omega, by go_num, by refine congrArg (Value.int .i64) ?_; have := HX.out; omega, ?_⟩, by simp [intOf]; omega⟩
        first | exact step hb hb1 | exact (step hb hb1).drew | exact step hb.drew hb1 | exact (step hb.drew hb1).drew
    · obtain rfl : j = n := by omega
      go_wp2
      go_ret
      exact ⟨rfl, hb⟩
theorem heldLetterS_row (w : World) (base : Nat) (v : Value) (k n : Nat) (h : Row w base v (M.marks k n)) (hn : n ≤ 1048576) (k1 : 1 ≤ k) (k2 : k ≤ 10000000) :
    Calls Try.prog 32 #[v, .int .i64 k] w fun e w' => e = .returned (.int .i64 ((k + 2 * n : Nat) : Int)) ∧ Below w.heap.size w w' := by
  obtain ⟨a, c, rfl, _, hl⟩ := h.form
  rw [M.marks_length] at hl ⊢
  exact heldLetterS_any w a n c _ _ k hl (fun i hi => ⟨nI_marks hi, nC_marks hi⟩) hn k1 k2
theorem eqLetterS_row (w : World) (b1 b2 : Nat) (v v' : Value) (L : List (Int × ByteArray)) (h : Row w b1 v L) (h' : Row w b2 v' L) (hn : L.length ≤ 1048576) :
    Calls Try.prog 30 #[v, v'] w fun e w' => e = .returned (.bool true) ∧ Below w.heap.size w w' := by
  obtain ⟨a, c, rfl, _, hl⟩ := h.form
  obtain ⟨a', c', rfl, _, hl'⟩ := h'.form
  exact eqLetterS_same w a a' L.length c c' _ _ hl hl' hn
theorem lst_at {I : Nat → Int} {C : Nat → ByteArray} {n i : Nat} (h : i < n) : nI (M.lst I C n) i = I i ∧ nC (M.lst I C n) i = C i := by
  rw [nI_at (by rw [M.lst_length]; exact h), nC_at (by rw [M.lst_length]; exact h)]
  simp [M.lst]
theorem lcells_lst (I : Nat → Int) (C : Nat → ByteArray) (n : Nat) {i : Nat} (h : i < n) : (lcells (M.lst I C n))[i * 2]? = some (.int .i64 (I i)) ∧ (lcells (M.lst I C n))[i * 2 + 1]? = some (.string (C i)) := by
  have hl : i < (M.lst I C n).length := by rw [M.lst_length]; exact h
  have := lcells_at (M.lst I C n) i hl
  rw [← nI_at hl, ← nC_at hl, (lst_at h).1, (lst_at h).2] at this
  exact this
/-- The law's own copy of letters, as a row. -/
theorem Own.row {w : World} {b n base : Nat} {I : Nat → Int} {C : Nat → ByteArray} (h : Own w b n I C) (hb : base ≤ b) (hn : n ≤ 1048576) : Row w base (.slice (some ⟨b, 0, none⟩) n n) (M.lst I C n) := by
  obtain ⟨f, ⟨cur, hh, hs, hc⟩, hf⟩ := h
  unfold Row
  rw [M.lst_length]
  refine ⟨by rw [lcells_length, M.lst_length], Or.inr ⟨b, n, cur, rfl, hb, hh, Nat.le_refl _, by unfold maxLen; omega, hs, ?_⟩⟩
  rw [List.take_of_length_le (by rw [Array.length_toList]; omega)]
  apply List.ext_getElem?
  intro j
  by_cases hj : j < n * 2
  · rw [Array.getElem?_toList, hc j hj]
    have hp : j = j / 2 * 2 ∨ j = j / 2 * 2 + 1 := by omega
    obtain ⟨h1, h2⟩ := hf (j / 2) (by omega)
    obtain ⟨q1, q2⟩ := lcells_lst I C n (i := j / 2) (by omega)
    rcases hp with e | e
    · rw [e, h1, q1]
    · rw [e, h2, q2]
  · rw [List.getElem?_eq_none (by rw [Array.length_toList]; omega), List.getElem?_eq_none (by rw [lcells_length, M.lst_length]; omega)]
theorem toLetterS_row (w : World) (a : Option Addr) (n c : Nat) (I : Nat → Int) (C : Nat → ByteArray) (h : Lts w a n I C) (hn : n ≤ 1048576) :
    Calls Try.prog 29 #[.slice a n c] w fun e w' => ∃ b, e = .returned (.slice (some ⟨b, 0, none⟩) n n) ∧ Row w' w.heap.size (.slice (some ⟨b, 0, none⟩) n n) (M.lst I C n) ∧ Below w.heap.size w w' :=
  (toLetterS_any w a n c I C h hn).mono fun e w' h => by
    obtain ⟨b, he, hb, ho, hl⟩ := h
    exact ⟨b, he, ho.row hb hn, hl⟩
theorem Row.lts_lst {w : World} {base : Nat} {a : Option Addr} {n c : Nat} {I : Nat → Int} {C : Nat → ByteArray} (h : Row w base (.slice a n c) (M.lst I C n)) : Lts w a n I C := by
  obtain ⟨a', c', e, _, hl⟩ := h.form
  rw [M.lst_length] at hl
  injection e with e1 _ _
  subst e1
  exact hl.congr fun i hi => lst_at hi
/-- What was there before the base of a row lies in another block. -/
theorem Row.older {w w' : World} {base base' : Nat} {v v' : Value} {L L' : List (Int × ByteArray)} (h : Row w base v L) (h' : Row w' base' v' L') (hs : w.heap.size ≤ base') : Apart v v' := fun b hb e => by
  have h1 := (h.lt b hb).2
  have h2 := (h'.lt b e).1
  omega
theorem Row.past {w w' : World} {base : Nat} {v v' : Value} {L : List (Int × ByteArray)} (h : Row w base v L) (ha : Apart v v') (hg : w.grownBy w' v'.ownBlock) : Row w' base v L :=
  h.kept hg fun b hb e => ha b hb e
end Go.Proofs.Ytedhenffolfkeaa
