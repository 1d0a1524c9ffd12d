/-
  Slices of slices of letters that came in: where they lie, their size, their copy.
-/
import Derived.Test.YtgcldnijannmgaaDoorMatL
import Derived.Test.YtgcldnijannmgaaDoorConcat
import Derived.Test.YtgcldnijannmgaaDoorPermM
namespace Go.Proofs.YtgcldnijannmgaaDoor
open Go.RowKit
set_option linter.unusedVariables false

/-- n slices of letters, in a slice of slices. -/
def Lss (w : World) (a : Option Addr) (n : Nat) (MM : Nat → List (Int × ByteArray)) : Prop :=
  ∀ i, i < n → ∃ b o a' c, a = some ⟨b, o, none⟩ ∧ w.cell? ⟨b, o + i, none⟩ = some (.slice a' (MM i).length c) ∧ Lts w a' (MM i).length (nI (MM i)) (nC (MM i)) ∧ Fits (MM i).length (nI (MM i)) (nC (MM i)) ∧ (MM i).length ≤ maxLen
theorem Lss.on {w w' : World} {a : Option Addr} {n : Nat} {MM : Nat → List (Int × ByteArray)} (h : Lss w a n MM) (hb : Below w.heap.size w w') : Lss w' a n MM := by
  intro i hi
  obtain ⟨b, o, a', c, e, h1, h2, h3, h4⟩ := h i hi
  have hl := World.block_lt_of_cell? _ _ h1
  exact ⟨b, o, a', c, e, (hb.cell (p := ⟨b, o + i, none⟩) hl).trans h1, h2.on hb, h3, h4⟩
theorem tot_flat (MM : Nat → List (Int × ByteArray)) : ∀ n, (M.flat MM n).length = tot MM n
  | 0 => rfl
  | n + 1 => by show (M.flat MM n ++ MM n).length = tot MM n + _; rw [List.length_append, tot_flat MM n]

set_option maxHeartbeats 1000000 in
theorem szLetterS_less (w : World) (a : Option Addr) (n c : Nat) (I : Nat → Int) (C : Nat → ByteArray) (h : Lts w a n I C) (hf : Fits n I C) (hn : n ≤ maxLen) (left : Int) (l0 : 0 ≤ left) (l1 : left ≤ 1048576) :
    Calls Tryd.prog 8 #[.slice a n c, .int .i64 left] w fun e w' => ∃ r : Int, e = .returned (.int .i64 r) ∧ (0 ≤ r → r + (n : Int) ≤ left) ∧ r ≤ 1048576 ∧ Below w.heap.size w w' := by
  have HF := Lib.hid hf
  have HL := Lib.hid h
  clear h hf
  have HN := Lib.hid hn
  have hn' : n ≤ 9223372036854775807 := by unfold maxLen at hn; omega
  clear hn
  go_enter Tryd.func8, Tryd.ntmps8
  by_cases hneg : left - (n : Int) < 0
  · go_wp2
    go_ret
    exact ⟨_, rfl, by omega, by omega, Below.refl _ _⟩
  go_wp2
  go_loopw [1, 5] (fun l i wr => ∃ (k : Nat) (v : Int), k ≤ n ∧ i = .int .i64 k ∧ l = .int .i64 v ∧ 0 ≤ v ∧ v + (n : Int) ≤ left ∧ Below w.heap.size w wr) (fun _ i _ => n - (intOf i).toNat)
  case atStart => exact ⟨0, _, Nat.zero_le _, rfl, rfl, by omega, by omega, Below.refl _ _⟩
  case round =>
    obtain ⟨k, v, hk, rfl, rfl, v0, v1, hb⟩ := hrel
    have hz := hb.size
    have v2 : v ≤ 1048576 := by omega
    by_cases hlt : k < n
    · obtain ⟨b, o, rfl, c0, c1⟩ := (HL.out.on hb) k hlt
      obtain ⟨i0, i1⟩ := (HF.out k hlt).1
      have s1 := (HF.out k hlt).2
      have s2 : (C k).size ≤ 9223372036854775807 := by unfold maxLen at s1; omega
      clear s1
      by_cases hn2 : v - ((C k).size : Int) < 0
      · have hi := Lib.hid (M.rest_neg hn2)
        go_wp2_with (go_at_call 31; refine (szLetter_any _ _ _ _ v0 v2 s2).mono ?_; rw [hi.out]; rintro e w1 ⟨rfl, hb1⟩)
        go_ret
        exact ⟨_, rfl, by omega, by omega, hb.trans (hb1.mono hz)⟩
      · have hi := Lib.hid (M.rest_pos hn2)
        go_wp2_with (go_at_call 31; refine (szLetter_any _ _ _ _ v0 v2 s2).mono ?_; rw [hi.out]; rintro e w1 ⟨rfl, hb1⟩)
        go_roundw
        case rel => exact ⟨k + 1, _, by omega, by go_num, rfl, by omega, by omega, hb.trans (hb1.mono hz)⟩
        case measure => simp [intOf]; omega
    · obtain rfl : k = n := by omega
      go_wp2
      go_ret
      exact ⟨v, rfl, by omega, by omega, hb⟩

set_option maxHeartbeats 1000000 in
theorem szLetterSS_any (w : World) (a : Option Addr) (n c : Nat) (MM : Nat → List (Int × ByteArray)) (h : Lss w a n MM) (hn : n ≤ maxLen) (left : Int) (l0 : 0 ≤ left) (l1 : left ≤ 1048576) :
    Calls Tryd.prog 26 #[.slice a n c, .int .i64 left] w fun e w' => ∃ r : Int, e = .returned (.int .i64 r) ∧ (0 ≤ r → (n : Int) ≤ left ∧ (tot MM n : Int) ≤ left) ∧ r ≤ 1048576 ∧ Below w.heap.size w w' := by
  have HL := Lib.hid h
  clear h
  have HN := Lib.hid hn
  have hn' : n ≤ 9223372036854775807 := by unfold maxLen at hn; omega
  clear hn
  go_enter Tryd.func26, Tryd.ntmps26
  by_cases hneg : left - (n : Int) < 0
  · go_wp2
    go_ret
    exact ⟨_, rfl, by omega, by omega, Below.refl _ _⟩
  go_wp2
  go_loopw [1, 5] (fun l i wr => ∃ (k : Nat) (v : Int), k ≤ n ∧ i = .int .i64 k ∧ l = .int .i64 v ∧ 0 ≤ v ∧ v + (n : Int) ≤ left ∧ v + (tot MM k : Int) ≤ left ∧ Hid (Below w.heap.size w wr)) (fun _ i _ => n - (intOf i).toNat)
  case atStart => exact ⟨0, _, Nat.zero_le _, rfl, rfl, by omega, by omega, by show _ + ((0 : Nat) : Int) ≤ _; omega, Below.refl _ _⟩
  case round =>
    obtain ⟨k, v, hk, rfl, rfl, v0, v1, v3, hb⟩ := hrel
    have v2 : v ≤ 1048576 := by omega
    by_cases hlt : k < n
    · obtain ⟨b, o, a', c', rfl, c0, h2, h3, h4⟩ := (HL.out.on hb.out) k hlt
      have H2 := Lib.hid h2
      have H3 := Lib.hid h3
      have H4 := Lib.hid h4
      have HT : Hid (tot MM (k + 1) = tot MM k + (MM k).length) := rfl
      clear h2 h3 h4
      go_wp2_with fail
      refine (szLetterS_less _ a' (MM k).length c' _ _ H2.out H3.out H4.out v v0 v2).mono ?_
      rintro e w1 ⟨r, rfl, hr, hr1, hb1⟩
      have K1 := Lib.hid (sstep hb.out hb1)
      clear hb1
      by_cases hn2 : r < 0
      · go_wp2
        go_ret
        exact ⟨_, rfl, by omega, by omega, K1.out⟩
      · have hr2 := hr (by omega)
        clear hr
        go_wp2
        go_roundw
        case rel => exact ⟨k + 1, _, by omega, by go_num, rfl, by omega, by omega, by rw [HT.out]; omega, K1⟩
        case measure => simp [intOf]; omega
    · obtain rfl : k = n := by omega
      go_wp2
      go_ret
      exact ⟨v, rfl, by omega, by omega, hb.out⟩

theorem upd_if {M : Nat → List (Int × ByteArray)} {k : Nat} : ∀ i, upd (fun i => if i < k then M i else []) k (M k) i = if i < k + 1 then M i else [] := by
  intro i
  show (if i = k then M k else if i < k then M i else []) = _
  by_cases e : i = k
  · subst e; rw [if_pos rfl, if_pos (by omega)]
  · rw [if_neg e]
    by_cases e2 : i < k
    · rw [if_pos e2, if_pos (by omega)]
    · rw [if_neg e2, if_neg (by omega)]

set_option maxHeartbeats 2000000 in
theorem toLetterSS_any (w : World) (a : Option Addr) (n c : Nat) (MM : Nat → List (Int × ByteArray)) (h : Lss w a n MM) (hn : n ≤ 1048576) (hl : ∀ i, i < n → (MM i).length ≤ 1048576) :
    Calls Tryd.prog 28 #[.slice a n c] w fun e w' => ∃ b V, e = .returned (.slice (some ⟨b, 0, none⟩) n n) ∧ Mat w' w.heap.size (.slice (some ⟨b, 0, none⟩) n n) n V MM ∧ Below w.heap.size w w' := by
  have HL := Lib.hid h
  have HLn := Lib.hid hl
  clear h hl
  have hm := mat_made w n hn 48 Tryd.underlying48 .i64 .i64
  have hmk := hm.1
  have HM := Lib.hid hm.2
  have hmk2 : ∀ W, (Instr.makeSlice 48 (.int .i64 (n : Int)) (.int .i64 (n : Int))).run Tryd.prog W = .ok (.slice (some ⟨W.heap.size, 0, none⟩) n n) (W.alloc (.cells (madeCells #[.slice none 0 0] n) 25)) := fun W => (mat_made W n hn 48 Tryd.underlying48 .i64 .i64).1
  clear hm hmk
  have hb0 := Lib.hid (below_alloc0 w (.cells (madeCells #[.slice none 0 0] n) 25))
  go_enter Tryd.func28, Tryd.ntmps28
  go_wp2
  go_loopw [4] (fun i wr => ∃ (k : Nat) (V : Nat → Value), k ≤ n ∧ i = .int .i64 k ∧ Hid (Mat wr w.heap.size (.slice (some ⟨w.heap.size, 0, none⟩) n n) n V (fun i => if i < k then MM i else [])) ∧ Hid (Below w.heap.size w wr)) (fun i _ => n - (intOf i).toNat)
  case atStart => exact ⟨0, _, Nat.zero_le _, rfl, HM.out.congr (fun i _ => (if_neg (by omega)).symm), hb0⟩
  case round =>
    obtain ⟨k, V, hk, rfl, hmat, hb⟩ := hrel
    by_cases hlt : k < n
    · obtain ⟨b, o, a', c', rfl, c0, h2, h3, h4⟩ := (HL.out.on hb.out) k hlt
      have H2 := Lib.hid h2
      have hll := HLn.out k hlt
      have hz := hb.out.size
      clear h2 h3 h4
      go_wp2_with (go_at_call 10; refine (toLetterS_row _ a' _ c' _ _ H2.out hll).mono ?_; rintro e w1 ⟨b1, rfl, q1, k1⟩; rw [lst_nI] at q1; obtain ⟨g1, c1, e1, g0, gf⟩ := (hmat.out.on k1).cell hlt; cases e1; have P1 := Lib.hid (hmat.out.put hlt (q1.lower hz) (Only.new k1) (fun x hx => Or.inr (q1.lt x hx).1)); have K1 := Lib.hid (sstep hb.out k1); clear q1 k1)
      go_roundw
      case rel => exact ⟨k + 1, _, by omega, by go_num, P1.out.congr (fun i _ => upd_if i), K1.out.setCell (Nat.le_refl _) _⟩
      case measure => simp [intOf]; omega
    · obtain rfl : k = n := by omega
      go_wp2
      go_ret
      exact ⟨_, _, rfl, hmat.out.congr (fun i hi => if_pos hi), hb.out⟩
end Go.Proofs.YtgcldnijannmgaaDoor
