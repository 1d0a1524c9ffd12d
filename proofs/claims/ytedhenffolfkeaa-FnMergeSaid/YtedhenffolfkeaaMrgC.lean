/-
  Two slices of letters, one behind the other, by the library.
-/
import Derived.Test.YtedhenffolfkeaaConcat
namespace Go.Proofs.Ytedhenffolfkeaa
open Go.RowKit Go.Lib
set_option linter.unusedVariables false

set_option maxHeartbeats 2000000 in
set_option maxRecDepth 100000 in
theorem lslices_Concat2 (w : World) (B : Nat) (a1 a2 : Option Addr) (n1 c1 n2 c2 : Nat) (F1 : Nat → Int) (T1 : Nat → ByteArray) (F2 : Nat → Int) (T2 : Nat → ByteArray) (h1 : Lts w a1 n1 F1 T1) (h2 : Lts w a2 n2 F2 T2) (b0 : w.cell? ⟨B, 0, none⟩ = some (.slice a1 n1 c1)) (b1 : w.cell? ⟨B, 1, none⟩ = some (.slice a2 n2 c2)) (hn : n1 + n2 ≤ 1048576) :
    Calls Try.prog 48 #[.slice (some ⟨B, 0, none⟩) 2 2] w (RowOut w (M.lst F1 T1 n1 ++ M.lst F2 T2 n2)) := by
  have H1 := Lib.hid h1
  have H2 := Lib.hid h2
  have HB := Lib.hid (And.intro b0 b1)
  have hlB := World.block_lt_of_cell? _ _ b0
  have hl1 := Lib.hid (M.lst_length F1 T1 n1)
  clear h1 h2
  go_enter Try.func48, Try.ntmps48
  go_wp2
  go_loop [3, 11] (fun s i => (i = .int .i64 ((0 : Nat) : Int) ∧ s = .int .i64 ((0 : Nat) : Int)) ∨ (i = .int .i64 ((1 : Nat) : Int) ∧ s = .int .i64 (n1 : Int)) ∨ (i = .int .i64 ((2 : Nat) : Int) ∧ s = .int .i64 ((n1 + n2 : Nat) : Int))) (fun _ i => 2 - (intOf i).toNat)
  case atStart => exact Or.inl ⟨rfl, rfl⟩
  case round =>
    rcases hrel with ⟨rfl, rfl⟩ | ⟨rfl, rfl⟩ | ⟨rfl, rfl⟩
    · go_wp2
      go_round
      case rel => exact Or.inr (Or.inl ⟨by go_num, by go_num⟩)
      case measure => simp [intOf]
    · go_wp2
      go_round
      case rel => exact Or.inr (Or.inr ⟨by go_num, by go_num⟩)
      case measure => simp [intOf]
    · go_wp2_with fail
      refine (grow_nil w (n1 + n2) (by omega)).mono ?_
      rintro e w1 ⟨v, rfl, r1, hb1⟩
      have R1 := Lib.hid r1
      have K1 := Lib.hid hb1
      clear r1 hb1
      go_wp2
      go_loopw [6, 27] (fun q i wr => ∃ k : Nat, ((k = 0 ∧ i = .int .i64 ((0 : Nat) : Int) ∧ Hid (Row wr w.heap.size q [])) ∨ (k = 1 ∧ i = .int .i64 ((1 : Nat) : Int) ∧ Hid (Row wr w.heap.size q (M.lst F1 T1 n1))) ∨ (k = 2 ∧ i = .int .i64 ((2 : Nat) : Int) ∧ Hid (Row wr w.heap.size q (M.lst F1 T1 n1 ++ M.lst F2 T2 n2)))) ∧ Hid (Below w.heap.size w wr)) (fun _ i _ => 2 - (intOf i).toNat)
      case atStart => exact ⟨0, Or.inl ⟨rfl, rfl, R1⟩, K1⟩
      case round =>
        obtain ⟨k, hcase, hb⟩ := hrel
        have hz := hb.out.size
        have b0 := (hb.out.cell (p := ⟨B, 0, none⟩) hlB).trans HB.out.1
        have b1 := (hb.out.cell (p := ⟨B, 1, none⟩) hlB).trans HB.out.2
        have HA := Lib.hid (H1.out.on hb.out)
        have HC := Lib.hid (H2.out.on hb.out)
        rcases hcase with ⟨_, rfl, hr⟩ | ⟨_, rfl, hr⟩ | ⟨_, rfl, hr⟩
        · go_wp2_with (at_builtin; refine wpList_append_lts _ rfl _ _ rfl w.heap.size _ [] rfl hr.out _ n1 c1 F1 T1 rfl HA.out (by simp; omega) (by omega) ?_; intro v2 w3 r2 gr2 ho2; have R2 : Hid (Row w3 w.heap.size v2 (M.lst F1 T1 n1)) := r2; have K2 : Hid (Below w.heap.size w w3) := hb.out.grown gr2 hz (fun q e => (hr.out.lt q e).1); clear r2 gr2 ho2)
          go_roundw
          case rel => exact ⟨1, Or.inr (Or.inl ⟨rfl, by go_num, R2⟩), K2⟩
          case measure => simp [intOf]
        · go_wp2_with (at_builtin; refine wpList_append_lts _ rfl _ _ rfl w.heap.size _ (M.lst F1 T1 n1) rfl hr.out _ n2 c2 F2 T2 rfl HC.out (by rw [hl1.out]; omega) (by omega) ?_; intro v2 w3 r2 gr2 ho2; have R2 : Hid (Row w3 w.heap.size v2 (M.lst F1 T1 n1 ++ M.lst F2 T2 n2)) := r2; have K2 : Hid (Below w.heap.size w w3) := hb.out.grown gr2 hz (fun q e => (hr.out.lt q e).1); clear r2 gr2 ho2)
          go_roundw
          case rel => exact ⟨2, Or.inr (Or.inr ⟨rfl, by go_num, R2⟩), K2⟩
          case measure => simp [intOf]
        · go_wp2
          go_ret
          exact ⟨_, rfl, hr.out, hb.out⟩
end Go.Proofs.Ytedhenffolfkeaa
