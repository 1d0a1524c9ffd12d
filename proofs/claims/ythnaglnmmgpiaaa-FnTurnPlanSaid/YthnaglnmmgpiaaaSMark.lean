/-
  The marks that a law writes into strings, and reads again.
-/
import Derived.Test.YthnaglnmmgpiaaaMgN5
namespace Go.Proofs.Ythnaglnmmgpiaaa
open Go.RowKit
open Go.PlainAid (bt get_bt bt_nonneg bt_le)
set_option linter.unusedVariables false

namespace M
def smarks (k n : Nat) : List ByteArray := (List.range n).map fun i => mark (k + i)
theorem smarks_length (k n : Nat) : (smarks k n).length = n := by simp [smarks]
def smarkTo (L : List ByteArray) (k : Nat) : Nat → List ByteArray
  | 0 => L
  | j + 1 => (smarkTo L k j).set j (mark (k + j))
theorem smarkTo_length (L : List ByteArray) (k : Nat) : ∀ j, (smarkTo L k j).length = L.length
  | 0 => rfl
  | j + 1 => by show ((smarkTo L k j).set j _).length = _; rw [List.length_set, smarkTo_length L k j]
theorem smarkTo_at (L : List ByteArray) (k : Nat) : ∀ j i, i < j → i < L.length → (smarkTo L k j)[i]? = some (mark (k + i))
  | 0, _, h, _ => absurd h (by omega)
  | j + 1, i, h, hl => by
    show ((smarkTo L k j).set j _)[i]? = _
    by_cases e : i = j
    · subst e
      rw [List.getElem?_set_self (by rw [smarkTo_length]; exact hl)]
    · rw [List.getElem?_set_ne (by omega)]
      exact smarkTo_at L k j i (by omega) hl
theorem smarkTo_end (L : List ByteArray) (k : Nat) : smarkTo L k L.length = smarks k L.length := by
  apply List.ext_getElem?
  intro i
  by_cases h : i < L.length
  · rw [smarkTo_at L k _ i h h]
    simp [smarks, h]
  · rw [List.getElem?_eq_none (by rw [smarkTo_length]; omega), List.getElem?_eq_none (by rw [smarks_length]; omega)]
end M
set_option maxHeartbeats 1000000 in
theorem markStringS_full (w : World) (base : Nat) (v : Value) (L : List ByteArray) (k : Nat) (h : SRow w base v L) (hn : L.length ≤ 1048576) (k1 : 1 ≤ k) (k2 : k ≤ 10000000) :
    Calls Try.prog 39 #[v, .int .i64 k] w fun e w' => e = .returned (.int .i64 ((k + L.length : Nat) : Int)) ∧ SRow w' base v (M.smarks k L.length) ∧ Only w w' (fun b => v.ownBlock = some b) := by
  rcases h.cases with ⟨rfl, rfl⟩ | ⟨g, c, rfl, hbg, hgl, _⟩
  · go_enter Try.func39, Try.ntmps39
    go_wp2
    go_rounds 1
    go_ret
    exact ⟨rfl, SRow.nil _ _, Only.refl _ _⟩
  · have hend := Lib.hid (M.smarkTo_end L k)
    obtain ⟨n, hl⟩ : ∃ n, L.length = n := ⟨_, rfl⟩
    have HLN := Lib.hid hl
    rw [hl] at h hn hend ⊢
    have h0 : Hid (SRow w base (.slice (some ⟨g, 0, none⟩) n c) (M.smarkTo L k 0)) := h
    clear h hl
    go_enter Try.func39, Try.ntmps39
    go_wp2
    go_loopw [1, 5] (fun q i wr => ∃ j : Nat, j ≤ n ∧ i = .int .i64 j ∧ q = .int .i64 ((k + j : Nat) : Int) ∧ Hid (SRow wr base (.slice (some ⟨g, 0, none⟩) n c) (M.smarkTo L k j)) ∧ Hid (Only w wr (fun b => (Value.slice (some ⟨g, 0, none⟩) n c).ownBlock = some b))) (fun _ i _ => n - (intOf i).toNat)
    case atStart => exact ⟨0, Nat.zero_le _, rfl, rfl, h0, Only.refl _ _⟩
    case round =>
      obtain ⟨j, hj, rfl, rfl, hr, hg⟩ := hrel
      by_cases hlt : j < n
      · obtain ⟨X, hX⟩ : ∃ X : Nat, k + j = X := ⟨_, rfl⟩
        rw [hX]
        have HX := Lib.hid hX
        have x1 : 1 ≤ X := by omega
        have x2 : X ≤ 20000000 := by omega
        clear hX
        go_wp2_with fail
        refine (markText_any X _ (by omega) (by omega)).mono ?_
        rintro e w1 ⟨rfl, hb1⟩
        have hM0 : (M.smarkTo L k j).length = n := by rw [M.smarkTo_length]; exact HLN.out
        have hs1 := hr.out.on hb1
        have z1 := hb1.size
        have hs2 : SRow w1 base (.slice (some ⟨g, 0, none⟩) (M.smarkTo L k j).length c) (M.smarkTo L k j) := by rw [hM0]; exact hs1
        obtain ⟨cc, ff⟩ := hs2.cellAt j (by omega)
        have P2 := hs2.put j (M.mark X)
        rw [List.length_set] at P2
        have P3 : Hid (SRow (w1.setCell ⟨g, j, none⟩ (.string (M.mark X))) base (.slice (some ⟨g, 0, none⟩) n c) (M.smarkTo L k (j + 1))) := by
          rw [hM0] at P2
          have e : M.smarkTo L k (j + 1) = (M.smarkTo L k j).set j (M.mark X) := by rw [← HX.out]; rfl
          rw [Hid, e]; exact P2
        have O3 := Lib.hid ((hg.out.trans (Only.new (S := fun b => (Value.slice (some ⟨g, 0, none⟩) n c).ownBlock = some b) hb1) (fun _ _ h => h)).trans (Only.set w1 ⟨g, j, none⟩ (.string (M.mark X)) (S := fun b => (Value.slice (some ⟨g, 0, none⟩) n c).ownBlock = some b) rfl) (fun _ _ h => h))
        have gl := (hs1.lt g rfl).2
        generalize (M.smarkTo L k j)[j]'(by omega) = y at cc
        clear hs1 hs2 P2 hM0 hb1
        go_wp2
        go_roundw
        case rel => exact ⟨j + 1, by omega, by go_num, by have := HX.out; go_num, P3, O3⟩
        case measure => simp [intOf]; omega
      · obtain rfl : j = n := by omega
        go_wp2
        go_ret
        exact ⟨rfl, by have := hr.out; rw [hend.out] at this; exact this, hg.out⟩

set_option maxHeartbeats 1000000 in
theorem heldStringS_any (w : World) (a : Option Addr) (n c : Nat) (S : Nat → ByteArray) (k : Nat) (h : Strs w a n S) (hm : ∀ i, i < n → S i = M.mark (k + i)) (hn : n ≤ 1048576) (k1 : 1 ≤ k) (k2 : k ≤ 10000000) :
    Calls Try.prog 40 #[.slice a n c, .int .i64 k] w fun e w' => e = .returned (.int .i64 ((k + n : Nat) : Int)) ∧ Below w.heap.size w w' := by
  have HL := Lib.hid h
  have HM := Lib.hid hm
  clear h hm
  go_enter Try.func40, Try.ntmps40
  go_wp2
  go_loopw [1, 5] (fun q i wr => ∃ j : Nat, j ≤ n ∧ i = .int .i64 j ∧ q = .int .i64 ((k + j : Nat) : Int) ∧ Below w.heap.size w wr) (fun _ i _ => n - (intOf i).toNat)
  case atStart => exact ⟨0, Nat.zero_le _, rfl, rfl, Below.refl _ _⟩
  case round =>
    obtain ⟨j, hj, rfl, rfl, hb⟩ := hrel
    have hz := hb.size
    by_cases hlt : j < n
    · obtain ⟨b, o, rfl, c0⟩ := (HL.out.on hb) j hlt
      rw [HM.out j hlt] at c0
      have hlb : b < wr.heap.size := World.block_lt_of_cell? _ _ c0
      obtain ⟨X, hX⟩ : ∃ X : Nat, k + j = X := ⟨_, rfl⟩
      rw [hX] at c0 ⊢
      have HX := Lib.hid hX
      have x1 : 1 ≤ X := by omega
      have x2 : X ≤ 20000000 := by omega
      clear hX
      go_wp2
      go_region_with (go_at_call 57; refine (markText_any X _ (by omega) (by omega)).mono ?_; rintro e w1 ⟨rfl, hb1⟩; have d0 : w1.cell? ⟨b, o + j, none⟩ = some (.string (M.mark X)) := (hb1.cell (p := ⟨b, o + j, none⟩) hlb).trans c0; have B1 : Hid (Below w.heap.size w w1) := (by first | exact step hb hb1 | exact step hb.drew hb1); clear hb1)
      all_goals
        go_wp2
        refine ⟨⟨j + 1, by omega, by go_num, by have := HX.out; go_num, ?_⟩, by simp [intOf]; omega⟩
        first | exact B1.out | exact B1.out.drew
    · obtain rfl : j = n := by omega
      go_wp2
      go_ret
      exact ⟨rfl, hb⟩
theorem heldStringS_row (w : World) (base : Nat) (v : Value) (k n : Nat) (h : SRow w base v (M.smarks k n)) (hn : n ≤ 1048576) (k1 : 1 ≤ k) (k2 : k ≤ 10000000) :
    Calls Try.prog 40 #[v, .int .i64 k] w fun e w' => e = .returned (.int .i64 ((k + n : Nat) : Int)) ∧ Below w.heap.size w w' := by
  obtain ⟨a, c, rfl, _, hl⟩ := h.form
  rw [M.smarks_length] at hl ⊢
  exact heldStringS_any w a n c _ k hl (fun i hi => by rw [sC_at (by rw [M.smarks_length]; exact hi)]; simp [M.smarks]) hn k1 k2
theorem eqStringS_row (w : World) (b1 b2 : Nat) (v v' : Value) (L : List ByteArray) (h : SRow w b1 v L) (h' : SRow w b2 v' L) (hn : L.length ≤ 1048576) :
    Calls Try.prog 38 #[v, v'] w fun e w' => e = .returned (.bool true) ∧ Below w.heap.size w w' := by
  obtain ⟨a, c, rfl, _, hl⟩ := h.form
  obtain ⟨a', c', rfl, _, hl'⟩ := h'.form
  exact eqStringS_same w a a' L.length c c' _ hl hl' hn
end Go.Proofs.Ythnaglnmmgpiaaa
