/-
  Letters turned round: what the laws' soTurned returns; and the label of letters that are turned.
-/
import Derived.Test.YtlamckdnnnifcaaDrawT
import Derived.Test.YtlamckdnnnifcaaTry2
import Derived.Test.YtlamckdnnnifcaaCat
import Derived.Test.YtlamckdnnnifcaaPermM
namespace Go.Proofs.Ytlamckdnnnifcaa
open Go.RowKit
set_option linter.unusedVariables false

theorem drop_rev {T : Type} (L : List T) (j : Nat) (h : j < L.length) : (L.drop j).reverse = (L.drop (j + 1)).reverse ++ [L[j]] := by
  rw [List.drop_eq_getElem_cons h, List.reverse_cons]
theorem row_empty (w : World) : Row (w.alloc (.cells #[] 33)) w.heap.size (.slice (some ⟨w.heap.size, 0, none⟩) 0 0) [] := by
  unfold Row
  exact ⟨rfl, Or.inr ⟨w.heap.size, 0, #[], rfl, Nat.le_refl _, (show (w.heap.push (.cells #[] 33))[w.heap.size]? = some (.cells #[] 33) by simp), Nat.le_refl _, by unfold maxLen; omega, by simp, by simp [lcells]⟩⟩
/-- The label of letters that are turned. -/
theorem label_turned {n : Nat} {I : Nat → Int} {C : Nat → ByteArray} (h : M.batch n I C = true) (h0 : 0 < n) : label (M.lst I C n).reverse.length (nI (M.lst I C n).reverse) (nC (M.lst I C n).reverse) = C (n - 1) ++ ⟨#[45]⟩ ++ C 0 := by
  have hb := (batchL_list _).2 (((batchL_iff n I C).1 h).perm (List.reverse_perm _).symm)
  have hl : (M.lst I C n).reverse.length = n := by rw [List.length_reverse, lst_len]
  rw [label_yes hb (by omega)]
  have e : ∀ i (hi : i < n), nC (M.lst I C n).reverse i = C (n - 1 - i) := fun i hi => by
    rw [nC_at (by omega), List.getElem_reverse, lst_get, lst_len]
  rw [e 0 h0, hl, e (n - 1) (by omega)]
  rw [Nat.sub_zero, Nat.sub_self]
theorem fits_turned {n : Nat} {I : Nat → Int} {C : Nat → ByteArray} (h : Fits n I C) : Fits (M.lst I C n).reverse.length (nI (M.lst I C n).reverse) (nC (M.lst I C n).reverse) := fun i hi => by
  have hl : (M.lst I C n).reverse.length = n := by rw [List.length_reverse, lst_len]
  rw [nI_at hi, nC_at hi, List.getElem_reverse, lst_get]
  rw [hl] at hi
  exact h _ (by rw [lst_len]; omega)
/-- Letters that the call has made. -/
def LetsOut (w : World) (L : List (Int × ByteArray)) (e : Ending) (w' : World) : Prop := ∃ v, e = .returned v ∧ Row w' w.heap.size v L ∧ Below w.heap.size w w'
set_option maxHeartbeats 1000000 in
theorem soTurned_any (w : World) (a : Option Addr) (n c : Nat) (I : Nat → Int) (C : Nat → ByteArray) (h : Lts w a n I C) (hn : n ≤ 61) :
    Calls Try.prog 18 #[.slice a n c] w (LetsOut w (M.lst I C n).reverse) := by
  have HL := Lib.hid h
  clear h
  have hlen := lst_len I C n
  have s0 : IntKind.i64.wrap ((n : Int) - 1) = (n : Int) - 1 := IntWalk.i64_in _ (by omega)
  go_enter Try.func18, Try.ntmps18
  go_wp2
  go_loopw [3, 4] (fun v i wr => ∃ j : Nat, j ≤ n ∧ i = .int .i64 ((j : Int) - 1) ∧ Hid (Row wr w.heap.size v ((M.lst I C n).drop j).reverse) ∧ Below w.heap.size w wr) (fun _ i _ => (intOf i + 1).toNat)
  case atStart =>
    refine ⟨n, Nat.le_refl _, rfl, ?_, ?_⟩
    · rw [Hid, List.drop_eq_nil_of_le (by omega)]
      exact row_empty w
    · exact below_alloc0 _ _
  case round =>
    obtain ⟨j, hj, rfl, hr, hb⟩ := hrel
    have hz := hb.size
    cases j with
    | zero =>
      go_wp2
      go_ret
      exact ⟨_, rfl, hr.out, hb⟩
    | succ j =>
      have e1 : (((j + 1 : Nat) : Int) - 1) = (j : Int) := by omega
      rw [e1]
      obtain ⟨b, o, rfl, c0, c1⟩ := (HL.out.on hb) j (by omega)
      have HS : Hid (((M.lst I C n).drop j).reverse = ((M.lst I C n).drop (j + 1)).reverse ++ [(I j, C j)]) := by
        rw [Hid, drop_rev _ _ (by rw [hlen]; omega), lst_get]
      have hll : (((M.lst I C n).drop (j + 1)).reverse).length ≤ 61 := by simp [hlen]; omega
      have s1 : IntKind.i64.wrap ((j : Int) - 1) = (j : Int) - 1 := IntWalk.i64_in _ (by omega)
      go_wp2_with (at_builtin; refine wpList_append_letter _ rfl _ _ rfl w.heap.size _ _ rfl (hr.out.alloc _) _ (I j) (C j) rfl ?_ (by omega) (by simp; omega) ?_)
      · simp [go_sem]
      · intro v1 w3 r1 gr1 ho1
        have R1 : Hid (Row w3 w.heap.size v1 (((M.lst I C n).drop j).reverse)) := by rw [Hid, HS.out]; exact r1
        have B3 : Below w.heap.size w w3 := (hb.alloc hz _).grown gr1 (by simp; omega) (fun q e => (hr.out.lt q e).1)
        clear r1 gr1 ho1
        go_wp2
        go_roundw
        case rel => exact ⟨j, by omega, rfl, R1, B3⟩
        case measure => simp [intOf]
end Go.Proofs.Ytlamckdnnnifcaa
