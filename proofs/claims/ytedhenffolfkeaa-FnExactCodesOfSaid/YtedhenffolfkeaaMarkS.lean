/-
  The marks that a law writes into a plan's codes.
-/
import Derived.Test.YtedhenffolfkeaaMark
import Derived.Test.YtedhenffolfkeaaPlan
namespace Go.Proofs.Ytedhenffolfkeaa
open Go.RowKit
open Go.PlainAid (bt get_bt bt_nonneg bt_le)

theorem SRow.on {w w' : World} {base : Nat} {v : Value} {L : List ByteArray} (h : SRow w base v L) (hb : Below w.heap.size w w') : SRow w' base v L := h.below hb

set_option maxHeartbeats 1000000 in
theorem markStringS_row (w : World) (base : Nat) (v : Value) (L : List ByteArray) (k : Nat) (h : SRow w base v L) (hn : L.length ≤ 1048576) (k1 : 1 ≤ k) (k2 : k ≤ 10000000) :
    Calls Try.prog 34 #[v, .int .i64 k] w fun e w' => e = .returned (.int .i64 ((k + L.length : Nat) : Int)) ∧ Only w w' (fun b => v.ownBlock = some b) := by
  rcases h.cases with ⟨rfl, rfl⟩ | ⟨g, c, rfl, hbg, hgl, _⟩
  · go_enter Try.func34, Try.ntmps34
    go_wp2
    go_rounds 1
    go_ret
    exact ⟨rfl, Only.refl _ _⟩
  · obtain ⟨n, hl⟩ : ∃ n, L.length = n := ⟨_, rfl⟩
    rw [hl] at h hn ⊢
    have h0 : Hid (∃ Z : List ByteArray, Z.length = n ∧ SRow w base (.slice (some ⟨g, 0, none⟩) n c) Z) := ⟨L, hl, h⟩
    clear h hl
    go_enter Try.func34, Try.ntmps34
    go_wp2
    go_loopw [1, 5] (fun q i wr => ∃ j : Nat, j ≤ n ∧ i = .int .i64 j ∧ q = .int .i64 ((k + j : Nat) : Int) ∧ Hid (∃ Z : List ByteArray, Z.length = n ∧ SRow wr base (.slice (some ⟨g, 0, none⟩) n c) Z) ∧ Hid (Only w wr (fun b => (Value.slice (some ⟨g, 0, none⟩) n c).ownBlock = some b))) (fun _ i _ => n - (intOf i).toNat)
    case atStart => exact ⟨0, Nat.zero_le _, rfl, rfl, h0, Only.refl _ _⟩
    case round =>
      obtain ⟨j, hj, rfl, rfl, hr, hg⟩ := hrel
      by_cases hlt : j < n
      · obtain ⟨X, hX⟩ : ∃ X : Nat, k + j = X := ⟨_, rfl⟩
        rw [hX]
        have HX := Lib.hid hX
        have x1 : 1 ≤ X := by omega
        have x2 : X ≤ 20000000 := by omega
        clear hX
        go_wp2_with fail
        refine (markText_any X _ (by omega) (by omega)).mono ?_
        rintro e w1 ⟨rfl, hb1⟩
        obtain ⟨M0, hM0, hs0⟩ := hr.out
        have hs1 := hs0.on hb1
        have z1 := hb1.size
        have hs2 : SRow w1 base (.slice (some ⟨g, 0, none⟩) M0.length c) M0 := by rw [hM0]; exact hs1
        obtain ⟨cc, ff⟩ := hs2.cellAt j (by omega)
        have P2 := hs2.put j (M.mark X)
        rw [List.length_set] at P2
        have P3 : Hid (∃ Z : List ByteArray, Z.length = n ∧ SRow (w1.setCell ⟨g, j, none⟩ (.string (M.mark X))) base (.slice (some ⟨g, 0, none⟩) n c) Z) := ⟨M0.set j (M.mark X), by rw [List.length_set]; exact hM0, by rw [hM0] at P2; exact P2⟩
        have O3 := Lib.hid ((hg.out.trans (Only.new (S := fun b => (Value.slice (some ⟨g, 0, none⟩) n c).ownBlock = some b) hb1) (fun _ _ h => h)).trans (Only.set w1 ⟨g, j, none⟩ (.string (M.mark X)) (S := fun b => (Value.slice (some ⟨g, 0, none⟩) n c).ownBlock = some b) rfl) (fun _ _ h => h))
        have gl := (hs1.lt g rfl).2
        generalize M0[j]'(by omega) = y at cc
        clear hs0 hs1 hs2 P2 hM0 hb1
        go_wp2
        go_roundw
        case rel => exact ⟨j + 1, by omega, by go_num, by have := HX.out; go_num, P3, O3⟩
        case measure => simp [intOf]; omega
      · obtain rfl : j = n := by omega
        go_wp2
        go_ret
        exact ⟨rfl, hg.out⟩

end Go.Proofs.Ytedhenffolfkeaa
