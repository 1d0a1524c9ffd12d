/-
  The marks of a plan's codes where they stand within a row.
-/
import Derived.Test.YtgcldnijannmgaaDoorPlnPM
import Derived.Test.YtgcldnijannmgaaDoorSMark
namespace Go.Proofs.YtgcldnijannmgaaDoor
open Go.RowKit
open Go.PlainAid (bt get_bt bt_nonneg bt_le)
set_option linter.unusedVariables false

/-- Strings in the cells of a block. -/
def OAt (w : World) (g o : Nat) (L : List ByteArray) : Prop := ∀ i (h : i < L.length), w.cell? ⟨g, o + i, none⟩ = some (.string L[i]) ∧ w.frozen? ⟨g, o + i, none⟩ = false
theorem OAt.on {w w' : World} {g o : Nat} {L : List ByteArray} (h : OAt w g o L) (hg : g < w.heap.size) (hb : Below w.heap.size w w') : OAt w' g o L := fun i hi =>
  ⟨(hb.cell (p := ⟨g, o + i, none⟩) hg).trans (h i hi).1, (hb.frozen (p := ⟨g, o + i, none⟩) hg).trans (h i hi).2⟩
theorem OAt.put {w : World} {g o : Nat} {L : List ByteArray} (h : OAt w g o L) (j : Nat) (hj : j < L.length) (s : ByteArray) : OAt (w.setCell ⟨g, o + j, none⟩ (.string s)) g o (L.set j s) := ORow.put (n := 0) (c := 0) (base := 0) h j hj s
theorem ORow.set {w : World} {base : Nat} {v : Value} {L : List ByteArray} (h : ORow w base v L) {p : Addr} (hne : ∀ b, v.ownBlock = some b → b ≠ p.block) (u : Value) : ORow (w.setCell p u) base v L :=
  h.only (Only.set w p u (S := fun b => b = p.block) rfl) fun b e => hne b e

set_option maxHeartbeats 1000000 in
theorem markStringS_o (w : World) (base : Nat) (v : Value) (L : List ByteArray) (k : Nat) (h : ORow w base v L) (hn : L.length ≤ 1048576) (k1 : 1 ≤ k) (k2 : k ≤ 10000000) :
    Calls Tryd.prog 54 #[v, .int .i64 k] w fun e w' => e = .returned (.int .i64 ((k + L.length : Nat) : Int)) ∧ ORow w' base v (M.smarks k L.length) ∧ Only w w' (fun b => v.ownBlock = some b) := by
  rcases h with ⟨rfl, rfl⟩ | ⟨g, o, c, rfl, hbg, hgl, hc⟩
  · go_enter Tryd.func54, Tryd.ntmps54
    go_wp2
    go_rounds 1
    go_ret
    exact ⟨rfl, ORow.nil _ _, Only.refl _ _⟩
  · have hend := Lib.hid (M.smarkTo_end L k)
    obtain ⟨n, hl⟩ : ∃ n, L.length = n := ⟨_, rfl⟩
    have HLN := Lib.hid hl
    have h0 : Hid (OAt w g o (M.smarkTo L k 0)) := hc
    rw [hl] at hn hend ⊢
    clear hc hl
    go_enter Tryd.func54, Tryd.ntmps54
    go_wp2
    go_loopw [1, 5] (fun q i wr => ∃ j : Nat, j ≤ n ∧ i = .int .i64 j ∧ q = .int .i64 ((k + j : Nat) : Int) ∧ Hid (OAt wr g o (M.smarkTo L k j)) ∧ Hid (Only w wr (fun b => (Value.slice (some ⟨g, o, none⟩) n c).ownBlock = some b))) (fun _ i _ => n - (intOf i).toNat)
    case atStart => exact ⟨0, Nat.zero_le _, rfl, rfl, h0, Only.refl _ _⟩
    case round =>
      obtain ⟨j, hj, rfl, rfl, hr, hg⟩ := hrel
      have gl0 : g < wr.heap.size := by have := hg.out.size; omega
      by_cases hlt : j < n
      · obtain ⟨X, hX⟩ : ∃ X : Nat, k + j = X := ⟨_, rfl⟩
        rw [hX]
        have HX := Lib.hid hX
        have x1 : 1 ≤ X := by omega
        have x2 : X ≤ 20000000 := by omega
        clear hX
        go_wp2_with fail
        refine (markText_any X _ (by omega) (by omega)).mono ?_
        rintro e w1 ⟨rfl, hb1⟩
        have hM0 : (M.smarkTo L k j).length = n := by rw [M.smarkTo_length]; exact HLN.out
        have hs1 := hr.out.on gl0 hb1
        have z1 := hb1.size
        obtain ⟨cc, ff⟩ := hs1 j (by omega)
        have P2 := hs1.put j (by omega) (M.mark X)
        have P3 : Hid (OAt (w1.setCell ⟨g, o + j, none⟩ (.string (M.mark X))) g o (M.smarkTo L k (j + 1))) := by
          have e : M.smarkTo L k (j + 1) = (M.smarkTo L k j).set j (M.mark X) := by rw [← HX.out]; rfl
          rw [Hid, e]; exact P2
        have O3 := Lib.hid ((hg.out.trans (Only.new (S := fun b => (Value.slice (some ⟨g, o, none⟩) n c).ownBlock = some b) hb1) (fun _ _ h => h)).trans (Only.set w1 ⟨g, o + j, none⟩ (.string (M.mark X)) (S := fun b => (Value.slice (some ⟨g, o, none⟩) n c).ownBlock = some b) rfl) (fun _ _ h => h))
        have gl : g < w1.heap.size := by omega
        generalize (M.smarkTo L k j)[j]'(by omega) = y at cc
        clear hs1 P2 hM0 hb1
        go_wp2
        go_roundw
        case rel => exact ⟨j + 1, by omega, by go_num, by have := HX.out; go_num, P3, O3⟩
        case measure => simp [intOf]; omega
      · obtain rfl : j = n := by omega
        go_wp2
        go_ret
        have hr2 := hr.out
        rw [hend.out] at hr2
        exact ⟨rfl, Or.inr ⟨g, o, c, by rw [M.smarks_length], hbg, gl0, hr2⟩, hg.out⟩

set_option maxHeartbeats 1000000 in
theorem markPlan_o (w : World) (base : Nat) (b p : Int) (v : Value) (L : List ByteArray) (k : Nat) (h : ORow w base v L) (hn : L.length ≤ 1048576) (k1 : 1 ≤ k) (k2 : k ≤ 10000000) :
    Calls Tryd.prog 24 #[.agg #[.int .i64 b, .int .i64 p, v], .int .i64 k] w fun e w' => e = .returned (.int .i64 ((k + L.length : Nat) : Int)) ∧ ORow w' base v (M.smarks k L.length) ∧ Only w w' (fun b => v.ownBlock = some b) := by
  have HS := Lib.hid (h.on (below_alloc0 w (.cells #[.int .i64 b, .int .i64 p, v] 38)))
  obtain ⟨q, hq⟩ : ∃ q : Nat, k + L.length = q := ⟨_, rfl⟩
  have hm := Lib.hid (fun W (hs : ORow W base v L) => hq ▸ markStringS_o W base v L k hs hn k1 k2)
  rw [hq]
  clear h hq
  go_enter Tryd.func24, Tryd.ntmps24
  go_wp2_with fail
  refine (hm.out _ HS.out).mono ?_
  rintro e w1 ⟨rfl, r1, o1⟩
  have R1 := Lib.hid r1
  go_wp2
  go_ret
  exact ⟨rfl, R1.out, (Only.new (S := fun b => v.ownBlock = some b) (below_alloc0 w _)).trans o1 (fun _ _ h => h)⟩
set_option maxHeartbeats 1000000 in
theorem heldPlan_o (w : World) (base : Nat) (b p : Int) (v : Value) (k n : Nat) (h : ORow w base v (M.smarks k n)) (hn : n ≤ 1048576) (k1 : 1 ≤ k) (k2 : k ≤ 10000000) :
    Calls Tryd.prog 25 #[.agg #[.int .i64 b, .int .i64 p, v], .int .i64 k] w fun e w' => e = .returned (.int .i64 ((k + n : Nat) : Int)) ∧ Below w.heap.size w w' := by
  obtain ⟨a, c, rfl, hs⟩ := h.form
  have hM : ∀ i, i < n → sC (M.smarks k n) i = M.mark (k + i) := fun i hi => by rw [sC_at (by rw [M.smarks_length]; exact hi)]; simp [M.smarks]
  clear h
  rw [M.smarks_length] at hs ⊢
  obtain ⟨S, hS⟩ : ∃ S, sC (M.smarks k n) = S := ⟨_, rfl⟩
  rw [hS] at hs hM
  have HS := Lib.hid (hs.on (below_alloc0 w (.cells #[.int .i64 b, .int .i64 p, .slice a n c] 38)))
  obtain ⟨q, hq⟩ : ∃ q : Nat, k + n = q := ⟨_, rfl⟩
  have hm : Hid (∀ W, Strs W a n S → Calls Tryd.prog 55 #[.slice a n c, .int .i64 k] W fun e w' => e = .returned (.int .i64 (q : Int)) ∧ Below W.heap.size W w') := fun W hs => by
    have := heldStringS_any W a n c S k hs hM hn k1 k2
    rw [hq] at this
    exact this
  have hq0 : ¬ ((q : Int) < 0) := by omega
  rw [hq]
  clear hq hs hS hM
  go_enter Tryd.func25, Tryd.ntmps25
  go_wp2_with fail
  refine (hm.out _ HS.out).mono ?_
  rintro e w1 ⟨rfl, o1⟩
  go_wp2
  go_ret
  exact ⟨rfl, sstep (below_alloc0 w _) o1⟩
theorem eqPlan_o (w : World) (b1 b2 : Nat) (b p : Int) (v v' : Value) (L : List ByteArray) (h : ORow w b1 v L) (h' : ORow w b2 v' L) (hn : L.length ≤ 1048576) :
    Calls Tryd.prog 21 #[.agg #[.int .i64 b, .int .i64 p, v], .agg #[.int .i64 b, .int .i64 p, v']] w fun e w' => e = .returned (.bool true) ∧ Below w.heap.size w w' := by
  obtain ⟨a, c, rfl, hl⟩ := h.form
  obtain ⟨a', c', rfl, hl'⟩ := h'.form
  exact eqPlan_same w b p a a' L.length c c' _ hl hl' hn
end Go.Proofs.YtgcldnijannmgaaDoor
