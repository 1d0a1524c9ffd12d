/-
  Missorts that a law has made: apart from all else, and marked.
-/
import Derived.Test.YthlfbdapkjhmaaaDoorMis
import Derived.Test.YthlfbdapkjhmaaaDoorMarkS
import Derived.Test.YthlfbdapkjhmaaaDoorBins
namespace Go.Proofs.YthlfbdapkjhmaaaDoor
open Go.RowKit
open Go.PlainAid (bt get_bt bt_nonneg bt_le)
set_option linter.unusedVariables false

/-- A row of missorts from a heap size on. -/
def MRow (w : World) (base b n : Nat) (I C : Nat → Int) : Prop := base ≤ b ∧ MOwn w b n I C
theorem MOwn.lt {w : World} {b n : Nat} {I C : Nat → Int} (h : MOwn w b n I C) : b < w.heap.size := by
  obtain ⟨f, hr, _⟩ := h
  exact hr.lt
theorem MOwn.block {w w' : World} {b n : Nat} {I C : Nat → Int} (h : MOwn w b n I C) (hb : w'.heap[b]? = w.heap[b]?) : MOwn w' b n I C := by
  obtain ⟨f, hr, hf⟩ := h
  exact ⟨f, hr.of_block hb, hf⟩
theorem MRow.on {w w' : World} {base b n : Nat} {I C : Nat → Int} (h : MRow w base b n I C) (hb : Below w.heap.size w w') : MRow w' base b n I C := ⟨h.1, h.2.block (hb.block _ h.2.lt)⟩
theorem MRow.only {w w' : World} {base b n : Nat} {I C : Nat → Int} {S : Nat → Prop} (h : MRow w base b n I C) (ho : Only w w' S) (hn : ∀ k, k = b → ¬ S k) : MRow w' base b n I C := ⟨h.1, h.2.block (ho.block _ h.2.lt (hn b rfl))⟩
theorem MRow.lt {w : World} {base b n : Nat} {I C : Nat → Int} (h : MRow w base b n I C) : ∀ k, k = b → base ≤ k ∧ k < w.heap.size := fun k e => by subst e; exact ⟨h.1, h.2.lt⟩
theorem MRow.mss {w : World} {base b n : Nat} {I C : Nat → Int} (h : MRow w base b n I C) : Mss w (some ⟨b, 0, none⟩) n I C := h.2.mss
theorem toMissortS_row (w : World) (a : Option Addr) (n c : Nat) (I : Nat → Int) (C : Nat → Int) (h : Mss w a n I C) (hn : n ≤ 1048576) :
    Calls Tryd.prog 15 #[.slice a n c] w fun e w' => ∃ b, e = .returned (.slice (some ⟨b, 0, none⟩) n n) ∧ MRow w' w.heap.size b n I C ∧ Below w.heap.size w w' := by
  refine (toMissortS_any w a n c I C h hn).mono ?_
  rintro e w' ⟨b, rfl, h1, h2, h3⟩
  exact ⟨b, rfl, ⟨h1, h2⟩, h3⟩

set_option maxHeartbeats 1000000 in
theorem markMissortS_row (w : World) (base b n : Nat) (I C : Nat → Int) (k : Nat) (h : MRow w base b n I C) (hn : n ≤ 1048576) (k1 : 1 ≤ k) (k2 : k ≤ 10000000) :
    Calls Tryd.prog 23 #[.slice (some ⟨b, 0, none⟩) n n, .int .i64 k] w fun e w' => e = .returned (.int .i64 ((k + 2 * n : Nat) : Int)) ∧ Only w w' (fun q => q = b) := by
  obtain ⟨f0, hr0, _⟩ := h.2
  have H0 := Lib.hid hr0
  clear h hr0
  go_enter Tryd.func23, Tryd.ntmps23
  go_wp2
  go_loopw [1, 5] (fun q i wr => ∃ (j : Nat) (f : Nat → Value), j ≤ n ∧ i = .int .i64 j ∧ q = .int .i64 ((k + 2 * j : Nat) : Int) ∧ Hid (wr.rowIs b 69 (n * 2) f) ∧ Hid (Only w wr (fun q => q = b))) (fun _ i _ => n - (intOf i).toNat)
  case atStart => exact ⟨0, f0, Nat.zero_le _, rfl, rfl, H0, Only.refl _ _⟩
  case round =>
    obtain ⟨j, f, hj, rfl, rfl, hr, ho⟩ := hrel
    by_cases hlt : j < n
    · obtain ⟨X, hX⟩ : ∃ X : Int, X = (k : Int) + 2 * (j : Int) := ⟨_, rfl⟩
      have hXc : ((k + 2 * j : Nat) : Int) = X := by omega
      have hXb : 1 ≤ X ∧ X ≤ 20000000 := by omega
      have d0 := hr.out.cell (i := j * 2) (by omega)
      have g0 := hr.out.frozen (j * 2)
      have r1 := hr.out.set (j * 2) (.int .i64 X)
      have d1 := r1.cell (i := j * 2 + 1) (by omega)
      have g1 := r1.frozen (j * 2 + 1)
      have R2 := Lib.hid (r1.set (j * 2 + 1) (.int .i64 (X + 1)))
      have O2 : Hid (Only w ((wr.setCell ⟨b, j * 2, none⟩ (.int .i64 X)).setCell ⟨b, j * 2 + 1, none⟩ (.int .i64 (X + 1))) (fun q => q = b)) :=
        (ho.out.trans (Only.set wr ⟨b, j * 2, none⟩ (.int .i64 X) (S := fun q => q = b) rfl) (fun _ _ h => h)).trans (Only.set (wr.setCell ⟨b, j * 2, none⟩ (.int .i64 X)) ⟨b, j * 2 + 1, none⟩ (.int .i64 (X + 1)) (S := fun q => q = b) rfl) (fun _ _ h => h)
      rw [if_neg (by omega)] at d1
      generalize f (j * 2) = y0 at d0
      generalize f (j * 2 + 1) = y1 at d1
      have HX := Lib.hid hX
      clear r1 hX
      rw [hXc]
      clear hXc
      obtain ⟨x1, x2⟩ := hXb
      go_wp2
      go_roundw
      case rel => exact ⟨j + 1, _, by omega, by go_num, by refine congrArg (Value.int .i64) ?_; have := HX.out; omega, R2, O2⟩
      case measure => simp [intOf]; omega
    · obtain rfl : j = n := by omega
      go_wp2
      go_ret
      exact ⟨rfl, ho.out⟩
end Go.Proofs.YthlfbdapkjhmaaaDoor
