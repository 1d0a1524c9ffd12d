/-
  What BinPass leaves, in the program and in the model of the document.
-/
import Derived.Test.YtekfjheaffkakaaMgR9
import Derived.Test.YtekfjheaffkakaaMgR3
import Derived.Test.YtekfjheaffkakaaBatch
import Derived.BigQuiet
import Derived.Deep.QuietTactic
import Derived.Test.YtekfjheaffkakaaMgR4
import Derived.WalkLawsBesides
namespace Go.Proofs.Ytekfjheaffkakaa
open Go.RowKit
open Go.PlainAid (bt get_bt bt_nonneg bt_le)

/-- The slice of bins that a call has made. -/
def BinsOut (w : World) (n : Nat) (M : Nat → List (Int × ByteArray)) (e : Ending) (w' : World) : Prop :=
  ∃ (G c : Nat) (V : Nat → Value), e = .returned (.slice (some ⟨G, 0, none⟩) n c) ∧ Mat w' w.heap.size (.slice (some ⟨G, 0, none⟩) n c) n V M ∧ Below w.heap.size w w'
def BinsOk (w : World) (n : Nat) (M : Nat → List (Int × ByteArray)) (e : Ending) (w' : World) : Prop :=
  ∃ (G c : Nat) (V : Nat → Value), e = .returned (.tuple #[.slice (some ⟨G, 0, none⟩) n c, .bool true]) ∧ Mat w' w.heap.size (.slice (some ⟨G, 0, none⟩) n c) n V M ∧ Below w.heap.size w w'
theorem below_only {W w w' : World} {base n : Nat} {v : Value} {V : Nat → Value} {M : Nat → List (Int × ByteArray)} (hb : Below W.heap.size W w) (h : Mat w base v n V M) (hbase : W.heap.size ≤ base) (ho : Only w w' (inM v n V)) : Below W.heap.size W w' :=
  hb.trans (ho.below (B := W.heap.size) (fun k hk _ hm => by have := (h.lt hm).1; omega) hb.size)

theorem Lts.only {w w' : World} {a : Option Addr} {n : Nat} {I : Nat → Int} {C : Nat → ByteArray} {T : Nat → Prop} (h : Lts w a n I C) (ho : Only w w' T) (hn : ∀ b o, a = some ⟨b, o, none⟩ → 0 < n → ¬ T b) : Lts w' a n I C := by
  intro i hi
  obtain ⟨b, o, e, h1, h2⟩ := h i hi
  have hl := h.lt e (by omega)
  have hk := ho.block b hl (hn b o e (by omega))
  exact ⟨b, o, e, (World.cell?_of_block (a := ⟨b, o + i * 2, none⟩) hk).trans h1, (World.cell?_of_block (a := ⟨b, o + i * 2 + 1, none⟩) hk).trans h2⟩

end Go.Proofs.Ytekfjheaffkakaa

/-
  What SortedBatch and Inversions return, in the program and in the model of the document.
-/
namespace Go.Proofs.Ytekfjheaffkakaa
open Go.RowKit
open Go.PlainAid (bt get_bt bt_nonneg bt_le)

set_option maxHeartbeats 400000 in
theorem before_any (w : World) (a : Option Addr) (n c : Nat) (I : Nat → Int) (C : Nat → ByteArray) (h : Lts w a n I C) (x y : Int) (i j : Nat) (hx : x = i) (hy : y = j) (hi : i < n) (hj : j < n) :
    Calls Try.prog 35 #[.slice a n c, .int .i64 x, .int .i64 y] w fun e w' => e = .returned (.bool (M.less (C i) (C j))) ∧ Below w.heap.size w w' := by
  subst hx hy
  obtain ⟨b, o, rfl, c0, c1⟩ := h i hi
  obtain ⟨b2, o2, e2, d0, d1⟩ := h j hj
  cases e2
  go_enter Try.func35, Try.ntmps35
  go_wp2
  go_region
  all_goals
    go_wp2
    go_ret
    exact ⟨rfl, by go_grown⟩

end Go.Proofs.Ytekfjheaffkakaa
