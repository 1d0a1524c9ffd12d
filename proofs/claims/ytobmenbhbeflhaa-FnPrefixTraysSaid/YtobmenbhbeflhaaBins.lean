/-
  What BinPass leaves, in the program and in the model of the document.
-/
import Derived.Test.YtobmenbhbeflhaaPut2
import Derived.Test.YtobmenbhbeflhaaMgF1
import Derived.Test.YtobmenbhbeflhaaBatch
import Derived.BigQuiet
import Derived.Deep.QuietTactic
namespace Go.Proofs.Ytobmenbhbeflhaa
open Go.RowKit
open Go.PlainAid (bt get_bt bt_nonneg bt_le)

/-- The slice of bins that a call has made. -/
def BinsOut (w : World) (n : Nat) (M : Nat → List (Int × ByteArray)) (e : Ending) (w' : World) : Prop :=
  ∃ (G c : Nat) (V : Nat → Value), e = .returned (.slice (some ⟨G, 0, none⟩) n c) ∧ Mat w' w.heap.size (.slice (some ⟨G, 0, none⟩) n c) n V M ∧ Below w.heap.size w w'
def BinsOk (w : World) (n : Nat) (M : Nat → List (Int × ByteArray)) (e : Ending) (w' : World) : Prop :=
  ∃ (G c : Nat) (V : Nat → Value), e = .returned (.tuple #[.slice (some ⟨G, 0, none⟩) n c, .bool true]) ∧ Mat w' w.heap.size (.slice (some ⟨G, 0, none⟩) n c) n V M ∧ Below w.heap.size w w'
theorem below_only {W w w' : World} {base n : Nat} {v : Value} {V : Nat → Value} {M : Nat → List (Int × ByteArray)} (hb : Below W.heap.size W w) (h : Mat w base v n V M) (hbase : W.heap.size ≤ base) (ho : Only w w' (inM v n V)) : Below W.heap.size W w' :=
  hb.trans (ho.below (B := W.heap.size) (fun k hk _ hm => by have := (h.lt hm).1; omega) hb.size)

theorem Lts.only {w w' : World} {a : Option Addr} {n : Nat} {I : Nat → Int} {C : Nat → ByteArray} {T : Nat → Prop} (h : Lts w a n I C) (ho : Only w w' T) (hn : ∀ b o, a = some ⟨b, o, none⟩ → 0 < n → ¬ T b) : Lts w' a n I C := by
  intro i hi
  obtain ⟨b, o, e, h1, h2⟩ := h i hi
  have hl := h.lt e (by omega)
  have hk := ho.block b hl (hn b o e (by omega))
  exact ⟨b, o, e, (World.cell?_of_block (a := ⟨b, o + i * 2, none⟩) hk).trans h1, (World.cell?_of_block (a := ⟨b, o + i * 2 + 1, none⟩) hk).trans h2⟩

end Go.Proofs.Ytobmenbhbeflhaa
