/-
  What BinPass leaves, in the program and in the model of the document.
-/
import Derived.Test.YtmoghfgfdbdioaaPut2
import Derived.Test.YtmoghfgfdbdioaaPureA
import Derived.Test.YtmoghfgfdbdioaaBatch
import Derived.BigQuiet
import Derived.Deep.QuietTactic
namespace Go.Proofs.Ytmoghfgfdbdioaa
open Go.RowKit
open Go.PlainAid (bt get_bt bt_nonneg bt_le)

theorem Lts.only {w w' : World} {a : Option Addr} {n : Nat} {I : Nat → Int} {C : Nat → ByteArray} {T : Nat → Prop} (h : Lts w a n I C) (ho : Only w w' T) (hn : ∀ b o, a = some ⟨b, o, none⟩ → 0 < n → ¬ T b) : Lts w' a n I C := by
  intro i hi
  obtain ⟨b, o, e, h1, h2⟩ := h i hi
  have hl := h.lt e (by omega)
  have hk := ho.block b hl (hn b o e (by omega))
  exact ⟨b, o, e, (World.cell?_of_block (a := ⟨b, o + i * 2, none⟩) hk).trans h1, (World.cell?_of_block (a := ⟨b, o + i * 2 + 1, none⟩) hk).trans h2⟩

end Go.Proofs.Ytmoghfgfdbdioaa
