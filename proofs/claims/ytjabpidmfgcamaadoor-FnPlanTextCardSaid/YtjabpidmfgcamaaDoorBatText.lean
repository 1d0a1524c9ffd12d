/-
  The text of a batch, in the program and in the model of the document.
-/
import Derived.Test.YtjabpidmfgcamaaDoorMgP4
import Derived.Test.YtjabpidmfgcamaaDoorDecN
import Derived.Test.YtjabpidmfgcamaaDoorBatch
import Derived.Test.YtjabpidmfgcamaaDoorMgP3
import Derived.Deep.RegionHeld3
namespace Go.Proofs.YtjabpidmfgcamaaDoor
open Go.RowKit
open Go.PlainAid (bt get_bt bt_nonneg bt_le)
set_option linter.unusedVariables false

def M.colon : ByteArray := ⟨#[58]⟩
/-- The text of a letter, and of a batch. -/
def M.letT (I : Nat → Int) (C : Nat → ByteArray) (k : Nat) : ByteArray := M.decT (I k) ++ M.colon ++ C k
def M.batText (n : Nat) (I : Nat → Int) (C : Nat → ByteArray) : ByteArray := if M.batch n I C then M.itemsOf (M.letT I C) n else ⟨#[]⟩
theorem bat_sizes {n : Nat} {I : Nat → Int} {C : Nat → ByteArray} (h : M.batch n I C = true) : n ≤ 60 ∧ ∀ i, i < n → 1 ≤ I i ∧ I i ≤ 9999 ∧ (C i).size = 7 ∧ (M.letT I C i).size ≤ 12 ∧ 0 < (M.letT I C i).size := by
  obtain ⟨hn, hall⟩ := M.batch_yes h
  refine ⟨hn, fun i hi => ?_⟩
  obtain ⟨h1, h2, _⟩ := hall i hi
  have h3 := (M.code_yes h1).2
  have h4 := M.decT_size (n := I i) (by omega) (by omega)
  have h5 : M.colon.size = 1 := rfl
  unfold M.letT
  rw [ByteArray.size_append, ByteArray.size_append, h5]
  omega
theorem letT_app (o : ByteArray) (I : Nat → Int) (C : Nat → ByteArray) (k : Nat) : o ++ M.decT (I k) ++ M.colon ++ C k = o ++ M.letT I C k := by
  unfold M.letT
  rw [M.bapp_assoc, M.bapp_assoc, M.bapp_assoc]

end Go.Proofs.YtjabpidmfgcamaaDoor
