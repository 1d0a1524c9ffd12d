/-
  An argument that is a slice of strings: what lies in memory.
-/
import Derived.Test.YtgcldnijannmgaaDoorStr
import Derived.ProofKit
import Derived.OpenShut
import Derived.ChangeOld
import Derived.SliceStrings
namespace Go.Proofs.YtgcldnijannmgaaDoor
open Go.ChangeShapes Go.WideShapes Go.ChangeAt Go.RowKit

theorem open_strs {H : Type} {enc : TypeId × Value → H} {W : World} {base : Nat} {sp : Nat → Bool} {held : Bool} {fuel : Nat} {v : Value} {x : DataW H × List MemPlace}
    (h : DataW.trod enc Tryd.prog W base sp held fuel 33 [v] = some x) : ∃ (a : Option Addr) (n c : Nat) (S : Nat → ByteArray), v = .slice a n c ∧ Strs W a n S ∧ SFits n S ∧ n ≤ maxLen := by
  rcases open_strings Tryd.underlying33 Tryd.underlying9 (by kernel_rfl) h with ⟨hcs, _⟩ | ⟨a, len, cap, ss, hcs, _, hl, hm, hlen, _, hc, hs⟩
  · exact ⟨none, 0, 0, fun _ => ⟨#[]⟩, List.singleton_inj.1 hcs, fun i hi => absurd hi (by omega), fun i hi => absurd hi (by omega), by omega⟩
  · have hle : len ≤ ss.length := by rw [hlen]; split <;> omega
    refine ⟨some a, len, cap, fun i => ss.getD i ByteArray.empty, List.singleton_inj.1 hcs, fun i hi => ?_, fun i hi => ?_, by omega⟩
    · obtain ⟨b, o, sp'⟩ := a
      have hspot : sp' = none := by simpa [Addr.add] using World.cell?_spot (hc 0 (by omega))
      subst hspot
      have := hc i (by omega)
      rw [add_plain] at this
      exact ⟨b, o, rfl, this⟩
    · refine hs _ ?_
      show ss.getD i ByteArray.empty ∈ ss
      rw [List.getD_eq_getElem?_getD, List.getElem?_eq_getElem (show i < ss.length by omega)]
      exact List.getElem_mem (by omega)
end Go.Proofs.YtgcldnijannmgaaDoor
