/-
  An argument that is a slice of numbers: what lies in memory.
-/
import Derived.Test.YtmjdjakalkjkhaaNums
import Derived.ProofKit
import Derived.OpenShut
import Derived.ChangeOld
namespace Go.Proofs.Ytmjdjakalkjkhaa
open Go.ChangeShapes Go.WideShapes Go.ChangeAt Go.RowKit

theorem open_nums {H : Type} {enc : TypeId × Value → H} {W : World} {base : Nat} {sp : Nat → Bool} {held : Bool} {fuel : Nat} {a : Option Addr} {n c : Nat} {x : DataW H × List MemPlace}
    (h : DataW.trod enc Try.prog W base sp held fuel 24 [.slice a n c] = some x) : ∃ L, Nums W a L ∧ L.length = n := by
  rcases open_ints Try.underlying24 Try.underlying3 (by kernel_rfl) h with ⟨hcs, _⟩ | ⟨x, l, c, zs, hcs, _, hl, hm, hz, _, hcell, hwz⟩
  · simp at hcs
    obtain ⟨rfl, rfl, rfl⟩ := hcs
    exact ⟨[], fun i hi => absurd hi (by simp), rfl⟩
  · simp at hcs
    obtain ⟨rfl, rfl, rfl⟩ := hcs
    have hle : n ≤ zs.length := by rw [hz]; split <;> omega
    refine ⟨zs.take n, fun i hi => ?_, by simp; omega⟩
    have hin : i < n := by simp at hi; omega
    obtain ⟨b, o, sp'⟩ := x
    have hspot : sp' = none := by simpa [Addr.add] using World.cell?_spot (hcell 0 (by omega))
    subst hspot
    have := hcell i (by omega)
    rw [add_plain] at this
    refine ⟨b, o, rfl, ?_⟩
    have e : MW.gz (zs.take n) i = zs.getD i 0 := by
      unfold MW.gz
      rw [List.getD_eq_getElem?_getD, List.getD_eq_getElem?_getD, List.getElem?_take_of_lt hin]
    rw [e]; exact this
end Go.Proofs.Ytmjdjakalkjkhaa
