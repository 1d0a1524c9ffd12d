/-
  An argument that is a slice of slices of letters: what lies in memory.
-/
import Derived.Test.YtgcldnijannmgaaDoorSS
import Derived.Test.YtgcldnijannmgaaDoorLetOpen
import Derived.ProofKit
import Derived.OpenShut
import Derived.ChangeOld
import Derived.Deep.Slices
namespace Go.Proofs.YtgcldnijannmgaaDoor
open Go.ChangeShapes Go.WideShapes Go.ChangeAt Go.RowKit

theorem trod_letters {H : Type} {enc : TypeId × Value → H} {W : World} {base : Nat} {sp : Nat → Bool} {held : Bool} {fuel : Nat} {v : Value} {x : DataW H × List MemPlace}
    (h : DataW.trod enc Tryd.prog W base sp held fuel 22 [v] = some x) : ∃ a c L, v = .slice a (List.length L) c ∧ Lts W a L.length (nI L) (nC L) ∧ Fits L.length (nI L) (nC L) ∧ L.length ≤ maxLen := by
  obtain ⟨a, n, c, rfl⟩ : ∃ a n c, v = .slice a n c := by
    rcases Deep.open_slice_pairs Tryd.underlying22 Tryd.underlying54 (by kernel_rfl) rfl rfl (by kernel_rfl) (by kernel_rfl) h with ⟨hcs, _⟩ | ⟨a', len, cap, m, k, V0, V1, D0, D1, P0, P1, hcs, _⟩
    · exact ⟨_, _, _, List.singleton_inj.1 hcs⟩
    · exact ⟨_, _, _, List.singleton_inj.1 hcs⟩
  obtain ⟨I, C, h1, h2, h3⟩ := open_letters h
  have hl : (M.lst I C n).length = n := M.lst_length I C n
  refine ⟨a, c, M.lst I C n, by rw [hl], ?_, ?_, by rw [hl]; exact h3⟩
  · rw [hl]; exact h1.congr fun i hi => ⟨(lst_at hi).1.symm, (lst_at hi).2.symm⟩
  · rw [hl]; intro i hi; rw [(lst_at hi).1, (lst_at hi).2]; exact h2 i hi
theorem open_trays {H : Type} {enc : TypeId × Value → H} {W : World} {base : Nat} {sp : Nat → Bool} {held : Bool} {fuel : Nat} {a : Option Addr} {n c : Nat} {x : DataW H × List MemPlace}
    (h : DataW.trod enc Tryd.prog W base sp held fuel 45 [.slice a n c] = some x) : ∃ MM, Lss W a n MM ∧ n ≤ maxLen := by
  rcases Deep.open_slice1 Tryd.underlying45 (by kernel_rfl) h with ⟨hcs, _⟩ | ⟨a', len, cap, m, k, V, D, Pl, hcs, _, hl, hm, hmm, _, hx⟩
  · simp at hcs
    obtain ⟨rfl, rfl, rfl⟩ := hcs
    exact ⟨fun _ => [], fun i hi => absurd hi (by omega), by omega⟩
  · simp at hcs
    obtain ⟨rfl, rfl, rfl⟩ := hcs
    have hnm : n ≤ m := by rw [hmm]; split <;> omega
    obtain ⟨MM, hMM⟩ := Deep.choose_lt (α := List (Int × ByteArray)) (n := n) (p := fun i L => ∃ b c, V i = .slice b L.length c ∧ Lts W b L.length (nI L) (nC L) ∧ Fits L.length (nI L) (nC L) ∧ L.length ≤ maxLen) (fun i hi => by
      obtain ⟨a1, c1, L, e, h1, h2, h3⟩ := trod_letters (hx i (by omega)).2
      exact ⟨L, a1, c1, e, h1, h2, h3⟩)
    refine ⟨MM, fun i hi => ?_, by omega⟩
    obtain ⟨b, o, sp'⟩ := a'
    have hspot : sp' = none := by simpa [Addr.add] using World.cell?_spot (hx 0 (by omega)).1
    subst hspot
    obtain ⟨b1, c1, e, h1, h2, h3⟩ := hMM i hi
    have hc := (hx i (by omega)).1
    rw [add_plain, e] at hc
    exact ⟨b, o, b1, c1, rfl, hc, h1, h2, h3⟩
end Go.Proofs.YtgcldnijannmgaaDoor
