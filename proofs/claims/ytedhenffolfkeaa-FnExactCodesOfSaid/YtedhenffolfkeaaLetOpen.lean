/-
  An argument that is a slice of letters: what lies in memory.
-/
import Derived.Test.YtedhenffolfkeaaLet
import Derived.ProofKit
import Derived.OpenShut
import Derived.ChangeOld
import Derived.Deep.SlicePairs
namespace Go.Proofs.Ytedhenffolfkeaa
open Go.ChangeShapes Go.WideShapes Go.ChangeAt Go.RowKit

theorem open_letters {H : Type} {enc : TypeId × Value → H} {W : World} {base : Nat} {sp : Nat → Bool} {held : Bool} {fuel : Nat} {a : Option Addr} {n c : Nat} {x : DataW H × List MemPlace}
    (h : DataW.trod enc Try.prog W base sp held fuel 42 [.slice a n c] = some x) : ∃ I C, Lts W a n I C ∧ Fits n I C ∧ n ≤ maxLen := by
  rcases Deep.open_slice_pairs Try.underlying42 Try.underlying71 (by kernel_rfl) rfl rfl (by kernel_rfl) (by kernel_rfl) h with ⟨hcs, _⟩ | ⟨a', len, cap, m, k, V0, V1, D0, D1, P0, P1, hcs, _, hl, hm, hmm, _, hx⟩
  · simp at hcs
    obtain ⟨rfl, rfl, rfl⟩ := hcs
    exact ⟨fun _ => 0, fun _ => ⟨#[]⟩, fun i hi => absurd hi (by omega), fun i hi => absurd hi (by omega), by omega⟩
  · simp at hcs
    obtain ⟨rfl, rfl, rfl⟩ := hcs
    have hnm : n ≤ m := by rw [hmm]; split <;> omega
    refine ⟨fun i => intOf (V0 i), fun i => match V1 i with | .string s => s | _ => ⟨#[]⟩, fun i hi => ?_, fun i hi => ?_, by omega⟩
    · obtain ⟨c0, c1, t0, t1⟩ := hx i (by omega)
      obtain ⟨y, ey, _, _⟩ := DataW.trod_int Try.underlying3 t0
      obtain ⟨s, es, _, _⟩ := DataW.trod_string Try.underlying9 t1
      have e0 := List.singleton_inj.1 ey
      have e1 := List.singleton_inj.1 es
      obtain ⟨b, o, sp'⟩ := a'
      have hspot : sp' = none := by simpa [Addr.add] using World.cell?_spot (hx 0 (by omega)).1
      subst hspot
      rw [add_plain] at c0 c1
      refine ⟨b, o, rfl, ?_, ?_⟩
      · show _ = some (Value.int .i64 (intOf (V0 i)))
        rw [c0, e0]; rfl
      · show W.cell? ⟨b, o + (i * 2 + 1), none⟩ = some (Value.string (match V1 i with | .string s => s | _ => ⟨#[]⟩))
        rw [c1, e1]
    · obtain ⟨c0, c1, t0, t1⟩ := hx i (by omega)
      obtain ⟨y, ey, _, wy⟩ := DataW.trod_int Try.underlying3 t0
      obtain ⟨s, es, _, ws⟩ := DataW.trod_string Try.underlying9 t1
      have e0 := List.singleton_inj.1 ey
      have e1 := List.singleton_inj.1 es
      simp only [e0, e1, intOf]
      exact ⟨bounds_i64 wy, ws⟩
end Go.Proofs.Ytedhenffolfkeaa
