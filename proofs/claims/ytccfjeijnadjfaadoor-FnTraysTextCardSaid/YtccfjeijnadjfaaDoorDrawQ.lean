/-
  Plans that are sometimes none.
-/
import Derived.Test.YtccfjeijnadjfaaDoorDrawP
namespace Go.Proofs.YtccfjeijnadjfaaDoor
open Go.RowKit

theorem SmallS.mono {z z' : Nat} {L : List ByteArray} (h : SmallS z L) (hz : z ≤ z') : SmallS z' L := fun x hx => Nat.le_trans (h x hx) hz
theorem SRow.cut0 {w : World} {base g c : Nat} {L : List ByteArray} (h : SRow w base (.slice (some ⟨g, 0, none⟩) L.length c) L) : SRow w base (.slice (some ⟨g, 0, none⟩) ([] : List ByteArray).length c) [] := by
  rcases h.2 with ⟨e, _⟩ | ⟨g', cap, cur, e, h1, h2, h3, h4, h5, _⟩
  · cases e
  · cases e
    exact ⟨rfl, Or.inr ⟨g, c, cur, rfl, h1, h2, Nat.zero_le _, h4, h5, by simp [scells]⟩⟩
/-- The end of l3Bad: the plan is laid into the result's block. -/
theorem planBad_end {w wz : World} {r N base y : Nat} {b p : Int} {a : Option Addr} {c : Nat} {L : List ByteArray} {row : Option Nat} (hy : w.heap.size ≤ y) (hr : r < w.heap.size) (R : SRow wz base (.slice a L.length c) L) (RD : Rd wz r (N + 20)) (O : Only w wz (fun k => k = r ∨ row = some k))
    (hgy : ∀ k, (Value.slice a L.length c).ownBlock = some k → k ≠ y) (hb : -9223372036854775808 ≤ b ∧ b ≤ 9223372036854775807) (hp : 0 ≤ p ∧ p ≤ 5) (hl : L.length ≤ 13) (hs : SmallS 30 L) (ho : (Value.slice a L.length c).ownBlock = row ∨ ∃ g, (Value.slice a L.length c).ownBlock = some g ∧ w.heap.size ≤ g) (x0 x1 x2 : Value) :
    PlanBad w base r N row (.returned (.agg #[.int .i64 b, .int .i64 p, .slice a L.length c])) (((wz.setCell ⟨y, 0, none⟩ x0).setCell ⟨y, 1, none⟩ x1).setCell ⟨y, 2, none⟩ x2) := by
  have h3 : Only wz (((wz.setCell ⟨y, 0, none⟩ x0).setCell ⟨y, 1, none⟩ x1).setCell ⟨y, 2, none⟩ x2) (fun k => k = y) :=
    ((Only.set wz ⟨y, 0, none⟩ x0 (S := fun k => k = y) rfl).trans (Only.set _ ⟨y, 1, none⟩ x1 (S := fun k => k = y) rfl) (fun _ _ h => h)).trans (Only.set _ ⟨y, 2, none⟩ x2 (S := fun k => k = y) rfl) (fun _ _ h => h)
  refine ⟨b, p, a, c, L, rfl, hb, hp, R.only h3 hgy, hl, hs, RD.only h3 (fun k hk => by omega), O.trans h3 (fun x hx e => by omega), ho⟩

end Go.Proofs.YtccfjeijnadjfaaDoor
