/-
  Drawn prefixes, and letters with one.
-/
import Derived.Test.YtkbebpadbdhnhaaDrawB
namespace Go.Proofs.Ytkbebpadbdhnhaa
open Go.RowKit

def OfSg (W : World) (S : List ByteArray) (r N : Nat) (e : Ending) (w' : World) : Prop := ∃ v : ByteArray, e = .returned (.string v) ∧ v ∈ S ∧ Sg W w' r (N + 1)
set_option maxHeartbeats 400000 in
theorem of_sg (W : World) (S : List ByteArray) (b : Nat) (w : World) (r N : Nat) (h : Sg W w r N) (hN : N < 100000) (z1 : 1 ≤ S.length) (z2 : S.length ≤ 1000) (hb : b ≠ r) (hc : ∀ i, i < S.length → w.cell? ⟨b, i, none⟩ = some (.string (S.getD i ByteArray.empty))) :
    Calls Try.prog 15 #[.pointer (some ⟨r, 0, none⟩), .slice (some ⟨b, 0, none⟩) S.length S.length] w (OfSg W S r N) := by
  have HC := Lib.hid hc
  clear hc
  go_enter Try.func15, Try.ntmps15
  go_wp2_with fail
  refine (pick_any _ _ r N h.1 hN (by omega) (by omega)).mono ?_
  rintro e w1 ⟨v, rfl, v0, v1, hr, hg⟩
  have hst := h.picked hr hg
  obtain ⟨j, rfl⟩ := Int.eq_ofNat_of_zero_le v0
  have hj : j < S.length := by omega
  have hcell := hg.cell (HC.out j hj) (by intro e; injection e with e; exact hb e)
  go_wp2
  go_ret
  exact ⟨_, rfl, List.getElem_mem hj, hst⟩

end Go.Proofs.Ytkbebpadbdhnhaa
