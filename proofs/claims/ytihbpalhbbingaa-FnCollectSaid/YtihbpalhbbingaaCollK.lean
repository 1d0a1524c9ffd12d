/-
  Collected bins: where the letters of each bin lie.
-/
import Derived.Test.YtihbpalhbbingaaDrawCo
import Derived.Test.YtihbpalhbbingaaPassR
import Derived.Test.YtihbpalhbbingaaCollM
namespace Go.Proofs.Ytihbpalhbbingaa
open Go.RowKit
set_option linter.unusedVariables false

theorem flat_cut {MM : Nat → List (Int × ByteArray)} : ∀ {n j : Nat}, j < n → ∃ R, M.flat MM n = M.flat MM j ++ (MM j ++ R)
  | 0, j, h => absurd h (by omega)
  | n + 1, j, h => by
    by_cases e : j = n
    · subst e; exact ⟨[], by rw [List.append_nil]; rfl⟩
    · obtain ⟨R, hR⟩ := flat_cut (MM := MM) (n := n) (j := j) (by omega)
      exact ⟨R ++ MM n, by show M.flat MM n ++ MM n = _; rw [hR, List.append_assoc, List.append_assoc]⟩
theorem flat_lts {w : World} {g n j : Nat} {MM : Nat → List (Int × ByteArray)} {F : List (Int × ByteArray)} (hF : M.flat MM n = F) (h : Lts w (some ⟨g, 0, none⟩) F.length (nI F) (nC F)) (hj : j < n) : Lts w (some ⟨g, tot MM j * 2, none⟩) (MM j).length (nI (MM j)) (nC (MM j)) := fun i hi => by
  obtain ⟨R, hR⟩ := flat_cut (MM := MM) hj
  have hl := tot_flat MM j
  have hx : tot MM j + i < F.length := by rw [← hF, hR, List.length_append, List.length_append, hl]; omega
  obtain ⟨b, o, e, h0, h1⟩ := h (tot MM j + i) hx
  injection e with e
  injection e with e1 e2
  subst e1 e2
  have hv : F[tot MM j + i] = (MM j)[i] := by
    have e9 : F = M.flat MM j ++ (MM j ++ R) := by rw [← hF, hR]
    subst e9
    rw [List.getElem_append_right (by omega), List.getElem_append_left (by omega)]
    congr 1
    omega
  refine ⟨g, tot MM j * 2, rfl, ?_, ?_⟩
  · rw [nI_at hx, hv, ← nI_at hi] at h0
    rw [show tot MM j * 2 + i * 2 = 0 + (tot MM j + i) * 2 by omega]
    exact h0
  · rw [nC_at hx, hv, ← nC_at hi] at h1
    rw [show tot MM j * 2 + i * 2 + 1 = 0 + (tot MM j + i) * 2 + 1 by omega]
    exact h1
theorem coll_yes {n : Nat} {MM : Nat → List (Int × ByteArray)} (h : M.collOk n MM = true) : M.coll n MM = M.flat MM n := if_pos h
theorem below_drewC {B : Nat} {a w : World} (h : Below B a w) (n : Nat) : Below B a (w.drewN n) := ⟨h.os, h.tape, h.output, h.size, h.block⟩
theorem held_one {w w' : World} {p : Addr} {v : Value} (h : w.cell? p = some v) (hb : Below w.heap.size w w') (hp : p.block < w.heap.size) : w'.cell? p = some v := (hb.cell (p := p) hp).trans h
end Go.Proofs.Ytihbpalhbbingaa
