/-
  Whether two lists of bins are equal, and two lists of numbers; whether a list has a number.
-/
import Derived.Test.YtobmenbhbeflhaaMgF4
import Derived.Test.YtobmenbhbeflhaaMat
import Derived.Test.YtobmenbhbeflhaaIntS
import Derived.Deep.RegionHeld3
import Derived.BigQuiet
namespace Go.Proofs.Ytobmenbhbeflhaa
open Go.RowKit
set_option linter.unusedVariables false

set_option maxHeartbeats 1000000 in
set_option maxRecDepth 100000 in
theorem soBins_mat (w : World) (b1 b2 : Nat) (v v' : Value) (N : Nat) (V V' : Nat → Value) (MM : Nat → List (Int × ByteArray)) (h : Mat w b1 v N V MM) (h' : Mat w b2 v' N V' MM) (hN : N ≤ 1048576) (hl : ∀ i, i < N → (MM i).length ≤ 1048576) :
    Calls Try.prog 8 #[v, v'] w fun e w' => e = .returned (.bool true) ∧ Below w.heap.size w w' := by
  obtain ⟨u, c, hv⟩ : ∃ u c, v = .slice u N c := by
    rcases h.form with ⟨rfl, rfl⟩ | ⟨g, c, rfl, _⟩
    · exact ⟨_, _, rfl⟩
    · exact ⟨_, _, rfl⟩
  obtain ⟨u', c', hv'⟩ : ∃ u c, v' = .slice u N c := by
    rcases h'.form with ⟨rfl, rfl⟩ | ⟨g, c, rfl, _⟩
    · exact ⟨_, _, rfl⟩
    · exact ⟨_, _, rfl⟩
  subst hv hv'
  have HM := Lib.hid h
  have HM' := Lib.hid h'
  have HL := Lib.hid hl
  clear h h' hl
  go_enter Try.func8, Try.ntmps8
  go_wp2
  go_loopw [5] (fun i wr => ∃ k : Nat, k ≤ N ∧ i = .int .i64 k ∧ Hid (Below w.heap.size w wr)) (fun i _ => N - (intOf i).toNat)
  case atStart => exact ⟨0, Nat.zero_le _, rfl, Below.refl _ _⟩
  case round =>
    obtain ⟨k, hk, rfl, hb⟩ := hrel
    by_cases hlt : k < N
    · have hki : (k : Int) < (N : Int) := by omega
      have hk0 : (0 : Int) ≤ (k : Int) := by omega
      have hm := HM.out.on hb.out
      have hm' := HM'.out.on hb.out
      obtain ⟨g, q, hg, c0, _⟩ := hm.cell hlt
      obtain ⟨g', q', hg', c0', _⟩ := hm'.cell hlt
      have hr := Lib.hid (hm.2.1 k hlt)
      have hr' := Lib.hid (hm'.2.1 k hlt)
      have hlk := HL.out k hlt
      generalize V k = vk at c0 hr
      generalize V' k = vk' at c0' hr'
      injection hg with hg1 hg2 hg3
      injection hg' with hg1' hg2' hg3'
      subst hg1 hg1'
      have lg := World.block_lt_of_cell? _ _ c0
      have lg' := World.block_lt_of_cell? _ _ c0'
      have s0 : wr.cell? ⟨g, k, none⟩ = some vk ∧ wr.cell? ⟨g', k, none⟩ = some vk' := ⟨c0, c0'⟩
      clear hm hm' hg2 hg3 hg2' hg3'
      go_wp2_with fail
      go_region_held3 (fun w' => w'.cell? ⟨g, k, none⟩ = some vk ∧ w'.cell? ⟨g', k, none⟩ = some vk') (first | exact s0 | exact s1) (first
        | (go_at_call 9; refine (soBatch_row _ b1 b2 vk vk' _ (hr.out.on (by go_grown)) (hr'.out.on (by go_grown)) hlk).mono ?_; rintro e w1 ⟨rfl, k1⟩; have K1 : Below wr.heap.size wr w1 := (by exact sstep (by go_grown) k1); have s1 : w1.cell? ⟨g, k, none⟩ = some vk ∧ w1.cell? ⟨g', k, none⟩ = some vk' := ⟨(K1.cell (p := ⟨g, k, none⟩) lg).trans c0, (K1.cell (p := ⟨g', k, none⟩) lg').trans c0'⟩))
      all_goals
        have B1 := Lib.hid (hb.out.trans (K1.mono hb.out.size))
        clear k1 K1 s0 s1 c0 c0'
        go_wp2
        go_roundw
        case rel => exact ⟨k + 1, by omega, by go_num, by first | exact B1.out | exact below_drewS B1.out _⟩
        case measure => simp [intOf]; omega
    · obtain rfl : k = N := by omega
      go_wp2
      go_ret
      exact ⟨rfl, hb.out⟩
/-- Numbers in a slice of a call's own. -/
theorem IRow.cells {w : World} {base : Nat} {v : Value} {L : List Int} (h : IRow w base v L) : ∃ a c, v = .slice a L.length c ∧ ∀ i (hi : i < L.length), ∃ g, a = some ⟨g, 0, none⟩ ∧ w.cell? ⟨g, i, none⟩ = some (.int .i64 L[i]) := by
  have h2 := h
  rcases h.2 with ⟨rfl, hn⟩ | ⟨g, cap, cur, rfl, _, _, hc, _, _, _⟩
  · exact ⟨none, 0, by rw [hn], fun i hi => absurd hi (by omega)⟩
  · exact ⟨_, _, rfl, fun i hi => ⟨g, rfl, by rw [World.ownsRow.cellAt h2 i (by omega)]; simp [icells, hi]⟩⟩
end Go.Proofs.Ytobmenbhbeflhaa
