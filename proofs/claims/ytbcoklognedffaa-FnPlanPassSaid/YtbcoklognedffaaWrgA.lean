/-
  Which letters a sample has.
-/
import Derived.Test.YtbcoklognedffaaSample
import Derived.Test.YtbcoklognedffaaSoA
import Derived.Test.YtbcoklognedffaaMat
import Derived.Test.YtbcoklognedffaaIntS
import Derived.Deep.RegionHeld3
import Derived.BigQuiet
namespace Go.Proofs.Ytbcoklognedffaa
open Go.RowKit

theorem below_drewS {B : Nat} {a w : World} (h : Below B a w) (n : Nat) : Below B a (w.drewN n) := ⟨h.os, h.tape, h.output, h.size, h.block⟩
theorem M.smp_get (I : Nat → Int) (C : Nat → ByteArray) (k : Nat) : ∀ {t i : Nat}, i < t → nI (M.smp I C k t) i = I (i * k) ∧ nC (M.smp I C k t) i = C (i * k)
  | 0, _, h => absurd h (by omega)
  | t + 1, i, h => by
    have hl := M.smp_len I C k t
    have hlen : i < (M.smp I C k (t + 1)).length := by rw [M.smp_len]; exact h
    rw [nI_at hlen, nC_at hlen]
    by_cases e : i < t
    · have hi : i < (M.smp I C k t).length := by omega
      have h2 := M.smp_get I C k e
      rw [nI_at hi, nC_at hi] at h2
      have : (M.smp I C k (t + 1))[i] = (M.smp I C k t)[i] := by
        show (M.smp I C k t ++ [(I (t * k), C (t * k))])[i] = _
        exact List.getElem_append_left hi
      rw [this]
      exact h2
    · obtain rfl : i = t := by omega
      have : (M.smp I C k (i + 1))[i] = (I (i * k), C (i * k)) := by
        simp [M.smp_succ, hl]
      rw [this]
      exact ⟨rfl, rfl⟩
theorem M.smp_one (I : Nat → Int) (C : Nat → ByteArray) : ∀ n, M.smp I C 1 n = M.lst I C n
  | 0 => rfl
  | n + 1 => by rw [M.smp_succ, M.smp_one I C n, M.lst_succ, Nat.mul_one]
theorem M.smp_ix {n q t i : Nat} (hq : 0 < q) (ht : (n + q - 1) / q = t) (hi : i < t) : i * q < n := by
  have h1 : (i + 1) * q ≤ n + q - 1 := by
    have : i + 1 ≤ (n + q - 1) / q := by omega
    exact (Nat.le_div_iff_mul_le hq).1 this
  rw [Nat.succ_mul] at h1
  omega
end Go.Proofs.Ytbcoklognedffaa

/-
  Whether two lists of bins are equal, and two lists of numbers; whether a list has a number.
-/
namespace Go.Proofs.Ytbcoklognedffaa
open Go.RowKit
set_option linter.unusedVariables false

set_option maxHeartbeats 1000000 in
set_option maxRecDepth 100000 in
theorem soBins_mat (w : World) (b1 b2 : Nat) (v v' : Value) (N : Nat) (V V' : Nat → Value) (MM : Nat → List (Int × ByteArray)) (h : Mat w b1 v N V MM) (h' : Mat w b2 v' N V' MM) (hN : N ≤ 1048576) (hl : ∀ i, i < N → (MM i).length ≤ 1048576) :
    Calls Try.prog 14 #[v, v'] w fun e w' => e = .returned (.bool true) ∧ Below w.heap.size w w' := by
  obtain ⟨u, c, hv⟩ : ∃ u c, v = .slice u N c := by
    rcases h.form with ⟨rfl, rfl⟩ | ⟨g, c, rfl, _⟩
    · exact ⟨_, _, rfl⟩
    · exact ⟨_, _, rfl⟩
  obtain ⟨u', c', hv'⟩ : ∃ u c, v' = .slice u N c := by
    rcases h'.form with ⟨rfl, rfl⟩ | ⟨g, c, rfl, _⟩
    · exact ⟨_, _, rfl⟩
    · exact ⟨_, _, rfl⟩
  subst hv hv'
  have HM := Lib.hid h
  have HM' := Lib.hid h'
  have HL := Lib.hid hl
  clear h h' hl
  go_enter Try.func14, Try.ntmps14
  go_wp2
  go_loopw [5] (fun i wr => ∃ k : Nat, k ≤ N ∧ i = .int .i64 k ∧ Hid (Below w.heap.size w wr)) (fun i _ => N - (intOf i).toNat)
  case atStart => exact ⟨0, Nat.zero_le _, rfl, Below.refl _ _⟩
  case round =>
    obtain ⟨k, hk, rfl, hb⟩ := hrel
    by_cases hlt : k < N
    · have hki : (k : Int) < (N : Int) := by omega
      have hk0 : (0 : Int) ≤ (k : Int) := by omega
      have hm := HM.out.on hb.out
      have hm' := HM'.out.on hb.out
      obtain ⟨g, q, hg, c0, _⟩ := hm.cell hlt
      obtain ⟨g', q', hg', c0', _⟩ := hm'.cell hlt
      have hr := Lib.hid (hm.2.1 k hlt)
      have hr' := Lib.hid (hm'.2.1 k hlt)
      have hlk := HL.out k hlt
      generalize V k = vk at c0 hr
      generalize V' k = vk' at c0' hr'
      injection hg with hg1 hg2 hg3
      injection hg' with hg1' hg2' hg3'
      subst hg1 hg1'
      have lg := World.block_lt_of_cell? _ _ c0
      have lg' := World.block_lt_of_cell? _ _ c0'
      have s0 : wr.cell? ⟨g, k, none⟩ = some vk ∧ wr.cell? ⟨g', k, none⟩ = some vk' := ⟨c0, c0'⟩
      clear hm hm' hg2 hg3 hg2' hg3'
      go_wp2_with fail
      go_region_held3 (fun w' => w'.cell? ⟨g, k, none⟩ = some vk ∧ w'.cell? ⟨g', k, none⟩ = some vk') (first | exact s0 | exact s1) (first
        | (go_at_call 15; refine (soBatch_row _ b1 b2 vk vk' _ (hr.out.on (by go_grown)) (hr'.out.on (by go_grown)) hlk).mono ?_; rintro e w1 ⟨rfl, k1⟩; have K1 : Below wr.heap.size wr w1 := (by exact sstep (by go_grown) k1); have s1 : w1.cell? ⟨g, k, none⟩ = some vk ∧ w1.cell? ⟨g', k, none⟩ = some vk' := ⟨(K1.cell (p := ⟨g, k, none⟩) lg).trans c0, (K1.cell (p := ⟨g', k, none⟩) lg').trans c0'⟩))
      all_goals
        have B1 := Lib.hid (hb.out.trans (K1.mono hb.out.size))
        clear k1 K1 s0 s1 c0 c0'
        go_wp2
        go_roundw
        case rel => exact ⟨k + 1, by omega, by go_num, by first | exact B1.out | exact below_drewS B1.out _⟩
        case measure => simp [intOf]; omega
    · obtain rfl : k = N := by omega
      go_wp2
      go_ret
      exact ⟨rfl, hb.out⟩
/-- Numbers in a slice of a call's own. -/
theorem IRow.cells {w : World} {base : Nat} {v : Value} {L : List Int} (h : IRow w base v L) : ∃ a c, v = .slice a L.length c ∧ ∀ i (hi : i < L.length), ∃ g, a = some ⟨g, 0, none⟩ ∧ w.cell? ⟨g, i, none⟩ = some (.int .i64 L[i]) := by
  have h2 := h
  rcases h.2 with ⟨rfl, hn⟩ | ⟨g, cap, cur, rfl, _, _, hc, _, _, _⟩
  · exact ⟨none, 0, by rw [hn], fun i hi => absurd hi (by omega)⟩
  · exact ⟨_, _, rfl, fun i hi => ⟨g, rfl, by rw [World.ownsRow.cellAt h2 i (by omega)]; simp [icells, hi]⟩⟩
set_option maxHeartbeats 1000000 in
theorem soInts_same (w : World) (b1 b2 : Nat) (v v' : Value) (L : List Int) (h : IRow w b1 v L) (h' : IRow w b2 v' L) (hn : L.length ≤ 1048576) :
    Calls Try.prog 38 #[v, v'] w fun e w' => e = .returned (.bool true) ∧ Below w.heap.size w w' := by
  obtain ⟨a, c, rfl, hc⟩ := h.cells
  obtain ⟨a', c', rfl, hc'⟩ := h'.cells
  obtain ⟨n, hln⟩ : ∃ n, L.length = n := ⟨_, rfl⟩
  have HN := Lib.hid hln
  have HR := Lib.hid h
  have HR' := Lib.hid h'
  rw [hln] at hn ⊢
  clear h h' hc hc' hln
  go_enter Try.func38, Try.ntmps38
  go_wp2
  go_loopw [5] (fun i wr => ∃ k : Nat, k ≤ n ∧ i = .int .i64 k ∧ Hid (Below w.heap.size w wr)) (fun i _ => n - (intOf i).toNat)
  case atStart => exact ⟨0, Nat.zero_le _, rfl, Below.refl _ _⟩
  case round =>
    obtain ⟨k, hk, rfl, hb⟩ := hrel
    by_cases hlt : k < n
    · have hki : (k : Int) < (n : Int) := by omega
      have hk0 : (0 : Int) ≤ (k : Int) := by omega
      obtain ⟨a1, c1, e1, q1⟩ := (HR.out.on hb.out).cells
      obtain ⟨a2, c2, e2, q2⟩ := (HR'.out.on hb.out).cells
      injection e1 with e11 e12 e13
      injection e2 with e21 e22 e23
      subst e11 e21
      obtain ⟨g, rfl, p1⟩ := q1 k (by rw [HN.out]; exact hlt)
      obtain ⟨g', rfl, p2⟩ := q2 k (by rw [HN.out]; exact hlt)
      generalize L[k]'(by rw [HN.out]; exact hlt) = y at p1 p2
      have hy : (y != y) = false := by simp
      clear q1 q2 e12 e13 e22 e23
      go_wp2
      go_quiet (fail)
      go_wp2
      go_roundw
      case rel => exact ⟨k + 1, by omega, by go_num, below_drewS hb.out _⟩
      case measure => simp [intOf]; omega
    · obtain rfl : k = n := by omega
      go_wp2
      go_ret
      exact ⟨rfl, hb.out⟩
end Go.Proofs.Ytbcoklognedffaa
