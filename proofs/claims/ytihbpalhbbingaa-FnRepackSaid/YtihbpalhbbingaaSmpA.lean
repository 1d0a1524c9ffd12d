/-
  Every k-th letter: what SampleLetters returns, in the program and in the model of the document.
-/
import Derived.Test.YtihbpalhbbingaaPass
import Derived.Test.YtihbpalhbbingaaSo
import Derived.Test.YtihbpalhbbingaaMat
import Derived.Test.YtihbpalhbbingaaIntS
import Derived.Deep.RegionHeld3
import Derived.BigQuiet
namespace Go.Proofs.Ytihbpalhbbingaa
open Go.RowKit
open Go.PlainAid (bt get_bt bt_nonneg bt_le)

/-- The letters with the indices 0, k, .. (t of them). -/
def M.smp (I : Nat → Int) (C : Nat → ByteArray) (k : Nat) : Nat → List (Int × ByteArray)
  | 0 => []
  | t + 1 => M.smp I C k t ++ [(I (t * k), C (t * k))]
theorem M.smp_succ (I : Nat → Int) (C : Nat → ByteArray) (k t : Nat) : M.smp I C k (t + 1) = M.smp I C k t ++ [(I (t * k), C (t * k))] := rfl
theorem M.smp_len (I : Nat → Int) (C : Nat → ByteArray) (k : Nat) : ∀ t, (M.smp I C k t).length = t
  | 0 => rfl
  | t + 1 => by rw [M.smp_succ, List.length_append, M.smp_len I C k t]; rfl
def M.smpOk (n : Nat) (I : Nat → Int) (C : Nat → ByteArray) (x : Int) : Bool := M.batch n I C && decide (1 ≤ x ∧ x ≤ 60)
def M.smpL (n : Nat) (I : Nat → Int) (C : Nat → ByteArray) (x : Int) : List (Int × ByteArray) := if M.smpOk n I C x = true then M.smp I C x.toNat ((n + x.toNat - 1) / x.toNat) else []
theorem M.smp_end {n k t : Nat} (hk : 1 ≤ k) (h1 : n ≤ t * k) (h2 : t = 0 ∨ (t - 1) * k < n) : t = (n + k - 1) / k := by
  symm
  apply Nat.div_eq_of_lt_le
  · rcases h2 with rfl | h2
    · omega
    · cases t with
      | zero => omega
      | succ t =>
        rw [Nat.add_sub_cancel] at h2
        rw [Nat.succ_mul]
        omega
  · rw [Nat.succ_mul]
    omega
theorem M.smpL_le {n : Nat} {I : Nat → Int} {C : Nat → ByteArray} {x : Int} : (M.smpL n I C x).length ≤ 1048576 := by
  unfold M.smpL
  by_cases h : M.smpOk n I C x = true
  · rw [if_pos h, M.smp_len]
    unfold M.smpOk at h
    rw [Bool.and_eq_true] at h
    have h1 := (M.batch_yes h.1).1
    have h2 := of_decide_eq_true h.2
    exact Nat.le_trans (Nat.div_le_self _ _) (by omega)
  · rw [if_neg h]; exact Nat.zero_le _
theorem M.smp_no {n : Nat} {I : Nat → Int} {C : Nat → ByteArray} {x : Int} (h : M.batch n I C = false ∨ x < 1 ∨ 60 < x) : M.smpOk n I C x = false ∧ M.smpL n I C x = [] := by
  have e : M.smpOk n I C x = false := by
    unfold M.smpOk
    rcases h with h | h
    · rw [h]; rfl
    · rw [decide_eq_false (show ¬ (1 ≤ x ∧ x ≤ 60) by omega), Bool.and_false]
  refine ⟨e, ?_⟩
  unfold M.smpL
  rw [if_neg (by rw [e]; decide)]
theorem M.smp_yes {n : Nat} {I : Nat → Int} {C : Nat → ByteArray} {x : Int} (h : M.batch n I C = true) (h1 : 1 ≤ x) (h2 : x ≤ 60) : M.smpOk n I C x = true ∧ M.smpL n I C x = M.smp I C x.toNat ((n + x.toNat - 1) / x.toNat) := by
  have e : M.smpOk n I C x = true := by
    unfold M.smpOk
    rw [h, decide_eq_true (show 1 ≤ x ∧ x ≤ 60 from ⟨h1, h2⟩)]; rfl
  refine ⟨e, ?_⟩
  unfold M.smpL
  rw [if_pos e]

end Go.Proofs.Ytihbpalhbbingaa

/-
  Which letters a sample has.
-/
namespace Go.Proofs.Ytihbpalhbbingaa
open Go.RowKit

theorem below_drewS {B : Nat} {a w : World} (h : Below B a w) (n : Nat) : Below B a (w.drewN n) := ⟨h.os, h.tape, h.output, h.size, h.block⟩
theorem M.smp_get (I : Nat → Int) (C : Nat → ByteArray) (k : Nat) : ∀ {t i : Nat}, i < t → nI (M.smp I C k t) i = I (i * k) ∧ nC (M.smp I C k t) i = C (i * k)
  | 0, _, h => absurd h (by omega)
  | t + 1, i, h => by
    have hl := M.smp_len I C k t
    have hlen : i < (M.smp I C k (t + 1)).length := by rw [M.smp_len]; exact h
    rw [nI_at hlen, nC_at hlen]
    by_cases e : i < t
    · have hi : i < (M.smp I C k t).length := by omega
      have h2 := M.smp_get I C k e
      rw [nI_at hi, nC_at hi] at h2
      have : (M.smp I C k (t + 1))[i] = (M.smp I C k t)[i] := by
        show (M.smp I C k t ++ [(I (t * k), C (t * k))])[i] = _
        exact List.getElem_append_left hi
      rw [this]
      exact h2
    · obtain rfl : i = t := by omega
      have : (M.smp I C k (i + 1))[i] = (I (i * k), C (i * k)) := by
        simp [M.smp_succ, hl]
      rw [this]
      exact ⟨rfl, rfl⟩
theorem M.smp_one (I : Nat → Int) (C : Nat → ByteArray) : ∀ n, M.smp I C 1 n = M.lst I C n
  | 0 => rfl
  | n + 1 => by rw [M.smp_succ, M.smp_one I C n, M.lst_succ, Nat.mul_one]
theorem M.smp_ix {n q t i : Nat} (hq : 0 < q) (ht : (n + q - 1) / q = t) (hi : i < t) : i * q < n := by
  have h1 : (i + 1) * q ≤ n + q - 1 := by
    have : i + 1 ≤ (n + q - 1) / q := by omega
    exact (Nat.le_div_iff_mul_le hq).1 this
  rw [Nat.succ_mul] at h1
  omega
end Go.Proofs.Ytihbpalhbbingaa

/-
  Whether two lists of bins are equal, and two lists of numbers; whether a list has a number.
-/
namespace Go.Proofs.Ytihbpalhbbingaa
open Go.RowKit
set_option linter.unusedVariables false

set_option maxHeartbeats 1000000 in
set_option maxRecDepth 100000 in
theorem soBins_mat (w : World) (b1 b2 : Nat) (v v' : Value) (N : Nat) (V V' : Nat → Value) (MM : Nat → List (Int × ByteArray)) (h : Mat w b1 v N V MM) (h' : Mat w b2 v' N V' MM) (hN : N ≤ 1048576) (hl : ∀ i, i < N → (MM i).length ≤ 1048576) :
    Calls Try.prog 24 #[v, v'] w fun e w' => e = .returned (.bool true) ∧ Below w.heap.size w w' := by
  obtain ⟨u, c, hv⟩ : ∃ u c, v = .slice u N c := by
    rcases h.form with ⟨rfl, rfl⟩ | ⟨g, c, rfl, _⟩
    · exact ⟨_, _, rfl⟩
    · exact ⟨_, _, rfl⟩
  obtain ⟨u', c', hv'⟩ : ∃ u c, v' = .slice u N c := by
    rcases h'.form with ⟨rfl, rfl⟩ | ⟨g, c, rfl, _⟩
    · exact ⟨_, _, rfl⟩
    · exact ⟨_, _, rfl⟩
  subst hv hv'
  have HM := Lib.hid h
  have HM' := Lib.hid h'
  have HL := Lib.hid hl
  clear h h' hl
  go_enter Try.func24, Try.ntmps24
  go_wp2
  go_loopw [5] (fun i wr => ∃ k : Nat, k ≤ N ∧ i = .int .i64 k ∧ Hid (Below w.heap.size w wr)) (fun i _ => N - (intOf i).toNat)
  case atStart => exact ⟨0, Nat.zero_le _, rfl, Below.refl _ _⟩
  case round =>
    obtain ⟨k, hk, rfl, hb⟩ := hrel
    by_cases hlt : k < N
    · have hki : (k : Int) < (N : Int) := by omega
      have hk0 : (0 : Int) ≤ (k : Int) := by omega
      have hm := HM.out.on hb.out
      have hm' := HM'.out.on hb.out
      obtain ⟨g, q, hg, c0, _⟩ := hm.cell hlt
      obtain ⟨g', q', hg', c0', _⟩ := hm'.cell hlt
      have hr := Lib.hid (hm.2.1 k hlt)
      have hr' := Lib.hid (hm'.2.1 k hlt)
      have hlk := HL.out k hlt
      generalize V k = vk at c0 hr
      generalize V' k = vk' at c0' hr'
      injection hg with hg1 hg2 hg3
      injection hg' with hg1' hg2' hg3'
      subst hg1 hg1'
      have lg := World.block_lt_of_cell? _ _ c0
      have lg' := World.block_lt_of_cell? _ _ c0'
      have s0 : wr.cell? ⟨g, k, none⟩ = some vk ∧ wr.cell? ⟨g', k, none⟩ = some vk' := ⟨c0, c0'⟩
      clear hm hm' hg2 hg3 hg2' hg3'
      go_wp2_with fail
      go_region_held3 (fun w' => w'.cell? ⟨g, k, none⟩ = some vk ∧ w'.cell? ⟨g', k, none⟩ = some vk') (first | exact s0 | exact s1) (first
        | (go_at_call 10; refine (soBatch_row _ b1 b2 vk vk' _ (hr.out.on (by go_grown)) (hr'.out.on (by go_grown)) hlk).mono ?_; rintro e w1 ⟨rfl, k1⟩; have K1 : Below wr.heap.size wr w1 := (by exact sstep (by go_grown) k1); have s1 : w1.cell? ⟨g, k, none⟩ = some vk ∧ w1.cell? ⟨g', k, none⟩ = some vk' := ⟨(K1.cell (p := ⟨g, k, none⟩) lg).trans c0, (K1.cell (p := ⟨g', k, none⟩) lg').trans c0'⟩))
      all_goals
        have B1 := Lib.hid (hb.out.trans (K1.mono hb.out.size))
        clear k1 K1 s0 s1 c0 c0'
        go_wp2
        go_roundw
        case rel => exact ⟨k + 1, by omega, by go_num, by first | exact B1.out | exact below_drewS B1.out _⟩
        case measure => simp [intOf]; omega
    · obtain rfl : k = N := by omega
      go_wp2
      go_ret
      exact ⟨rfl, hb.out⟩
/-- Numbers in a slice of a call's own. -/
theorem IRow.cells {w : World} {base : Nat} {v : Value} {L : List Int} (h : IRow w base v L) : ∃ a c, v = .slice a L.length c ∧ ∀ i (hi : i < L.length), ∃ g, a = some ⟨g, 0, none⟩ ∧ w.cell? ⟨g, i, none⟩ = some (.int .i64 L[i]) := by
  have h2 := h
  rcases h.2 with ⟨rfl, hn⟩ | ⟨g, cap, cur, rfl, _, _, hc, _, _, _⟩
  · exact ⟨none, 0, by rw [hn], fun i hi => absurd hi (by omega)⟩
  · exact ⟨_, _, rfl, fun i hi => ⟨g, rfl, by rw [World.ownsRow.cellAt h2 i (by omega)]; simp [icells, hi]⟩⟩
end Go.Proofs.Ytihbpalhbbingaa
