/-
  A string of one byte, as a conversion makes it; strings of digits. 
-/
import Derived.Test.YtekfjheaffkakaaChecked
import Derived.Test.YtekfjheaffkakaaShow
import Derived.WalkKit
import Derived.Laws.IdiomStrings
import Derived.Test.YtekfjheaffkakaaMgR3
import Derived.Test.YtekfjheaffkakaaMgR13
import Derived.Test.YtekfjheaffkakaaMgR4
import Derived.Test.YtekfjheaffkakaaBatch
import Derived.Test.YtekfjheaffkakaaSample
namespace Go.Proofs.Ytekfjheaffkakaa
open Go.RowKit

theorem byte_string (w : World) (x : Int) (x0 : 0 ≤ x) (x1 : x ≤ 255) (T : TypeId) : (convert 22 9 (.slice (some ⟨w.heap.size, 0, none⟩) 1 1)).run Try.prog (w.alloc (.cells #[.int .u8 x] T)) = .ok (.string ⟨#[UInt8.ofNat x.toNat]⟩) (w.alloc (.cells #[.int .u8 x] T)) := by
  have hb : (UInt8.ofNat x.toNat).toNat = x.toNat := by
    rw [UInt8.toNat_ofNat']
    omega
  exact run_convert_bytes_back (P := Try.prog) (w.alloc (.cells #[.int .u8 x] T)) 22 9 5 ⟨w.heap.size, 0, none⟩ 1 [UInt8.ofNat x.toNat] Try.underlying22 Try.underlying5 Try.underlying9 (by
    intro j hj
    have hj0 : j = 0 := by simp at hj; omega
    subst hj0
    show (w.alloc (.cells #[.int .u8 x] T)).cell? ⟨w.heap.size, 0, none⟩ = _
    have hx : ((x.toNat : Nat) : Int) = x := by omega
    simp [hb, hx])
end Go.Proofs.Ytekfjheaffkakaa

/-
  All passes of a plan: the letters after each of them. No program is named here.
-/
namespace Go.Proofs.Ytekfjheaffkakaa

theorem flat_rest (key : Nat → Option Nat) (I : Nat → Int) (C : Nat → ByteArray) (N : Nat) : ∀ k, (∀ i, i < k → ∀ d, key i = some d → d < N) → (M.flat (M.binTo key I C k) N ++ M.restTo key I C k).Perm (M.lst I C k)
  | 0, _ => by rw [show M.binTo key I C 0 = fun _ => [] from rfl, flat_nil]; exact List.Perm.refl _
  | k + 1, h => by
    have ih := flat_rest key I C N k fun i hi => h i (by omega)
    rw [M.lst_succ]
    cases hk : key k with
    | none =>
      rw [M.binTo_none hk, M.restTo_none hk, ← List.append_assoc]
      exact ih.append_right _
    | some d =>
      rw [M.binTo_some hk, M.restTo_some hk]
      have h1 := (flat_upd (M.binTo key I C k) d (I k, C k) N (h k (by omega) d hk)).append_right (M.restTo key I C k)
      refine h1.trans ?_
      rw [List.append_assoc]
      refine (List.Perm.append_left _ List.perm_append_comm).trans ?_
      rw [← List.append_assoc]
      exact ih.append_right _
theorem BatchL.left {A R : List (Int × ByteArray)} (h : BatchL (A ++ R)) : BatchL A := by
  obtain ⟨h1, h2, h3⟩ := h
  refine ⟨fun x hx => h1 x (List.mem_append_left _ hx), ?_, by rw [List.length_append] at h3; omega⟩
  rw [List.map_append] at h2
  exact (List.pairwise_append.1 h2).1
theorem planKey_bd {b : Int} {n : Nat} {S C : Nat → ByteArray} {x k d : Nat} (hb : 2 ≤ b) (h : M.planKey b n S C x k = some d) : d < b.toNat := by
  by_cases h0 : M.rankTo S (C k) n < 0
  · rw [M.planKey_none h0] at h; cases h
  · rw [M.planKey_some (by omega)] at h
    have := M.rankBin_bd (b := b) (r := M.rankTo S (C k) n) (k := x) hb
    have e := Option.some.inj h
    omega
/-- The bins of a pass over a list of letters. -/
def stepB (b : Int) (n : Nat) (S : Nat → ByteArray) (L : List (Int × ByteArray)) (x : Nat) : Nat → List (Int × ByteArray) := M.binTo (M.planKey b n S (nC L) x) (nI L) (nC L) L.length
/-- The bins after the pass t. -/
def binsAt (b : Int) (n : Nat) (S : Nat → ByteArray) (m : Nat) (I : Nat → Int) (C : Nat → ByteArray) : Nat → Nat → List (Int × ByteArray)
  | 0 => M.binTo (M.planKey b n S C 0) I C m
  | t + 1 => stepB b n S (M.flat (binsAt b n S m I C t) b.toNat) (t + 1)
theorem bins_batch {b : Int} {n : Nat} {S : Nat → ByteArray} {m : Nat} {I : Nat → Int} {C : Nat → ByteArray} (hb : 2 ≤ b) (h : M.batch m I C = true) : ∀ t, BatchL (M.flat (binsAt b n S m I C t) b.toNat)
  | 0 => (((batchL_iff m I C).1 h).perm (flat_rest (M.planKey b n S C 0) I C b.toNat m fun _ _ _ hd => planKey_bd hb hd).symm).left
  | t + 1 => by
    have ih := bins_batch (n := n) (S := S) hb h t
    have := flat_rest (M.planKey b n S (nC (M.flat (binsAt b n S m I C t) b.toNat)) (t + 1)) (nI (M.flat (binsAt b n S m I C t) b.toNat)) (nC (M.flat (binsAt b n S m I C t) b.toNat)) b.toNat (M.flat (binsAt b n S m I C t) b.toNat).length fun _ _ _ hd => planKey_bd hb hd
    rw [lst_nI] at this
    exact (ih.perm this.symm).left
/-- There is a run: the plan and the batch are valid. -/
def runOk (b p : Int) (n : Nat) (S : Nat → ByteArray) (m : Nat) (I : Nat → Int) (C : Nat → ByteArray) : Bool := M.plan b p n S && M.batch m I C
def runList (b p : Int) (n : Nat) (S : Nat → ByteArray) (m : Nat) (I : Nat → Int) (C : Nat → ByteArray) : List (Int × ByteArray) := if runOk b p n S m I C = true then M.flat (binsAt b n S m I C (p.toNat - 1)) b.toNat else []
def runRest (b p : Int) (n : Nat) (S : Nat → ByteArray) (m : Nat) (I : Nat → Int) (C : Nat → ByteArray) : List (Int × ByteArray) := if runOk b p n S m I C = true then M.restTo (M.planKey b n S C 0) I C m else []
theorem runOk_yes {b p : Int} {n : Nat} {S : Nat → ByteArray} {m : Nat} {I : Nat → Int} {C : Nat → ByteArray} (h : runOk b p n S m I C = true) : M.plan b p n S = true ∧ M.batch m I C = true := (Bool.and_eq_true _ _).mp h
theorem run_len (b p : Int) (n : Nat) (S : Nat → ByteArray) (m : Nat) (I : Nat → Int) (C : Nat → ByteArray) : (runList b p n S m I C).length ≤ 60 ∧ (runRest b p n S m I C).length ≤ 60 := by
  unfold runList runRest
  by_cases h : runOk b p n S m I C = true
  · obtain ⟨hp, hb⟩ := runOk_yes h
    have hs := M.plan_shape hp
    rw [if_pos h, if_pos h]
    have := M.restTo_len (M.planKey b n S C 0) I C m
    have := (M.batch_yes hb).1
    exact ⟨(bins_batch (n := n) (S := S) hs.1 hb _).2.2, by omega⟩
  · rw [if_neg h, if_neg h]
    exact ⟨Nat.zero_le _, Nat.zero_le _⟩
end Go.Proofs.Ytekfjheaffkakaa

/-
  What FindLetter returns, in the program and in the model of the document.
-/
namespace Go.Proofs.Ytekfjheaffkakaa
open Go.RowKit
open Go.PlainAid (bt get_bt bt_nonneg bt_le)

end Go.Proofs.Ytekfjheaffkakaa

/-
  Which letters a sample has.
-/
namespace Go.Proofs.Ytekfjheaffkakaa
open Go.RowKit

theorem below_drewS {B : Nat} {a w : World} (h : Below B a w) (n : Nat) : Below B a (w.drewN n) := ⟨h.os, h.tape, h.output, h.size, h.block⟩
theorem M.smp_get (I : Nat → Int) (C : Nat → ByteArray) (k : Nat) : ∀ {t i : Nat}, i < t → nI (M.smp I C k t) i = I (i * k) ∧ nC (M.smp I C k t) i = C (i * k)
  | 0, _, h => absurd h (by omega)
  | t + 1, i, h => by
    have hl := M.smp_len I C k t
    have hlen : i < (M.smp I C k (t + 1)).length := by rw [M.smp_len]; exact h
    rw [nI_at hlen, nC_at hlen]
    by_cases e : i < t
    · have hi : i < (M.smp I C k t).length := by omega
      have h2 := M.smp_get I C k e
      rw [nI_at hi, nC_at hi] at h2
      have : (M.smp I C k (t + 1))[i] = (M.smp I C k t)[i] := by
        show (M.smp I C k t ++ [(I (t * k), C (t * k))])[i] = _
        exact List.getElem_append_left hi
      rw [this]
      exact h2
    · obtain rfl : i = t := by omega
      have : (M.smp I C k (i + 1))[i] = (I (i * k), C (i * k)) := by
        simp [M.smp_succ, hl]
      rw [this]
      exact ⟨rfl, rfl⟩
theorem M.smp_one (I : Nat → Int) (C : Nat → ByteArray) : ∀ n, M.smp I C 1 n = M.lst I C n
  | 0 => rfl
  | n + 1 => by rw [M.smp_succ, M.smp_one I C n, M.lst_succ, Nat.mul_one]
theorem M.smp_ix {n q t i : Nat} (hq : 0 < q) (ht : (n + q - 1) / q = t) (hi : i < t) : i * q < n := by
  have h1 : (i + 1) * q ≤ n + q - 1 := by
    have : i + 1 ≤ (n + q - 1) / q := by omega
    exact (Nat.le_div_iff_mul_le hq).1 this
  rw [Nat.succ_mul] at h1
  omega
end Go.Proofs.Ytekfjheaffkakaa
