/-
  All passes of a plan: the letters after each of them. No program is named here.
-/
import Derived.Test.YthnaglnmmgpiaaaMgN5
import Derived.Test.YthnaglnmmgpiaaaMgN3
import Derived.Test.YthnaglnmmgpiaaaMgN11
import Derived.Test.YthnaglnmmgpiaaaTry2
import Derived.Test.YthnaglnmmgpiaaaMgN4
namespace Go.Proofs.Ythnaglnmmgpiaaa

theorem flat_rest (key : Nat → Option Nat) (I : Nat → Int) (C : Nat → ByteArray) (N : Nat) : ∀ k, (∀ i, i < k → ∀ d, key i = some d → d < N) → (M.flat (M.binTo key I C k) N ++ M.restTo key I C k).Perm (M.lst I C k)
  | 0, _ => by rw [show M.binTo key I C 0 = fun _ => [] from rfl, flat_nil]; exact List.Perm.refl _
  | k + 1, h => by
    have ih := flat_rest key I C N k fun i hi => h i (by omega)
    rw [M.lst_succ]
    cases hk : key k with
    | none =>
      rw [M.binTo_none hk, M.restTo_none hk, ← List.append_assoc]
      exact ih.append_right _
    | some d =>
      rw [M.binTo_some hk, M.restTo_some hk]
      have h1 := (flat_upd (M.binTo key I C k) d (I k, C k) N (h k (by omega) d hk)).append_right (M.restTo key I C k)
      refine h1.trans ?_
      rw [List.append_assoc]
      refine (List.Perm.append_left _ List.perm_append_comm).trans ?_
      rw [← List.append_assoc]
      exact ih.append_right _
theorem BatchL.left {A R : List (Int × ByteArray)} (h : BatchL (A ++ R)) : BatchL A := by
  obtain ⟨h1, h2, h3⟩ := h
  refine ⟨fun x hx => h1 x (List.mem_append_left _ hx), ?_, by rw [List.length_append] at h3; omega⟩
  rw [List.map_append] at h2
  exact (List.pairwise_append.1 h2).1
theorem planKey_bd {b : Int} {n : Nat} {S C : Nat → ByteArray} {x k d : Nat} (hb : 2 ≤ b) (h : M.planKey b n S C x k = some d) : d < b.toNat := by
  by_cases h0 : M.rankTo S (C k) n < 0
  · rw [M.planKey_none h0] at h; cases h
  · rw [M.planKey_some (by omega)] at h
    have := M.rankBin_bd (b := b) (r := M.rankTo S (C k) n) (k := x) hb
    have e := Option.some.inj h
    omega
/-- The bins of a pass over a list of letters. -/
def stepB (b : Int) (n : Nat) (S : Nat → ByteArray) (L : List (Int × ByteArray)) (x : Nat) : Nat → List (Int × ByteArray) := M.binTo (M.planKey b n S (nC L) x) (nI L) (nC L) L.length
/-- The bins after the pass t. -/
def binsAt (b : Int) (n : Nat) (S : Nat → ByteArray) (m : Nat) (I : Nat → Int) (C : Nat → ByteArray) : Nat → Nat → List (Int × ByteArray)
  | 0 => M.binTo (M.planKey b n S C 0) I C m
  | t + 1 => stepB b n S (M.flat (binsAt b n S m I C t) b.toNat) (t + 1)
theorem bins_batch {b : Int} {n : Nat} {S : Nat → ByteArray} {m : Nat} {I : Nat → Int} {C : Nat → ByteArray} (hb : 2 ≤ b) (h : M.batch m I C = true) : ∀ t, BatchL (M.flat (binsAt b n S m I C t) b.toNat)
  | 0 => (((batchL_iff m I C).1 h).perm (flat_rest (M.planKey b n S C 0) I C b.toNat m fun _ _ _ hd => planKey_bd hb hd).symm).left
  | t + 1 => by
    have ih := bins_batch (n := n) (S := S) hb h t
    have := flat_rest (M.planKey b n S (nC (M.flat (binsAt b n S m I C t) b.toNat)) (t + 1)) (nI (M.flat (binsAt b n S m I C t) b.toNat)) (nC (M.flat (binsAt b n S m I C t) b.toNat)) b.toNat (M.flat (binsAt b n S m I C t) b.toNat).length fun _ _ _ hd => planKey_bd hb hd
    rw [lst_nI] at this
    exact (ih.perm this.symm).left
/-- There is a run: the plan and the batch are valid. -/
def runOk (b p : Int) (n : Nat) (S : Nat → ByteArray) (m : Nat) (I : Nat → Int) (C : Nat → ByteArray) : Bool := M.plan b p n S && M.batch m I C
def runList (b p : Int) (n : Nat) (S : Nat → ByteArray) (m : Nat) (I : Nat → Int) (C : Nat → ByteArray) : List (Int × ByteArray) := if runOk b p n S m I C = true then M.flat (binsAt b n S m I C (p.toNat - 1)) b.toNat else []
def runRest (b p : Int) (n : Nat) (S : Nat → ByteArray) (m : Nat) (I : Nat → Int) (C : Nat → ByteArray) : List (Int × ByteArray) := if runOk b p n S m I C = true then M.restTo (M.planKey b n S C 0) I C m else []
theorem runOk_yes {b p : Int} {n : Nat} {S : Nat → ByteArray} {m : Nat} {I : Nat → Int} {C : Nat → ByteArray} (h : runOk b p n S m I C = true) : M.plan b p n S = true ∧ M.batch m I C = true := (Bool.and_eq_true _ _).mp h
theorem run_len (b p : Int) (n : Nat) (S : Nat → ByteArray) (m : Nat) (I : Nat → Int) (C : Nat → ByteArray) : (runList b p n S m I C).length ≤ 60 ∧ (runRest b p n S m I C).length ≤ 60 := by
  unfold runList runRest
  by_cases h : runOk b p n S m I C = true
  · obtain ⟨hp, hb⟩ := runOk_yes h
    have hs := M.plan_shape hp
    rw [if_pos h, if_pos h]
    have := M.restTo_len (M.planKey b n S C 0) I C m
    have := (M.batch_yes hb).1
    exact ⟨(bins_batch (n := n) (S := S) hs.1 hb _).2.2, by omega⟩
  · rw [if_neg h, if_neg h]
    exact ⟨Nat.zero_le _, Nat.zero_le _⟩
end Go.Proofs.Ythnaglnmmgpiaaa

/-
  Letters turned round: what the laws' soTurned returns; and the label of letters that are turned.
-/
namespace Go.Proofs.Ythnaglnmmgpiaaa
open Go.RowKit
set_option linter.unusedVariables false

theorem drop_rev {T : Type} (L : List T) (j : Nat) (h : j < L.length) : (L.drop j).reverse = (L.drop (j + 1)).reverse ++ [L[j]] := by
  rw [List.drop_eq_getElem_cons h, List.reverse_cons]
theorem row_empty (w : World) : Row (w.alloc (.cells #[] 32)) w.heap.size (.slice (some ⟨w.heap.size, 0, none⟩) 0 0) [] := by
  unfold Row
  exact ⟨rfl, Or.inr ⟨w.heap.size, 0, #[], rfl, Nat.le_refl _, (show (w.heap.push (.cells #[] 32))[w.heap.size]? = some (.cells #[] 32) by simp), Nat.le_refl _, by unfold maxLen; omega, by simp, by simp [lcells]⟩⟩
/-- The label of letters that are turned. -/
theorem label_turned {n : Nat} {I : Nat → Int} {C : Nat → ByteArray} (h : M.batch n I C = true) (h0 : 0 < n) : label (M.lst I C n).reverse.length (nI (M.lst I C n).reverse) (nC (M.lst I C n).reverse) = C (n - 1) ++ ⟨#[45]⟩ ++ C 0 := by
  have hb := (batchL_list _).2 (((batchL_iff n I C).1 h).perm (List.reverse_perm _).symm)
  have hl : (M.lst I C n).reverse.length = n := by rw [List.length_reverse, lst_len]
  rw [label_yes hb (by omega)]
  have e : ∀ i (hi : i < n), nC (M.lst I C n).reverse i = C (n - 1 - i) := fun i hi => by
    rw [nC_at (by omega), List.getElem_reverse, lst_get, lst_len]
  rw [e 0 h0, hl, e (n - 1) (by omega)]
  rw [Nat.sub_zero, Nat.sub_self]
theorem fits_turned {n : Nat} {I : Nat → Int} {C : Nat → ByteArray} (h : Fits n I C) : Fits (M.lst I C n).reverse.length (nI (M.lst I C n).reverse) (nC (M.lst I C n).reverse) := fun i hi => by
  have hl : (M.lst I C n).reverse.length = n := by rw [List.length_reverse, lst_len]
  rw [nI_at hi, nC_at hi, List.getElem_reverse, lst_get]
  rw [hl] at hi
  exact h _ (by rw [lst_len]; omega)
/-- Letters that the call has made. -/
def LetsOut (w : World) (L : List (Int × ByteArray)) (e : Ending) (w' : World) : Prop := ∃ v, e = .returned v ∧ Row w' w.heap.size v L ∧ Below w.heap.size w w'
set_option maxHeartbeats 1000000 in
theorem soTurned_any (w : World) (a : Option Addr) (n c : Nat) (I : Nat → Int) (C : Nat → ByteArray) (h : Lts w a n I C) (hn : n ≤ 61) :
    Calls Try.prog 12 #[.slice a n c] w (LetsOut w (M.lst I C n).reverse) := by
  have HL := Lib.hid h
  clear h
  have hlen := lst_len I C n
  have s0 : IntKind.i64.wrap ((n : Int) - 1) = (n : Int) - 1 := IntWalk.i64_in _ (by omega)
  go_enter Try.func12, Try.ntmps12
  go_wp2
  go_loopw [3, 4] (fun v i wr => ∃ j : Nat, j ≤ n ∧ i = .int .i64 ((j : Int) - 1) ∧ Hid (Row wr w.heap.size v ((M.lst I C n).drop j).reverse) ∧ Below w.heap.size w wr) (fun _ i _ => (intOf i + 1).toNat)
  case atStart =>
    refine ⟨n, Nat.le_refl _, rfl, ?_, ?_⟩
    · rw [Hid, List.drop_eq_nil_of_le (by omega)]
      exact row_empty w
    · exact below_alloc0 _ _
  case round =>
    obtain ⟨j, hj, rfl, hr, hb⟩ := hrel
    have hz := hb.size
    cases j with
    | zero =>
      go_wp2
      go_ret
      exact ⟨_, rfl, hr.out, hb⟩
    | succ j =>
      have e1 : (((j + 1 : Nat) : Int) - 1) = (j : Int) := by omega
      rw [e1]
      obtain ⟨b, o, rfl, c0, c1⟩ := (HL.out.on hb) j (by omega)
      have HS : Hid (((M.lst I C n).drop j).reverse = ((M.lst I C n).drop (j + 1)).reverse ++ [(I j, C j)]) := by
        rw [Hid, drop_rev _ _ (by rw [hlen]; omega), lst_get]
      have hll : (((M.lst I C n).drop (j + 1)).reverse).length ≤ 61 := by simp [hlen]; omega
      have s1 : IntKind.i64.wrap ((j : Int) - 1) = (j : Int) - 1 := IntWalk.i64_in _ (by omega)
      go_wp2_with (at_builtin; refine wpList_append_letter _ rfl _ _ rfl w.heap.size _ _ rfl (hr.out.alloc _) _ (I j) (C j) rfl ?_ (by omega) (by simp; omega) ?_)
      · simp [go_sem]
      · intro v1 w3 r1 gr1 ho1
        have R1 : Hid (Row w3 w.heap.size v1 (((M.lst I C n).drop j).reverse)) := by rw [Hid, HS.out]; exact r1
        have B3 : Below w.heap.size w w3 := (hb.alloc hz _).grown gr1 (by simp; omega) (fun q e => (hr.out.lt q e).1)
        clear r1 gr1 ho1
        go_wp2
        go_roundw
        case rel => exact ⟨j, by omega, rfl, R1, B3⟩
        case measure => simp [intOf]
end Go.Proofs.Ythnaglnmmgpiaaa
