/-
  What the law's own text does with slices of letters in a slice: it compares them, marks them, and reads the marks.
-/
import Derived.Test.YtmjgblhihpbbdaaDoorMat
import Derived.Test.YtmjgblhihpbbdaaDoorMark
import Derived.Test.YtmjgblhihpbbdaaDoorBinM
import Derived.Deep.RegionHeld3
import Derived.Test.YtmjgblhihpbbdaaDoorPlan
import Derived.Test.YtmjgblhihpbbdaaDoorLet
import Derived.ProofKit
import Derived.OpenShut
import Derived.ChangeOld
import Derived.Deep.SlicePairs
import Derived.Test.YtmjgblhihpbbdaaDoorMis
import Derived.Test.YtmjgblhihpbbdaaDoorBins
import Derived.Test.YtmjgblhihpbbdaaDoorRows
import Derived.Test.YtmjgblhihpbbdaaDoorJam
import Derived.LaidMore
import Derived.LaidHandle
import Derived.MakeChecks
import Derived.Lay
import Derived.LaidLaws
import Derived.Stop.LaidErr
import Derived.ChangeSame
import Derived.ChangeVars
import Derived.JoinedOf
import Derived.RowKit
import Derived.RowKitTokens
import Derived.Lib.SmallJoins
import Derived.Below
import Derived.Test.YtmjgblhihpbbdaaDoorStr
import Derived.SliceStrings
namespace Go.Proofs.YtmjgblhihpbbdaaDoor
open Go.RowKit

/-- How many letters the first n lists have. -/
def tot (M : Nat → List (Int × ByteArray)) : Nat → Nat
  | 0 => 0
  | n + 1 => tot M n + (M n).length
theorem tot_mono (M : Nat → List (Int × ByteArray)) {i : Nat} : ∀ {n : Nat}, i ≤ n → tot M i ≤ tot M n
  | 0, h => by have : i = 0 := by omega
               subst this; exact Nat.le_refl _
  | n + 1, h => by
    by_cases e : i = n + 1
    · subst e; exact Nat.le_refl _
    · have := tot_mono M (i := i) (n := n) (by omega)
      show tot M i ≤ tot M n + (M n).length
      omega
theorem tot_congr {M M' : Nat → List (Int × ByteArray)} : ∀ {n : Nat}, (∀ i, i < n → M i = M' i) → tot M n = tot M' n
  | 0, _ => rfl
  | n + 1, h => by show tot M n + _ = tot M' n + _; rw [tot_congr fun i hi => h i (by omega), h n (by omega)]
theorem tot_add (F : Nat → List (Int × ByteArray)) (d : Nat) (x : Int × ByteArray) : ∀ n, tot (fun i => if i = d then F d ++ [x] else F i) n ≤ tot F n + 1
  | 0 => Nat.zero_le _
  | n + 1 => by
    by_cases e : n = d
    · subst e
      have h1 : tot (fun i => if i = n then F n ++ [x] else F i) n = tot F n := tot_congr fun i hi => if_neg (by omega)
      show tot _ n + (if n = n then F n ++ [x] else F n).length ≤ tot F n + (F n).length + 1
      rw [h1, if_pos rfl, List.length_append]
      exact Nat.le_refl _
    · have := tot_add F d x n
      show tot _ n + (if n = d then F d ++ [x] else F n).length ≤ tot F n + (F n).length + 1
      rw [if_neg e]
      omega
theorem tot_binTo (key : Nat → Option Nat) (I : Nat → Int) (C : Nat → ByteArray) (N : Nat) : ∀ k, tot (M.binTo key I C k) N ≤ k
  | 0 => by
    have : ∀ N, tot (fun _ => ([] : List (Int × ByteArray))) N = 0 := fun N => by
      induction N with
      | zero => rfl
      | succ N ih => show tot _ N + 0 = 0; rw [ih]
    show tot (fun _ => []) N ≤ 0
    rw [this]
    exact Nat.le_refl 0
  | k + 1 => by
    have ih := tot_binTo key I C N k
    cases h : key k with
    | none => rw [M.binTo_none h]; omega
    | some d =>
      rw [M.binTo_some h]
      have := tot_add (M.binTo key I C k) d (I k, C k) N
      omega
abbrev mkRow (k n : Nat) : List (Int × ByteArray) := M.marks k n
theorem mkRow_length (k n : Nat) : (mkRow k n).length = n := M.marks_length k n
def mmarks (k : Nat) (M : Nat → List (Int × ByteArray)) : Nat → List (Int × ByteArray) := fun i => mkRow (k + 2 * tot M i) (M i).length
theorem mmarks_len (k : Nat) (M : Nat → List (Int × ByteArray)) (i : Nat) : (mmarks k M i).length = (M i).length := mkRow_length _ _
def mmTo (k : Nat) (M : Nat → List (Int × ByteArray)) (j : Nat) : Nat → List (Int × ByteArray) := fun i => if i < j then mmarks k M i else M i
theorem Mat.sub {w w' : World} {base n : Nat} {v : Value} {V : Nat → Value} {M : Nat → List (Int × ByteArray)} (h : Mat w base v n V M) {j : Nat} (hj : j < n) {L : List (Int × ByteArray)} (hr : Row w' base (V j) L) (ho : Only w w' (fun k => (V j).ownBlock = some k)) : Mat w' base v n V (upd M j L) := by
  refine ⟨ownsRow_block h.1 fun g hg => ho.block g (h.lt (Or.inl hg)).2 (h.outer hj hg), fun i hi => ?_, h.2.2⟩
  by_cases e : i = j
  · subst e; rw [upd_same]; exact hr
  · rw [upd_other _ _ e]; exact (h.2.1 i hi).only ho fun b hb hk => h.2.2 i j hi hj e b hb hk

set_option maxHeartbeats 2000000 in
theorem eqLetterSS_mat (w : World) (b1 b2 n : Nat) (v v' : Value) (V V' : Nat → Value) (M : Nat → List (Int × ByteArray)) (h : Mat w b1 v n V M) (h' : Mat w b2 v' n V' M) (hn : n ≤ 1048576) (hl : ∀ i, i < n → (M i).length ≤ 1048576) :
    Calls Tryd.prog 13 #[v, v'] w fun e w' => e = .returned (.bool true) ∧ Below w.heap.size w w' := by
  obtain ⟨u, c, hv⟩ : ∃ u c, v = .slice u n c := by
    rcases h.form with ⟨rfl, rfl⟩ | ⟨g, c, rfl, _⟩
    · exact ⟨_, _, rfl⟩
    · exact ⟨_, _, rfl⟩
  obtain ⟨u', c', hv'⟩ : ∃ u c, v' = .slice u n c := by
    rcases h'.form with ⟨rfl, rfl⟩ | ⟨g, c, rfl, _⟩
    · exact ⟨_, _, rfl⟩
    · exact ⟨_, _, rfl⟩
  subst hv hv'
  have HM := Lib.hid h
  have HM' := Lib.hid h'
  have HLn := Lib.hid hl
  clear h h' hl
  go_enter Tryd.func13, Tryd.ntmps13
  go_wp2
  go_loopw [5] (fun i wr => ∃ k : Nat, k ≤ n ∧ i = .int .i64 k ∧ Hid (Below w.heap.size w wr)) (fun i _ => n - (intOf i).toNat)
  case atStart => exact ⟨0, Nat.zero_le _, rfl, Below.refl _ _⟩
  case round =>
    obtain ⟨k, hk, rfl, hb⟩ := hrel
    by_cases hlt : k < n
    · have hm := Lib.hid (HM.out.on hb.out)
      have hm' := Lib.hid (HM'.out.on hb.out)
      obtain ⟨G, c2, e1, g0, _⟩ := hm.out.cell hlt
      cases e1
      obtain ⟨G', c2', e1, g0', _⟩ := hm'.out.cell hlt
      cases e1
      obtain ⟨a1, d1, hv1, _, _⟩ := (hm.out.2.1 k hlt).form
      obtain ⟨a2, d2, hv2, _, _⟩ := (hm'.out.2.1 k hlt).form
      have R1 := Lib.hid (hm.out.2.1 k hlt)
      have R2 := Lib.hid (hm'.out.2.1 k hlt)
      rw [hv1] at g0 R1
      rw [hv2] at g0' R2
      have hll := HLn.out k hlt
      have hgl := (hm.out.lt (k := G) (Or.inl rfl)).2
      have hgl' := (hm'.out.lt (k := G') (Or.inl rfl)).2
      have hki : (k : Int) < (n : Int) := by omega
      have hk0 : (0 : Int) ≤ (k : Int) := by omega
      clear hv1 hv2
      go_wp2
      go_region_held3 (fun w' => w'.cell? ⟨G, k, none⟩ = some (.slice a1 (M k).length d1) ∧ w'.cell? ⟨G', k, none⟩ = some (.slice a2 (M k).length d2)) (go_keep)
        (first | (go_at_call 14; refine (eqLetterS_row _ _ _ _ _ (M k) (R1.out.on (by go_grown)) (R2.out.on (by go_grown)) hll).mono ?_; rintro e w1 ⟨rfl, k1⟩; have kk : Below wr.heap.size wr w1 := (by first | exact k1 | exact step (by go_grown) k1); have s0 : w1.cell? ⟨G, k, none⟩ = some (.slice a1 (M k).length d1) := (kk.cell (p := ⟨G, k, none⟩) hgl).trans g0; have s1 : w1.cell? ⟨G', k, none⟩ = some (.slice a2 (M k).length d2) := (kk.cell (p := ⟨G', k, none⟩) hgl').trans g0'; have KK := Lib.hid (step hb.out kk); clear kk k1))
      all_goals
        go_wp2
        go_roundw
        case rel => exact ⟨k + 1, by omega, by go_num, by first | exact KK | exact KK.out.drew⟩
        case measure => simp [intOf]; omega
    · obtain rfl : k = n := by omega
      go_wp2
      go_ret
      exact ⟨rfl, hb.out⟩

set_option maxHeartbeats 2000000 in
theorem markLetterSS_mat (w : World) (base n : Nat) (v : Value) (V : Nat → Value) (M : Nat → List (Int × ByteArray)) (k : Nat) (h : Mat w base v n V M) (hn : n ≤ 1048576) (ht : tot M n ≤ 1048576) (k1 : 1 ≤ k) (k2 : k ≤ 5000000) :
    Calls Tryd.prog 17 #[v, .int .i64 k] w fun e w' => e = .returned (.int .i64 ((k + 2 * tot M n : Nat) : Int)) ∧ Mat w' base v n V (mmarks k M) ∧ Only w w' (inM v n V) := by
  obtain ⟨u, c, hv⟩ : ∃ u c, v = .slice u n c := by
    rcases h.form with ⟨rfl, rfl⟩ | ⟨g, c, rfl, _⟩
    · exact ⟨_, _, rfl⟩
    · exact ⟨_, _, rfl⟩
  subst hv
  have HM := Lib.hid h
  have HT := Lib.hid (fun j (hj : j ≤ n) => tot_mono M hj)
  clear h
  go_enter Tryd.func17, Tryd.ntmps17
  go_wp2
  go_loopw [1, 5] (fun q i wr => ∃ j : Nat, j ≤ n ∧ i = .int .i64 j ∧ q = .int .i64 ((k + 2 * tot M j : Nat) : Int) ∧ Hid (Mat wr base (.slice u n c) n V (mmTo k M j)) ∧ Hid (Only w wr (inM (.slice u n c) n V))) (fun _ i _ => n - (intOf i).toNat)
  case atStart => exact ⟨0, Nat.zero_le _, rfl, rfl, HM.out.congr (fun i _ => (if_neg (by omega)).symm), Only.refl _ _⟩
  case round =>
    obtain ⟨j, hj, rfl, rfl, hm, ho⟩ := hrel
    by_cases hlt : j < n
    · obtain ⟨G, c2, e1, g0, _⟩ := hm.out.cell hlt
      cases e1
      have hMj : mmTo k M j j = M j := if_neg (by omega)
      have R1' := hm.out.2.1 j hlt
      rw [hMj] at R1'
      have R1 := Lib.hid R1'
      have hself := Lib.hid (hm.out.2.1 j hlt)
      obtain ⟨x, hx⟩ : ∃ x, V j = x := ⟨_, rfl⟩
      rw [hx] at g0 R1
      obtain ⟨a1, d1, hv1, _, _⟩ := R1.out.form
      have HX := Lib.hid (hx.trans hv1)
      rw [hv1] at g0 R1
      have t1 := HT.out (j + 1) (by omega)
      have t2 : tot M (j + 1) = tot M j + (M j).length := rfl
      have hll : (M j).length ≤ 1048576 := by omega
      have htj : tot M j ≤ 1048576 := by omega
      have HT2 := Lib.hid t2
      clear hv1 hMj R1' hx t2 t1 x hself
      obtain ⟨q, hq⟩ : ∃ q, k + 2 * tot M j = q := ⟨_, rfl⟩
      rw [hq]
      have HQ := Lib.hid hq
      have q1 : 1 ≤ q := by omega
      have q2 : q ≤ 10000000 := by omega
      clear hq
      go_wp2_with fail
      refine (markLetterS_row _ base _ (M j) q R1.out hll q1 q2).mono ?_
      rintro e w1 ⟨rfl, r1, g1⟩
      have o1 : Only wr w1 (fun p => (V j).ownBlock = some p) := (Only.of_grown g1).mono (fun x _ e => by rw [HX.out]; exact e.symm)
      have M1 := Lib.hid (hm.out.sub hlt (by rw [HX.out]; exact r1) o1)
      have O1 := Lib.hid (ho.out.trans (o1.mono (T := inM (.slice (some ⟨G, 0, none⟩) n c) n V) (fun x _ e => Or.inr ⟨j, hlt, e⟩)) (fun _ _ h => h))
      clear r1 g1 o1
      go_wp2
      go_roundw
      case rel => exact ⟨j + 1, by omega, by go_num, (by rw [HT2.out]; refine congrArg (Value.int .i64) ?_; have := HQ.out; omega), M1.out.congr (fun i _ => by
        unfold upd mmTo
        by_cases e : i = j
        · subst e
          rw [if_pos rfl, if_pos (by omega)]
          show mkRow _ _ = mkRow _ _
          rw [HQ.out]
        · rw [if_neg e]
          by_cases e2 : i < j
          · rw [if_pos e2, if_pos (by omega)]
          · rw [if_neg e2, if_neg (by omega)]), O1⟩
      case measure => simp [intOf]; omega
    · obtain rfl : j = n := by omega
      go_wp2
      go_ret
      exact ⟨rfl, hm.out.congr (fun i hi => if_pos hi), ho.out⟩

set_option maxHeartbeats 2000000 in
theorem heldLetterSS_mat (w : World) (base n : Nat) (v : Value) (V : Nat → Value) (M : Nat → List (Int × ByteArray)) (k : Nat) (h : Mat w base v n V (mmarks k M)) (hn : n ≤ 1048576) (ht : tot M n ≤ 1048576) (k1 : 1 ≤ k) (k2 : k ≤ 5000000) :
    Calls Tryd.prog 19 #[v, .int .i64 k] w fun e w' => e = .returned (.int .i64 ((k + 2 * tot M n : Nat) : Int)) ∧ Below w.heap.size w w' := by
  obtain ⟨u, c, hv⟩ : ∃ u c, v = .slice u n c := by
    rcases h.form with ⟨rfl, rfl⟩ | ⟨g, c, rfl, _⟩
    · exact ⟨_, _, rfl⟩
    · exact ⟨_, _, rfl⟩
  subst hv
  have HM := Lib.hid h
  have HT := Lib.hid (fun j (hj : j ≤ n) => tot_mono M hj)
  clear h
  go_enter Tryd.func19, Tryd.ntmps19
  go_wp2
  go_loopw [1, 5] (fun q i wr => ∃ j : Nat, j ≤ n ∧ i = .int .i64 j ∧ q = .int .i64 ((k + 2 * tot M j : Nat) : Int) ∧ Hid (Below w.heap.size w wr)) (fun _ i _ => n - (intOf i).toNat)
  case atStart => exact ⟨0, Nat.zero_le _, rfl, rfl, Below.refl _ _⟩
  case round =>
    obtain ⟨j, hj, rfl, rfl, hb⟩ := hrel
    by_cases hlt : j < n
    · have hm := Lib.hid (HM.out.on hb.out)
      obtain ⟨G, c2, e1, g0, _⟩ := hm.out.cell hlt
      cases e1
      have R1 := Lib.hid (hm.out.2.1 j hlt)
      obtain ⟨x, hx⟩ : ∃ x, V j = x := ⟨_, rfl⟩
      rw [hx] at g0 R1
      obtain ⟨a1, d1, hv1, _, _⟩ := R1.out.form
      rw [hv1] at g0 R1
      have t1 := HT.out (j + 1) (by omega)
      have t2 : tot M (j + 1) = tot M j + (M j).length := rfl
      have hll : (M j).length ≤ 1048576 := by omega
      have htj : tot M j ≤ 1048576 := by omega
      have HT2 := Lib.hid t2
      have R2 : Hid (Row wr base (.slice a1 (mmarks k M j).length d1) (mkRow (k + 2 * tot M j) (M j).length)) := R1.out
      clear hv1 hx t2 t1 x R1
      obtain ⟨q, hq⟩ : ∃ q, k + 2 * tot M j = q := ⟨_, rfl⟩
      rw [hq] at R2 ⊢
      have HQ := Lib.hid hq
      have q1 : 1 ≤ q := by omega
      have q2 : q ≤ 10000000 := by omega
      clear hq
      go_wp2_with fail
      refine (heldLetterS_row _ base _ q (M j).length R2.out hll q1 q2).mono ?_
      rintro e w1 ⟨rfl, k1'⟩
      have KK := Lib.hid (step hb.out k1')
      clear k1'
      go_wp2
      go_roundw
      case rel => exact ⟨j + 1, by omega, by go_num, (by rw [HT2.out]; refine congrArg (Value.int .i64) ?_; have := HQ.out; omega), KK⟩
      case measure => simp [intOf]; omega
    · obtain rfl : j = n := by omega
      go_wp2
      go_ret
      exact ⟨rfl, hb.out⟩
end Go.Proofs.YtmjgblhihpbbdaaDoor

/-
  The marks that a law writes into a plan's codes.
-/
namespace Go.Proofs.YtmjgblhihpbbdaaDoor
open Go.RowKit
open Go.PlainAid (bt get_bt bt_nonneg bt_le)

theorem SRow.on {w w' : World} {base : Nat} {v : Value} {L : List ByteArray} (h : SRow w base v L) (hb : Below w.heap.size w w') : SRow w' base v L := h.below hb

set_option maxHeartbeats 1000000 in
theorem markStringS_row (w : World) (base : Nat) (v : Value) (L : List ByteArray) (k : Nat) (h : SRow w base v L) (hn : L.length ≤ 1048576) (k1 : 1 ≤ k) (k2 : k ≤ 10000000) :
    Calls Tryd.prog 43 #[v, .int .i64 k] w fun e w' => e = .returned (.int .i64 ((k + L.length : Nat) : Int)) ∧ Only w w' (fun b => v.ownBlock = some b) := by
  rcases h.cases with ⟨rfl, rfl⟩ | ⟨g, c, rfl, hbg, hgl, _⟩
  · go_enter Tryd.func43, Tryd.ntmps43
    go_wp2
    go_rounds 1
    go_ret
    exact ⟨rfl, Only.refl _ _⟩
  · obtain ⟨n, hl⟩ : ∃ n, L.length = n := ⟨_, rfl⟩
    rw [hl] at h hn ⊢
    have h0 : Hid (∃ Z : List ByteArray, Z.length = n ∧ SRow w base (.slice (some ⟨g, 0, none⟩) n c) Z) := ⟨L, hl, h⟩
    clear h hl
    go_enter Tryd.func43, Tryd.ntmps43
    go_wp2
    go_loopw [1, 5] (fun q i wr => ∃ j : Nat, j ≤ n ∧ i = .int .i64 j ∧ q = .int .i64 ((k + j : Nat) : Int) ∧ Hid (∃ Z : List ByteArray, Z.length = n ∧ SRow wr base (.slice (some ⟨g, 0, none⟩) n c) Z) ∧ Hid (Only w wr (fun b => (Value.slice (some ⟨g, 0, none⟩) n c).ownBlock = some b))) (fun _ i _ => n - (intOf i).toNat)
    case atStart => exact ⟨0, Nat.zero_le _, rfl, rfl, h0, Only.refl _ _⟩
    case round =>
      obtain ⟨j, hj, rfl, rfl, hr, hg⟩ := hrel
      by_cases hlt : j < n
      · obtain ⟨X, hX⟩ : ∃ X : Nat, k + j = X := ⟨_, rfl⟩
        rw [hX]
        have HX := Lib.hid hX
        have x1 : 1 ≤ X := by omega
        have x2 : X ≤ 20000000 := by omega
        clear hX
        go_wp2_with fail
        refine (markText_any X _ (by omega) (by omega)).mono ?_
        rintro e w1 ⟨rfl, hb1⟩
        obtain ⟨M0, hM0, hs0⟩ := hr.out
        have hs1 := hs0.on hb1
        have z1 := hb1.size
        have hs2 : SRow w1 base (.slice (some ⟨g, 0, none⟩) M0.length c) M0 := by rw [hM0]; exact hs1
        obtain ⟨cc, ff⟩ := hs2.cellAt j (by omega)
        have P2 := hs2.put j (M.mark X)
        rw [List.length_set] at P2
        have P3 : Hid (∃ Z : List ByteArray, Z.length = n ∧ SRow (w1.setCell ⟨g, j, none⟩ (.string (M.mark X))) base (.slice (some ⟨g, 0, none⟩) n c) Z) := ⟨M0.set j (M.mark X), by rw [List.length_set]; exact hM0, by rw [hM0] at P2; exact P2⟩
        have O3 := Lib.hid ((hg.out.trans (Only.new (S := fun b => (Value.slice (some ⟨g, 0, none⟩) n c).ownBlock = some b) hb1) (fun _ _ h => h)).trans (Only.set w1 ⟨g, j, none⟩ (.string (M.mark X)) (S := fun b => (Value.slice (some ⟨g, 0, none⟩) n c).ownBlock = some b) rfl) (fun _ _ h => h))
        have gl := (hs1.lt g rfl).2
        generalize M0[j]'(by omega) = y at cc
        clear hs0 hs1 hs2 P2 hM0 hb1
        go_wp2
        go_roundw
        case rel => exact ⟨j + 1, by omega, by go_num, by have := HX.out; go_num, P3, O3⟩
        case measure => simp [intOf]; omega
      · obtain rfl : j = n := by omega
        go_wp2
        go_ret
        exact ⟨rfl, hg.out⟩

set_option maxHeartbeats 1000000 in
theorem markPlan_row (w : World) (base : Nat) (b p : Int) (v : Value) (L : List ByteArray) (k : Nat) (h : SRow w base v L) (hn : L.length ≤ 1048576) (k1 : 1 ≤ k) (k2 : k ≤ 10000000) :
    Calls Tryd.prog 16 #[.agg #[.int .i64 b, .int .i64 p, v], .int .i64 k] w fun e w' => e = .returned (.int .i64 ((k + L.length : Nat) : Int)) ∧ Only w w' (fun b => v.ownBlock = some b) := by
  have hl := h.lt
  have HS := Lib.hid (h.on (below_alloc0 w (.cells #[.int .i64 b, .int .i64 p, v] 32)))
  obtain ⟨q, hq⟩ : ∃ q : Nat, k + L.length = q := ⟨_, rfl⟩
  have hm := Lib.hid (fun W (hs : SRow W base v L) => hq ▸ markStringS_row W base v L k hs hn k1 k2)
  rw [hq]
  clear h hq
  go_enter Tryd.func16, Tryd.ntmps16
  go_wp2_with fail
  refine (hm.out _ HS.out).mono ?_
  rintro e w1 ⟨rfl, o1⟩
  go_wp2
  go_ret
  exact ⟨rfl, (Only.new (S := fun b => v.ownBlock = some b) (below_alloc0 w _)).trans o1 (fun _ _ h => h)⟩
end Go.Proofs.YtmjgblhihpbbdaaDoor

/-
  An argument that is a slice of letters: what lies in memory.
-/
namespace Go.Proofs.YtmjgblhihpbbdaaDoor
open Go.ChangeShapes Go.WideShapes Go.ChangeAt Go.RowKit

theorem open_letters {H : Type} {enc : TypeId × Value → H} {W : World} {base : Nat} {sp : Nat → Bool} {held : Bool} {fuel : Nat} {a : Option Addr} {n c : Nat} {x : DataW H × List MemPlace}
    (h : DataW.trod enc Tryd.prog W base sp held fuel 44 [.slice a n c] = some x) : ∃ I C, Lts W a n I C ∧ Fits n I C ∧ n ≤ maxLen := by
  rcases Deep.open_slice_pairs Tryd.underlying44 Tryd.underlying73 (by kernel_rfl) rfl rfl (by kernel_rfl) (by kernel_rfl) h with ⟨hcs, _⟩ | ⟨a', len, cap, m, k, V0, V1, D0, D1, P0, P1, hcs, _, hl, hm, hmm, _, hx⟩
  · simp at hcs
    obtain ⟨rfl, rfl, rfl⟩ := hcs
    exact ⟨fun _ => 0, fun _ => ⟨#[]⟩, fun i hi => absurd hi (by omega), fun i hi => absurd hi (by omega), by omega⟩
  · simp at hcs
    obtain ⟨rfl, rfl, rfl⟩ := hcs
    have hnm : n ≤ m := by rw [hmm]; split <;> omega
    refine ⟨fun i => intOf (V0 i), fun i => match V1 i with | .string s => s | _ => ⟨#[]⟩, fun i hi => ?_, fun i hi => ?_, by omega⟩
    · obtain ⟨c0, c1, t0, t1⟩ := hx i (by omega)
      obtain ⟨y, ey, _, _⟩ := DataW.trod_int Tryd.underlying3 t0
      obtain ⟨s, es, _, _⟩ := DataW.trod_string Tryd.underlying9 t1
      have e0 := List.singleton_inj.1 ey
      have e1 := List.singleton_inj.1 es
      obtain ⟨b, o, sp'⟩ := a'
      have hspot : sp' = none := by simpa [Addr.add] using World.cell?_spot (hx 0 (by omega)).1
      subst hspot
      rw [add_plain] at c0 c1
      refine ⟨b, o, rfl, ?_, ?_⟩
      · show _ = some (Value.int .i64 (intOf (V0 i)))
        rw [c0, e0]; rfl
      · show W.cell? ⟨b, o + (i * 2 + 1), none⟩ = some (Value.string (match V1 i with | .string s => s | _ => ⟨#[]⟩))
        rw [c1, e1]
    · obtain ⟨c0, c1, t0, t1⟩ := hx i (by omega)
      obtain ⟨y, ey, _, wy⟩ := DataW.trod_int Tryd.underlying3 t0
      obtain ⟨s, es, _, ws⟩ := DataW.trod_string Tryd.underlying9 t1
      have e0 := List.singleton_inj.1 ey
      have e1 := List.singleton_inj.1 es
      simp only [e0, e1, intOf]
      exact ⟨bounds_i64 wy, ws⟩
end Go.Proofs.YtmjgblhihpbbdaaDoor

/-
  An argument that is a slice of missorts: what lies in memory.
-/
namespace Go.Proofs.YtmjgblhihpbbdaaDoor
open Go.ChangeShapes Go.WideShapes Go.ChangeAt Go.RowKit

theorem open_missorts {H : Type} {enc : TypeId × Value → H} {W : World} {base : Nat} {sp : Nat → Bool} {held : Bool} {fuel : Nat} {a : Option Addr} {n c : Nat} {x : DataW H × List MemPlace}
    (h : DataW.trod enc Tryd.prog W base sp held fuel 45 [.slice a n c] = some x) : ∃ I C, Mss W a n I C ∧ MFits n I C ∧ n ≤ maxLen := by
  rcases Deep.open_slice_pairs Tryd.underlying45 Tryd.underlying81 (by kernel_rfl) rfl rfl (by kernel_rfl) (by kernel_rfl) h with ⟨hcs, _⟩ | ⟨a', len, cap, m, k, V0, V1, D0, D1, P0, P1, hcs, _, hl, hm, hmm, _, hx⟩
  · simp at hcs
    obtain ⟨rfl, rfl, rfl⟩ := hcs
    exact ⟨fun _ => 0, fun _ => 0, fun i hi => absurd hi (by omega), fun i hi => absurd hi (by omega), by omega⟩
  · simp at hcs
    obtain ⟨rfl, rfl, rfl⟩ := hcs
    have hnm : n ≤ m := by rw [hmm]; split <;> omega
    refine ⟨fun i => intOf (V0 i), fun i => intOf (V1 i), fun i hi => ?_, fun i hi => ?_, by omega⟩
    · obtain ⟨c0, c1, t0, t1⟩ := hx i (by omega)
      obtain ⟨y, ey, _, _⟩ := DataW.trod_int Tryd.underlying3 t0
      obtain ⟨s, es, _, _⟩ := DataW.trod_int Tryd.underlying3 t1
      have e0 := List.singleton_inj.1 ey
      have e1 := List.singleton_inj.1 es
      obtain ⟨b, o, sp'⟩ := a'
      have hspot : sp' = none := by simpa [Addr.add] using World.cell?_spot (hx 0 (by omega)).1
      subst hspot
      rw [add_plain] at c0 c1
      refine ⟨b, o, rfl, ?_, ?_⟩
      · show _ = some (Value.int .i64 (intOf (V0 i)))
        rw [c0, e0]; rfl
      · show W.cell? ⟨b, o + (i * 2 + 1), none⟩ = some (Value.int .i64 (intOf (V1 i)))
        rw [c1, e1]; rfl
    · obtain ⟨c0, c1, t0, t1⟩ := hx i (by omega)
      obtain ⟨y, ey, _, wy⟩ := DataW.trod_int Tryd.underlying3 t0
      obtain ⟨s, es, _, ws⟩ := DataW.trod_int Tryd.underlying3 t1
      have e0 := List.singleton_inj.1 ey
      have e1 := List.singleton_inj.1 es
      simp only [e0, e1, intOf]
      exact ⟨bounds_i64 wy, bounds_i64 ws⟩
end Go.Proofs.YtmjgblhihpbbdaaDoor

/-
  Missorts that a law has made: apart from all else, and marked.
-/
namespace Go.Proofs.YtmjgblhihpbbdaaDoor
open Go.RowKit
open Go.PlainAid (bt get_bt bt_nonneg bt_le)
set_option linter.unusedVariables false

/-- A row of missorts from a heap size on. -/
def MRow (w : World) (base b n : Nat) (I C : Nat → Int) : Prop := base ≤ b ∧ MOwn w b n I C
theorem MOwn.lt {w : World} {b n : Nat} {I C : Nat → Int} (h : MOwn w b n I C) : b < w.heap.size := by
  obtain ⟨f, hr, _⟩ := h
  exact hr.lt
theorem MOwn.block {w w' : World} {b n : Nat} {I C : Nat → Int} (h : MOwn w b n I C) (hb : w'.heap[b]? = w.heap[b]?) : MOwn w' b n I C := by
  obtain ⟨f, hr, hf⟩ := h
  exact ⟨f, hr.of_block hb, hf⟩
theorem MRow.on {w w' : World} {base b n : Nat} {I C : Nat → Int} (h : MRow w base b n I C) (hb : Below w.heap.size w w') : MRow w' base b n I C := ⟨h.1, h.2.block (hb.block _ h.2.lt)⟩
theorem MRow.only {w w' : World} {base b n : Nat} {I C : Nat → Int} {S : Nat → Prop} (h : MRow w base b n I C) (ho : Only w w' S) (hn : ∀ k, k = b → ¬ S k) : MRow w' base b n I C := ⟨h.1, h.2.block (ho.block _ h.2.lt (hn b rfl))⟩
theorem MRow.lt {w : World} {base b n : Nat} {I C : Nat → Int} (h : MRow w base b n I C) : ∀ k, k = b → base ≤ k ∧ k < w.heap.size := fun k e => by subst e; exact ⟨h.1, h.2.lt⟩
theorem MRow.mss {w : World} {base b n : Nat} {I C : Nat → Int} (h : MRow w base b n I C) : Mss w (some ⟨b, 0, none⟩) n I C := h.2.mss
theorem toMissortS_row (w : World) (a : Option Addr) (n c : Nat) (I : Nat → Int) (C : Nat → Int) (h : Mss w a n I C) (hn : n ≤ 1048576) :
    Calls Tryd.prog 27 #[.slice a n c] w fun e w' => ∃ b, e = .returned (.slice (some ⟨b, 0, none⟩) n n) ∧ MRow w' w.heap.size b n I C ∧ Below w.heap.size w w' := by
  refine (toMissortS_any w a n c I C h hn).mono ?_
  rintro e w' ⟨b, rfl, h1, h2, h3⟩
  exact ⟨b, rfl, ⟨h1, h2⟩, h3⟩

set_option maxHeartbeats 1000000 in
theorem markMissortS_row (w : World) (base b n : Nat) (I C : Nat → Int) (k : Nat) (h : MRow w base b n I C) (hn : n ≤ 1048576) (k1 : 1 ≤ k) (k2 : k ≤ 10000000) :
    Calls Tryd.prog 30 #[.slice (some ⟨b, 0, none⟩) n n, .int .i64 k] w fun e w' => e = .returned (.int .i64 ((k + 2 * n : Nat) : Int)) ∧ Only w w' (fun q => q = b) := by
  obtain ⟨f0, hr0, _⟩ := h.2
  have H0 := Lib.hid hr0
  clear h hr0
  go_enter Tryd.func30, Tryd.ntmps30
  go_wp2
  go_loopw [1, 5] (fun q i wr => ∃ (j : Nat) (f : Nat → Value), j ≤ n ∧ i = .int .i64 j ∧ q = .int .i64 ((k + 2 * j : Nat) : Int) ∧ Hid (wr.rowIs b 79 (n * 2) f) ∧ Hid (Only w wr (fun q => q = b))) (fun _ i _ => n - (intOf i).toNat)
  case atStart => exact ⟨0, f0, Nat.zero_le _, rfl, rfl, H0, Only.refl _ _⟩
  case round =>
    obtain ⟨j, f, hj, rfl, rfl, hr, ho⟩ := hrel
    by_cases hlt : j < n
    · obtain ⟨X, hX⟩ : ∃ X : Int, X = (k : Int) + 2 * (j : Int) := ⟨_, rfl⟩
      have hXc : ((k + 2 * j : Nat) : Int) = X := by omega
      have hXb : 1 ≤ X ∧ X ≤ 20000000 := by omega
      have d0 := hr.out.cell (i := j * 2) (by omega)
      have g0 := hr.out.frozen (j * 2)
      have r1 := hr.out.set (j * 2) (.int .i64 X)
      have d1 := r1.cell (i := j * 2 + 1) (by omega)
      have g1 := r1.frozen (j * 2 + 1)
      have R2 := Lib.hid (r1.set (j * 2 + 1) (.int .i64 (X + 1)))
      have O2 : Hid (Only w ((wr.setCell ⟨b, j * 2, none⟩ (.int .i64 X)).setCell ⟨b, j * 2 + 1, none⟩ (.int .i64 (X + 1))) (fun q => q = b)) :=
        (ho.out.trans (Only.set wr ⟨b, j * 2, none⟩ (.int .i64 X) (S := fun q => q = b) rfl) (fun _ _ h => h)).trans (Only.set (wr.setCell ⟨b, j * 2, none⟩ (.int .i64 X)) ⟨b, j * 2 + 1, none⟩ (.int .i64 (X + 1)) (S := fun q => q = b) rfl) (fun _ _ h => h)
      rw [if_neg (by omega)] at d1
      generalize f (j * 2) = y0 at d0
      generalize f (j * 2 + 1) = y1 at d1
      have HX := Lib.hid hX
      clear r1 hX
      rw [hXc]
      clear hXc
      obtain ⟨x1, x2⟩ := hXb
      go_wp2
      go_roundw
      case rel => exact ⟨j + 1, _, by omega, by go_num, by refine congrArg (Value.int .i64) ?_; have := HX.out; omega, R2, O2⟩
      case measure => simp [intOf]; omega
    · obtain rfl : j = n := by omega
      go_wp2
      go_ret
      exact ⟨rfl, ho.out⟩
end Go.Proofs.YtmjgblhihpbbdaaDoor

/-
  What the condition on the listed variable gives a walk: the program's sentinel, the jam. And a world that meets it.
-/
namespace Go.Proofs.YtmjgblhihpbbdaaDoor.Laid
open Go.ChangeShapes Go.WideShapes Go.RowKit Go.Joins

theorem star : "*" ++ "errors.errorString" = "*errors.errorString" := by decide
theorem jam_row (u : TypeId) (h : Tryd.prog.typeName? 3 u = some "*errors.errorString") : u = 140 :=
  typeName_ptr_named (nm := "errors.errorString") (by rw [star]; kernel_rfl) (by kernel_rfl) (by decide) u (by rw [star]; exact h)
theorem jam_named : Tryd.prog.globalNamed "loop.example/sortingoffice/impl.errJam" = some 0 := by kernel_rfl
theorem jam_typed : (Tryd.prog.globals[0]?).map (·.type) = some 90 := by kernel_rfl
theorem of_jam {w : World} (h : laidMetH Tryd.prog [("loop.example/sortingoffice/impl.errJam", Rows.laid_loop_example_sortingoffice_impl_errJam)] w) : ∃ J, w.var? Tryd.prog "loop.example/sortingoffice/impl.errJam" = some #[JV J] ∧ Jam w J := by
  rw [MakeChecks.laidMetH_plain _ _ _ (by kernel_rfl)] at h
  obtain ⟨a0, s0, hv0, hc0, _⟩ := laid_sentinel h jam_named jam_typed Tryd.underlying90 jam_row Tryd.underlying140 Tryd.underlying167 rfl rfl Tryd.underlying9 (by kernel_rfl) (by kernel_rfl)
  exact ⟨a0, hv0, by have := World.var?_cell jam_named hv0 0; simpa [Jam, JV] using this⟩
theorem jam_read {H : Type} (enc : TypeId × Value → H) {w : World} {J : Addr} (h : w.var? Tryd.prog "loop.example/sortingoffice/impl.errJam" = some #[JV J]) (sp : Nat → Bool) :
    DataW.TrodVars enc Tryd.prog w sp ["loop.example/sortingoffice/impl.errJam"] [tok enc (JV J)] [.cell 0 0] :=
  vars_read1 enc jam_named jam_typed Tryd.underlying90 h trivial sp
theorem door_jam (os : Os) (args : Array Value) : laidMetH Tryd.prog [("loop.example/sortingoffice/impl.errJam", Rows.laid_loop_example_sortingoffice_impl_errJam)] ((World.laidAll Tryd.prog os [("loop.example/sortingoffice/impl.errJam", Rows.laid_loop_example_sortingoffice_impl_errJam)]).forCall (fun _ _ => 0) ⟨#[], args, []⟩).memory := by
  rw [MakeChecks.laidMetH_plain _ _ _ (by kernel_rfl)]
  exact laidMet_laidAll _ (by kernel_rfl) (by kernel_rfl)
end Go.Proofs.YtmjgblhihpbbdaaDoor.Laid

/-
  An argument that is a slice of strings: what lies in memory.
-/
namespace Go.Proofs.YtmjgblhihpbbdaaDoor
open Go.ChangeShapes Go.WideShapes Go.ChangeAt Go.RowKit

theorem open_strs {H : Type} {enc : TypeId × Value → H} {W : World} {base : Nat} {sp : Nat → Bool} {held : Bool} {fuel : Nat} {v : Value} {x : DataW H × List MemPlace}
    (h : DataW.trod enc Tryd.prog W base sp held fuel 22 [v] = some x) : ∃ (a : Option Addr) (n c : Nat) (S : Nat → ByteArray), v = .slice a n c ∧ Strs W a n S ∧ SFits n S ∧ n ≤ maxLen := by
  rcases open_strings Tryd.underlying22 Tryd.underlying9 (by kernel_rfl) h with ⟨hcs, _⟩ | ⟨a, len, cap, ss, hcs, _, hl, hm, hlen, _, hc, hs⟩
  · exact ⟨none, 0, 0, fun _ => ⟨#[]⟩, List.singleton_inj.1 hcs, fun i hi => absurd hi (by omega), fun i hi => absurd hi (by omega), by omega⟩
  · have hle : len ≤ ss.length := by rw [hlen]; split <;> omega
    refine ⟨some a, len, cap, fun i => ss.getD i ByteArray.empty, List.singleton_inj.1 hcs, fun i hi => ?_, fun i hi => ?_, by omega⟩
    · obtain ⟨b, o, sp'⟩ := a
      have hspot : sp' = none := by simpa [Addr.add] using World.cell?_spot (hc 0 (by omega))
      subst hspot
      have := hc i (by omega)
      rw [add_plain] at this
      exact ⟨b, o, rfl, this⟩
    · refine hs _ ?_
      show ss.getD i ByteArray.empty ∈ ss
      rw [List.getD_eq_getElem?_getD, List.getElem?_eq_getElem (show i < ss.length by omega)]
      exact List.getElem_mem (by omega)
end Go.Proofs.YtmjgblhihpbbdaaDoor
