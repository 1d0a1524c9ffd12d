/-
  Bins of a pass, in the model: l7Bins.
-/
import Derived.Test.YtmjgblhihpbbdaaDoorTake
import Derived.Test.YtmjgblhihpbbdaaDoorIntS
namespace Go.Proofs.YtmjgblhihpbbdaaDoor
open Go.RowKit
open Go.PlainAid (bt get_bt bt_nonneg bt_le)
set_option linter.unusedVariables false

/-- The bins are those of a pass of a plan. -/
def binsAll (b p : Int) (n : Nat) (S : Nat → ByteArray) (N : Nat) (MM : Nat → List (Int × ByteArray)) (x : Int) : Bool := M.plan b p n S && binsOk b N MM && decide (0 ≤ x ∧ x ≤ p - 1)

set_option maxHeartbeats 1000000 in
theorem spec_l7Bins (w : World) (b p : Int) (a : Option Addr) (n c : Nat) (S : Nat → ByteArray) (h : Strs w a n S) (hf : SFits n S) (hn : n ≤ 1048576) (base : Nat) (v : Value) (N : Nat) (V : Nat → Value) (MM : Nat → List (Int × ByteArray)) (h2 : Mat w base v N V MM) (hN : N ≤ 1048576) (hl : (M.flat MM N).length ≤ 1048576) (hf2 : Fits (M.flat MM N).length (nI (M.flat MM N)) (nC (M.flat MM N))) (x : Int) :
    Calls Tryd.prog 45 #[.agg #[.int .i64 b, .int .i64 p, .slice a n c], v, .int .i64 x] w fun e w' => e = .returned (.bool (binsAll b p n S N MM x)) ∧ Below w.heap.size w w' := by
  have HL := Lib.hid (h.on (below_alloc0 w (.cells #[.int .i64 b, .int .i64 p, .slice a n c] 32)))
  have HM := Lib.hid (h2.on (below_alloc0 w (.cells #[.int .i64 b, .int .i64 p, .slice a n c] 32)))
  have bx := Lib.hid (tri_made w (.int .i64 b) (.int .i64 p) (.slice a n c) 32)
  have HF := Lib.hid hf
  have HF2 := Lib.hid hf2
  obtain ⟨u, c2, hv⟩ : ∃ u c, v = .slice u N c := by
    rcases h2.form with ⟨rfl, rfl⟩ | ⟨g, c, rfl, _⟩
    · exact ⟨_, _, rfl⟩
    · exact ⟨_, _, rfl⟩
  subst hv
  clear h hf h2 hf2
  obtain ⟨⟨t0, t1, t2⟩, _⟩ := bx.out
  unfold binsAll
  obtain ⟨dd, hdd⟩ : ∃ dd, decide (0 ≤ x ∧ x ≤ p - 1) = dd := ⟨_, rfl⟩
  have HDD := Lib.hid hdd
  rw [hdd]
  clear hdd
  cases hp : M.plan b p n S
  · go_enter Tryd.func45, Tryd.ntmps45
    go_wp2_with fail
    refine (spec_PlanValid _ b p a n c S HL.out HF.out hn).mono ?_
    rw [hp]
    rintro e w1 ⟨rfl, hb1⟩
    go_wp2
    go_ret
    exact ⟨rfl, sstep (by go_grown) hb1⟩
  · obtain ⟨s1, s2, s3, s4⟩ := M.plan_shape hp
    have HP := Lib.hid hp
    clear hp
    by_cases hNb : (N : Int) = b
    · have hbq : ((N : Int) == b) = true := by simpa using hNb
      have hok : Hid (binsOk b N MM = M.batch (M.flat MM N).length (nI (M.flat MM N)) (nC (M.flat MM N))) := by unfold Hid binsOk; rw [decide_eq_true hNb, Bool.true_and]
      rw [hok.out]
      obtain ⟨L, hL⟩ : ∃ L, M.flat MM N = L := ⟨_, rfl⟩
      have HC : Hid (∀ W, Below w.heap.size w W → Mat W base (.slice u N c2) N V MM → Calls Tryd.prog 60 #[.slice u N c2] W (RowOut W L)) := fun W _ hW => by
        rw [← hL]
        exact spec_l2Collect W base _ N V MM hW hN hl
      rw [hL] at hl HF2 ⊢
      have HNb := Lib.hid hNb
      clear hL hNb hok
      cases hb : M.batch L.length (nI L) (nC L)
      · have HB := Lib.hid hb
        clear hb
        go_enter Tryd.func45, Tryd.ntmps45
        go_wp2_with fail
        refine (spec_PlanValid _ b p a n c S HL.out HF.out hn).mono ?_
        rw [HP.out]
        rintro e w1 ⟨rfl, hb1⟩
        have B1 : Hid (Below w.heap.size w w1) := sstep (by go_grown) hb1
        have M1 := Lib.hid (HM.out.on hb1)
        have bx1 := Lib.hid (bx.out.on hb1)
        clear t0 t1 t2 hb1
        obtain ⟨⟨t0, t1, t2⟩, _⟩ := bx1.out
        go_wp2_with fail
        refine (HC.out _ B1.out M1.out).mono ?_
        rintro e w2 ⟨v1, rfl, r1, k1⟩
        obtain ⟨a1, c1, rfl, _, l1⟩ := r1.form
        clear t0 t1 t2
        go_wp2_with fail
        refine (spec_BatchValid _ a1 _ c1 _ _ l1 HF2.out hl).mono ?_
        rw [HB.out]
        rintro e w3 ⟨rfl, k2⟩
        have B3 : Hid (Below w.heap.size w w3) := sstep (sstep B1.out k1) k2
        clear r1 l1 k1 k2
        go_wp2
        go_ret
        exact ⟨rfl, B3.out⟩
      · have HB := Lib.hid hb
        clear hb
        go_enter Tryd.func45, Tryd.ntmps45
        go_wp2_with fail
        refine (spec_PlanValid _ b p a n c S HL.out HF.out hn).mono ?_
        rw [HP.out]
        rintro e w1 ⟨rfl, hb1⟩
        have B1 : Hid (Below w.heap.size w w1) := sstep (by go_grown) hb1
        have M1 := Lib.hid (HM.out.on hb1)
        have bx1 := Lib.hid (bx.out.on hb1)
        clear t0 t1 t2 hb1
        obtain ⟨⟨t0, t1, t2⟩, _⟩ := bx1.out
        go_wp2_with fail
        refine (HC.out _ B1.out M1.out).mono ?_
        rintro e w2 ⟨v1, rfl, r1, k1⟩
        obtain ⟨a1, c1, rfl, _, l1⟩ := r1.form
        clear t0 t1 t2
        go_wp2_with fail
        refine (spec_BatchValid _ a1 _ c1 _ _ l1 HF2.out hl).mono ?_
        rw [HB.out]
        rintro e w3 ⟨rfl, k2⟩
        have B3 : Hid (Below w.heap.size w w3) := sstep (sstep B1.out k1) k2
        obtain ⟨⟨t0, t1, t2⟩, _⟩ := (bx1.out.on k1).on k2
        clear r1 l1 k1 k2
        go_wp2_with fail
        refine (spec_l1In x 0 (p - 1) _).mono ?_
        rw [HDD.out]
        rintro e w4 ⟨rfl, rfl⟩
        go_wp2
        go_ret
        exact ⟨rfl, B3.out⟩
    · have hbq : ((N : Int) == b) = false := by simpa using hNb
      have hok : Hid (binsOk b N MM = false) := by unfold Hid binsOk; rw [decide_eq_false hNb, Bool.false_and]
      rw [hok.out]
      clear hNb hok
      go_enter Tryd.func45, Tryd.ntmps45
      go_wp2_with fail
      refine (spec_PlanValid _ b p a n c S HL.out HF.out hn).mono ?_
      rw [HP.out]
      rintro e w1 ⟨rfl, hb1⟩
      have B1 : Hid (Below w.heap.size w w1) := sstep (by go_grown) hb1
      have bx1 := Lib.hid (bx.out.on hb1)
      clear t0 t1 t2 hb1
      obtain ⟨⟨t0, t1, t2⟩, _⟩ := bx1.out
      go_wp2
      go_ret
      exact ⟨rfl, B1.out⟩
/-- A row of numbers, of its own. -/
def IdsOut (w : World) (L : List Int) (e : Ending) (w' : World) : Prop := ∃ v, e = .returned v ∧ IRow w' w.heap.size v L ∧ Below w.heap.size w w'
/-- The numbers of the letters in wrong bins, of the first bins. -/
def wids (b : Int) (n : Nat) (S : Nat → ByteArray) (x : Nat) (MM : Nat → List (Int × ByteArray)) (k : Nat) : List Int := (M.flat (wrongL b n S x MM) k).map Prod.fst
theorem flat_upto (F : Nat → List (Int × ByteArray)) : ∀ {N k : Nat}, k ≤ N → (M.flat F k).length ≤ (M.flat F N).length
  | 0, k, h => by obtain rfl : k = 0 := by omega
                  exact Nat.le_refl _
  | N + 1, k, h => by
    by_cases e : k = N + 1
    · subst e; exact Nat.le_refl _
    · have ih := flat_upto F (N := N) (k := k) (by omega)
      show _ ≤ (M.flat F N ++ F N).length
      rw [List.length_append]
      omega
theorem wids_len (b : Int) (n : Nat) (S : Nat → ByteArray) (x : Nat) (MM : Nat → List (Int × ByteArray)) {N k : Nat} (h : k ≤ N) : (wids b n S x MM k).length ≤ (M.flat MM N).length := by
  unfold wids
  rw [List.length_map]
  exact Nat.le_trans (flat_sub (fun k => List.length_filter_le _ _) k) (flat_upto MM h)
theorem wids_succ (b : Int) (n : Nat) (S : Nat → ByteArray) (x : Nat) (MM : Nat → List (Int × ByteArray)) (k : Nat) : wids b n S x MM (k + 1) = wids b n S x MM k ++ (M.sansF (rightB b n S x k) (MM k)).map Prod.fst := by
  unfold wids
  show (M.flat (wrongL b n S x MM) k ++ wrongL b n S x MM k).map _ = _
  rw [List.map_append]
  rfl

/-- The numbers of the letters in wrong bins. -/
def wrongIds (b p : Int) (n : Nat) (S : Nat → ByteArray) (N : Nat) (MM : Nat → List (Int × ByteArray)) (x : Int) : List Int := if binsAll b p n S N MM x = true then wids b n S x.toNat MM N else []
end Go.Proofs.YtmjgblhihpbbdaaDoor
