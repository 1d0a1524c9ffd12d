/-
  The marks that a law writes into a plan's codes.
-/
import Derived.Test.YthnaglnmmgpiaaaMark
import Derived.Test.YthnaglnmmgpiaaaPlan
import Derived.Test.YthnaglnmmgpiaaaPlanM
import Derived.Test.YthnaglnmmgpiaaaMgN3
import Derived.Test.YthnaglnmmgpiaaaMgN4
namespace Go.Proofs.Ythnaglnmmgpiaaa
open Go.RowKit
open Go.PlainAid (bt get_bt bt_nonneg bt_le)

theorem SRow.on {w w' : World} {base : Nat} {v : Value} {L : List ByteArray} (h : SRow w base v L) (hb : Below w.heap.size w w') : SRow w' base v L := h.below hb

set_option maxHeartbeats 1000000 in
theorem markStringS_row (w : World) (base : Nat) (v : Value) (L : List ByteArray) (k : Nat) (h : SRow w base v L) (hn : L.length ≤ 1048576) (k1 : 1 ≤ k) (k2 : k ≤ 10000000) :
    Calls Try.prog 39 #[v, .int .i64 k] w fun e w' => e = .returned (.int .i64 ((k + L.length : Nat) : Int)) ∧ Only w w' (fun b => v.ownBlock = some b) := by
  rcases h.cases with ⟨rfl, rfl⟩ | ⟨g, c, rfl, hbg, hgl, _⟩
  · go_enter Try.func39, Try.ntmps39
    go_wp2
    go_rounds 1
    go_ret
    exact ⟨rfl, Only.refl _ _⟩
  · obtain ⟨n, hl⟩ : ∃ n, L.length = n := ⟨_, rfl⟩
    rw [hl] at h hn ⊢
    have h0 : Hid (∃ Z : List ByteArray, Z.length = n ∧ SRow w base (.slice (some ⟨g, 0, none⟩) n c) Z) := ⟨L, hl, h⟩
    clear h hl
    go_enter Try.func39, Try.ntmps39
    go_wp2
    go_loopw [1, 5] (fun q i wr => ∃ j : Nat, j ≤ n ∧ i = .int .i64 j ∧ q = .int .i64 ((k + j : Nat) : Int) ∧ Hid (∃ Z : List ByteArray, Z.length = n ∧ SRow wr base (.slice (some ⟨g, 0, none⟩) n c) Z) ∧ Hid (Only w wr (fun b => (Value.slice (some ⟨g, 0, none⟩) n c).ownBlock = some b))) (fun _ i _ => n - (intOf i).toNat)
    case atStart => exact ⟨0, Nat.zero_le _, rfl, rfl, h0, Only.refl _ _⟩
    case round =>
      obtain ⟨j, hj, rfl, rfl, hr, hg⟩ := hrel
      by_cases hlt : j < n
      · obtain ⟨X, hX⟩ : ∃ X : Nat, k + j = X := ⟨_, rfl⟩
        rw [hX]
        have HX := Lib.hid hX
        have x1 : 1 ≤ X := by omega
        have x2 : X ≤ 20000000 := by omega
        clear hX
        go_wp2_with fail
        refine (markText_any X _ (by omega) (by omega)).mono ?_
        rintro e w1 ⟨rfl, hb1⟩
        obtain ⟨M0, hM0, hs0⟩ := hr.out
        have hs1 := hs0.on hb1
        have z1 := hb1.size
        have hs2 : SRow w1 base (.slice (some ⟨g, 0, none⟩) M0.length c) M0 := by rw [hM0]; exact hs1
        obtain ⟨cc, ff⟩ := hs2.cellAt j (by omega)
        have P2 := hs2.put j (M.mark X)
        rw [List.length_set] at P2
        have P3 : Hid (∃ Z : List ByteArray, Z.length = n ∧ SRow (w1.setCell ⟨g, j, none⟩ (.string (M.mark X))) base (.slice (some ⟨g, 0, none⟩) n c) Z) := ⟨M0.set j (M.mark X), by rw [List.length_set]; exact hM0, by rw [hM0] at P2; exact P2⟩
        have O3 := Lib.hid ((hg.out.trans (Only.new (S := fun b => (Value.slice (some ⟨g, 0, none⟩) n c).ownBlock = some b) hb1) (fun _ _ h => h)).trans (Only.set w1 ⟨g, j, none⟩ (.string (M.mark X)) (S := fun b => (Value.slice (some ⟨g, 0, none⟩) n c).ownBlock = some b) rfl) (fun _ _ h => h))
        have gl := (hs1.lt g rfl).2
        generalize M0[j]'(by omega) = y at cc
        clear hs0 hs1 hs2 P2 hM0 hb1
        go_wp2
        go_roundw
        case rel => exact ⟨j + 1, by omega, by go_num, by have := HX.out; go_num, P3, O3⟩
        case measure => simp [intOf]; omega
      · obtain rfl : j = n := by omega
        go_wp2
        go_ret
        exact ⟨rfl, hg.out⟩

set_option maxHeartbeats 1000000 in
theorem markPlan_row (w : World) (base : Nat) (b p : Int) (v : Value) (L : List ByteArray) (k : Nat) (h : SRow w base v L) (hn : L.length ≤ 1048576) (k1 : 1 ≤ k) (k2 : k ≤ 10000000) :
    Calls Try.prog 21 #[.agg #[.int .i64 b, .int .i64 p, v], .int .i64 k] w fun e w' => e = .returned (.int .i64 ((k + L.length : Nat) : Int)) ∧ Only w w' (fun b => v.ownBlock = some b) := by
  have hl := h.lt
  have HS := Lib.hid (h.on (below_alloc0 w (.cells #[.int .i64 b, .int .i64 p, v] 25)))
  obtain ⟨q, hq⟩ : ∃ q : Nat, k + L.length = q := ⟨_, rfl⟩
  have hm := Lib.hid (fun W (hs : SRow W base v L) => hq ▸ markStringS_row W base v L k hs hn k1 k2)
  rw [hq]
  clear h hq
  go_enter Try.func21, Try.ntmps21
  go_wp2_with fail
  refine (hm.out _ HS.out).mono ?_
  rintro e w1 ⟨rfl, o1⟩
  go_wp2
  go_ret
  exact ⟨rfl, (Only.new (S := fun b => v.ownBlock = some b) (below_alloc0 w _)).trans o1 (fun _ _ h => h)⟩
end Go.Proofs.Ythnaglnmmgpiaaa

/-
  Whether two plans agree, as the laws' own text asks.
-/
namespace Go.Proofs.Ythnaglnmmgpiaaa
open Go.RowKit
set_option linter.unusedVariables false

set_option maxHeartbeats 2000000 in
theorem soPlans_same (w : World) (b p : Int) (a a' : Option Addr) (n c c' : Nat) (S : Nat → ByteArray) (h : Strs w a n S) (h' : Strs w a' n S) (hn : n ≤ 1048576) :
    Calls Try.prog 9 #[.agg #[.int .i64 b, .int .i64 p, .slice a n c], .agg #[.int .i64 b, .int .i64 p, .slice a' n c']] w fun e w' => e = .returned (.bool true) ∧ Below w.heap.size w w' := by
  have X0 := Lib.hid ((tri_made w (.int .i64 b) (.int .i64 p) (.slice a n c) 25).alloc (.cells #[.int .i64 b, .int .i64 p, .slice a' n c'] 25))
  have X1 := Lib.hid (tri_made (w.alloc (.cells #[.int .i64 b, .int .i64 p, .slice a n c] 25)) (.int .i64 b) (.int .i64 p) (.slice a' n c') 25)
  simp only [World.size_alloc] at X1
  have B0 : Below w.heap.size w ((w.alloc (.cells #[.int .i64 b, .int .i64 p, .slice a n c] 25)).alloc (.cells #[.int .i64 b, .int .i64 p, .slice a' n c'] 25)) := by go_grown
  have HL := Lib.hid (h.on B0)
  have HL' := Lib.hid (h'.on B0)
  have HB := Lib.hid B0
  obtain ⟨W, hW⟩ : ∃ W, (w.alloc (.cells #[.int .i64 b, .int .i64 p, .slice a n c] 25)).alloc (.cells #[.int .i64 b, .int .i64 p, .slice a' n c'] 25) = W := ⟨_, rfl⟩
  rw [hW] at X0 X1 HL HL' HB
  have HW := Lib.hid hW
  have hnn : ((n : Int) != (n : Int)) = false := by simp
  have hbb : (b != b) = false := by simp
  have hpp : (p != p) = false := by simp
  clear h h' B0 hW
  obtain ⟨⟨d0, d1, d2⟩, _⟩ := X0.out
  obtain ⟨⟨e0, e1, e2⟩, _⟩ := X1.out
  go_enter Try.func9, Try.ntmps9
  go_wp2
  rw [HW.out]
  go_wp2
  clear d0 d1 d2 e0 e1 e2
  go_loopw [5] (fun i wr => ∃ k : Nat, k ≤ n ∧ i = .int .i64 k ∧ Hid (Below W.heap.size W wr)) (fun i _ => n - (intOf i).toNat)
  case atStart => exact ⟨0, Nat.zero_le _, rfl, Below.refl _ _⟩
  case round =>
    obtain ⟨k, hk, rfl, hb⟩ := hrel
    have hz := hb.out.size
    obtain ⟨⟨d0, d1, d2⟩, _⟩ := X0.out.on hb.out
    obtain ⟨⟨e0, e1, e2⟩, _⟩ := X1.out.on hb.out
    by_cases hlt : k < n
    · obtain ⟨q, o, rfl, c0⟩ := (HL.out.on hb.out) k hlt
      obtain ⟨q', o', rfl, c0'⟩ := (HL'.out.on hb.out) k hlt
      have hd : ((S k).toList == (S k).toList) = true := by simp
      go_wp2
      go_region
      all_goals
        go_wp2
        exact ⟨⟨k + 1, by omega, by go_num, by first | exact hb | exact hb.out.drew⟩, by simp [intOf]; omega⟩
    · obtain rfl : k = n := by omega
      go_wp2
      go_ret
      exact ⟨rfl, sstep HB.out hb.out⟩
end Go.Proofs.Ythnaglnmmgpiaaa

/-
  The bins of a pass of a plan, and the letters without a rank. No program is named here.
-/
namespace Go.Proofs.Ythnaglnmmgpiaaa.M

/-- The bin of a letter in a pass, if its code has a rank. -/
def planKey (b : Int) (n : Nat) (S : Nat → ByteArray) (C : Nat → ByteArray) (x : Nat) (k : Nat) : Option Nat := if rankTo S (C k) n < 0 then none else some (rankBin b (rankTo S (C k) n) x).toNat
/-- The letters that have no bin. -/
def restTo (key : Nat → Option Nat) (I : Nat → Int) (C : Nat → ByteArray) : Nat → List (Int × ByteArray)
  | 0 => []
  | k + 1 => match key k with
    | none => restTo key I C k ++ [(I k, C k)]
    | some _ => restTo key I C k
theorem restTo_none {key : Nat → Option Nat} {k : Nat} (h : key k = none) (I : Nat → Int) (C : Nat → ByteArray) : restTo key I C (k + 1) = restTo key I C k ++ [(I k, C k)] := by
  show (match key k with | none => restTo key I C k ++ [(I k, C k)] | some _ => restTo key I C k) = _
  rw [h]
theorem restTo_some {key : Nat → Option Nat} {k d : Nat} (h : key k = some d) (I : Nat → Int) (C : Nat → ByteArray) : restTo key I C (k + 1) = restTo key I C k := by
  show (match key k with | none => restTo key I C k ++ [(I k, C k)] | some _ => restTo key I C k) = _
  rw [h]
theorem restTo_len (key : Nat → Option Nat) (I : Nat → Int) (C : Nat → ByteArray) : ∀ k, (restTo key I C k).length ≤ k
  | 0 => Nat.le_refl 0
  | k + 1 => by
    have ih := restTo_len key I C k
    cases h : key k with
    | none => rw [restTo_none h, List.length_append]; simp; omega
    | some d => rw [restTo_some h]; omega
theorem planKey_none {b : Int} {n : Nat} {S C : Nat → ByteArray} {x k : Nat} (h : rankTo S (C k) n < 0) : planKey b n S C x k = none := if_pos h
theorem planKey_some {b : Int} {n : Nat} {S C : Nat → ByteArray} {x k : Nat} (h : 0 ≤ rankTo S (C k) n) : planKey b n S C x k = some (rankBin b (rankTo S (C k) n) x).toNat := if_neg (by omega)
/-- There are bins: the plan and the batch are valid, and there is such a pass. -/
def passOk (b p : Int) (n : Nat) (S : Nat → ByteArray) (m : Nat) (I : Nat → Int) (C : Nat → ByteArray) (x : Int) : Bool := (plan b p n S && batch m I C) && decide (0 ≤ x ∧ x < p)
end Go.Proofs.Ythnaglnmmgpiaaa.M
