/-
  The marks of a plan's codes, known; and held.
-/
import Derived.Test.YthnaglnmmgpiaaaMgN5
import Derived.Test.YthnaglnmmgpiaaaSMark
import Derived.Test.YthnaglnmmgpiaaaMgN8
import Derived.Test.YthnaglnmmgpiaaaMark
import Derived.Test.YthnaglnmmgpiaaaMgN4
import Derived.Test.YthnaglnmmgpiaaaMgN3
import Derived.Test.YthnaglnmmgpiaaaBatch
import Derived.BigQuiet
import Derived.Deep.QuietTactic
namespace Go.Proofs.Ythnaglnmmgpiaaa
open Go.RowKit
set_option linter.unusedVariables false

set_option maxHeartbeats 1000000 in
theorem heldPlan_row (w : World) (base : Nat) (b p : Int) (v : Value) (k n : Nat) (h : SRow w base v (M.smarks k n)) (hn : n ≤ 1048576) (k1 : 1 ≤ k) (k2 : k ≤ 10000000) :
    Calls Try.prog 22 #[.agg #[.int .i64 b, .int .i64 p, v], .int .i64 k] w fun e w' => e = .returned (.int .i64 ((k + n : Nat) : Int)) ∧ Below w.heap.size w w' := by
  obtain ⟨a, c, rfl, hlc, _⟩ := h.form
  have HS := Lib.hid (h.on (below_alloc0 w (.cells #[.int .i64 b, .int .i64 p, .slice a (M.smarks k n).length c] 25)))
  obtain ⟨q, hq⟩ : ∃ q : Nat, k + n = q := ⟨_, rfl⟩
  have hm := Lib.hid (fun W (hs : SRow W base (.slice a (M.smarks k n).length c) (M.smarks k n)) => hq ▸ heldStringS_row W base _ k n hs hn k1 k2)
  have hq0 : ¬ ((q : Int) < 0) := by omega
  rw [hq]
  clear h hq hlc
  go_enter Try.func22, Try.ntmps22
  go_wp2_with fail
  refine (hm.out _ HS.out).mono ?_
  rintro e w1 ⟨rfl, o1⟩
  go_wp2
  go_ret
  exact ⟨rfl, sstep (below_alloc0 w _) o1⟩
set_option maxHeartbeats 1000000 in
theorem markPlan_full (w : World) (base : Nat) (b p : Int) (v : Value) (L : List ByteArray) (k : Nat) (h : SRow w base v L) (hn : L.length ≤ 1048576) (k1 : 1 ≤ k) (k2 : k ≤ 10000000) :
    Calls Try.prog 21 #[.agg #[.int .i64 b, .int .i64 p, v], .int .i64 k] w fun e w' => e = .returned (.int .i64 ((k + L.length : Nat) : Int)) ∧ SRow w' base v (M.smarks k L.length) ∧ Only w w' (fun b => v.ownBlock = some b) := by
  have HS := Lib.hid (h.on (below_alloc0 w (.cells #[.int .i64 b, .int .i64 p, v] 25)))
  obtain ⟨q, hq⟩ : ∃ q : Nat, k + L.length = q := ⟨_, rfl⟩
  have hm := Lib.hid (fun W (hs : SRow W base v L) => hq ▸ markStringS_full W base v L k hs hn k1 k2)
  rw [hq]
  clear h hq
  go_enter Try.func21, Try.ntmps21
  go_wp2_with fail
  refine (hm.out _ HS.out).mono ?_
  rintro e w1 ⟨rfl, r1, o1⟩
  have R1 := Lib.hid r1
  go_wp2
  go_ret
  exact ⟨rfl, R1.out, (Only.new (S := fun b => v.ownBlock = some b) (below_alloc0 w _)).trans o1 (fun _ _ h => h)⟩
set_option maxHeartbeats 1000000 in
theorem eqPlan_row (w : World) (b1 b2 : Nat) (b p : Int) (v v' : Value) (L : List ByteArray) (h : SRow w b1 v L) (h' : SRow w b2 v' L) (hn : L.length ≤ 1048576) :
    Calls Try.prog 20 #[.agg #[.int .i64 b, .int .i64 p, v], .agg #[.int .i64 b, .int .i64 p, v']] w fun e w' => e = .returned (.bool true) ∧ Below w.heap.size w w' := by
  obtain ⟨a, c, rfl, _, hl⟩ := h.form
  obtain ⟨a', c', rfl, _, hl'⟩ := h'.form
  exact eqPlan_same w b p a a' L.length c c' _ hl hl' hn
def PlanSl (w : World) (ok : Bool) (b p : Int) (L : List ByteArray) (e : Ending) (w' : World) : Prop := ∃ a c, e = .returned (.tuple #[.agg #[.int .i64 b, .int .i64 p, .slice a L.length c], .bool ok]) ∧ SRow w' w.heap.size (.slice a L.length c) L ∧ Below w.heap.size w w'
theorem planSl {P : Program} {f : FuncId} {args : Array Value} {w : World} {ok : Bool} {b p : Int} {L : List ByteArray} (h : Calls P f args w (PlanOut w ok b p L)) : Calls P f args w (PlanSl w ok b p L) :=
  h.mono fun e w' ⟨v, he, hr, hb⟩ => by
    obtain ⟨a, c, rfl, _, _⟩ := hr.form
    exact ⟨a, c, he, hr, hb⟩
theorem tL_len (ok : Bool) (n : Nat) (S : Nat → ByteArray) : (tL ok n S).length ≤ n := by
  unfold tL
  cases ok <;> simp [sst]
end Go.Proofs.Ythnaglnmmgpiaaa

/-
  Letters that are compared one by one; where the letters with a prefix stand.
-/
namespace Go.Proofs.Ythnaglnmmgpiaaa
open Go.RowKit

set_option maxHeartbeats 1000000 in
theorem soBatch_same (w : World) (a a' : Option Addr) (n c c' : Nat) (I : Nat → Int) (C : Nat → ByteArray) (h : Lts w a n I C) (h' : Lts w a' n I C) (hn : n ≤ 1048576) :
    Calls Try.prog 10 #[.slice a n c, .slice a' n c'] w fun e w' => e = .returned (.bool true) ∧ Below w.heap.size w w' := by
  have HL := Lib.hid h
  have HL' := Lib.hid h'
  clear h h'
  go_enter Try.func10, Try.ntmps10
  go_wp2
  go_loopw [5] (fun i wr => ∃ k : Nat, k ≤ n ∧ i = .int .i64 k ∧ Below w.heap.size w wr) (fun i _ => n - (intOf i).toNat)
  case atStart => exact ⟨0, Nat.zero_le _, rfl, Below.refl _ _⟩
  case round =>
    obtain ⟨k, hk, rfl, hb⟩ := hrel
    have hz := hb.size
    by_cases hlt : k < n
    · obtain ⟨b, o, rfl, c0, c1⟩ := (HL.out.on hb) k hlt
      obtain ⟨b', o', rfl, c0', c1'⟩ := (HL'.out.on hb) k hlt
      go_wp2
      go_region
      all_goals
        go_wp2
        exact ⟨⟨k + 1, by omega, by go_num, by go_grown⟩, by simp [intOf]; omega⟩
    · obtain rfl : k = n := by omega
      go_wp2
      go_ret
      exact ⟨rfl, hb⟩
theorem soBatch_row (w : World) (b1 b2 : Nat) (v v' : Value) (L : List (Int × ByteArray)) (h : Row w b1 v L) (h' : Row w b2 v' L) (hn : L.length ≤ 1048576) :
    Calls Try.prog 10 #[v, v'] w fun e w' => e = .returned (.bool true) ∧ Below w.heap.size w w' := by
  obtain ⟨a, c, rfl, _, hL⟩ := h.form
  obtain ⟨a', c', rfl, _, hL'⟩ := h'.form
  exact soBatch_same w a a' L.length c c' _ _ hL hL' hn
theorem lst_cut (I : Nat → Int) (C : Nat → ByteArray) (j : Nat) : ∀ n, j < n → ∃ R, M.lst I C n = M.lst I C j ++ (I j, C j) :: R
  | 0, h => absurd h (by omega)
  | n + 1, h => by
    by_cases e : j = n
    · subst e; exact ⟨[], M.lst_succ I C j⟩
    · obtain ⟨R, hR⟩ := lst_cut I C j n (by omega)
      exact ⟨R ++ [(I n, C n)], by rw [M.lst_succ, hR, List.append_assoc, List.cons_append]⟩
theorem withP_at {p : ByteArray} {I : Nat → Int} {C : Nat → ByteArray} {j n : Nat} (hj : j < n) (h : M.begins (C j) p = true) :
    (M.withP p (M.lst I C j)).length < (M.withP p (M.lst I C n)).length ∧ nI (M.withP p (M.lst I C n)) (M.withP p (M.lst I C j)).length = I j ∧ nC (M.withP p (M.lst I C n)) (M.withP p (M.lst I C j)).length = C j := by
  obtain ⟨R, hR⟩ := lst_cut I C j n hj
  have e : M.withP p (M.lst I C n) = M.withP p (M.lst I C j) ++ (I j, C j) :: M.withP p R := by
    rw [hR]; unfold M.withP; rw [List.filter_append, List.filter_cons, h]; rfl
  rw [e]
  refine ⟨by simp, ?_, ?_⟩
  · rw [nI_at (by simp)]; simp
  · rw [nC_at (by simp)]; simp
theorem sansP_at {p : ByteArray} {I : Nat → Int} {C : Nat → ByteArray} {j n : Nat} (hj : j < n) (h : M.begins (C j) p = false) :
    (M.sansP p (M.lst I C j)).length < (M.sansP p (M.lst I C n)).length ∧ nI (M.sansP p (M.lst I C n)) (M.sansP p (M.lst I C j)).length = I j ∧ nC (M.sansP p (M.lst I C n)) (M.sansP p (M.lst I C j)).length = C j := by
  obtain ⟨R, hR⟩ := lst_cut I C j n hj
  have e : M.sansP p (M.lst I C n) = M.sansP p (M.lst I C j) ++ (I j, C j) :: M.sansP p R := by
    rw [hR]; unfold M.sansP; rw [List.filter_append, List.filter_cons, h]; rfl
  rw [e]
  refine ⟨by simp, ?_, ?_⟩
  · rw [nI_at (by simp)]; simp
  · rw [nC_at (by simp)]; simp
end Go.Proofs.Ythnaglnmmgpiaaa

/-
  What BinPass leaves, in the program and in the model of the document.
-/
namespace Go.Proofs.Ythnaglnmmgpiaaa
open Go.RowKit
open Go.PlainAid (bt get_bt bt_nonneg bt_le)

/-- The slice of bins that a call has made. -/
def BinsOut (w : World) (n : Nat) (M : Nat → List (Int × ByteArray)) (e : Ending) (w' : World) : Prop :=
  ∃ (G c : Nat) (V : Nat → Value), e = .returned (.slice (some ⟨G, 0, none⟩) n c) ∧ Mat w' w.heap.size (.slice (some ⟨G, 0, none⟩) n c) n V M ∧ Below w.heap.size w w'
def BinsOk (w : World) (n : Nat) (M : Nat → List (Int × ByteArray)) (e : Ending) (w' : World) : Prop :=
  ∃ (G c : Nat) (V : Nat → Value), e = .returned (.tuple #[.slice (some ⟨G, 0, none⟩) n c, .bool true]) ∧ Mat w' w.heap.size (.slice (some ⟨G, 0, none⟩) n c) n V M ∧ Below w.heap.size w w'
theorem below_only {W w w' : World} {base n : Nat} {v : Value} {V : Nat → Value} {M : Nat → List (Int × ByteArray)} (hb : Below W.heap.size W w) (h : Mat w base v n V M) (hbase : W.heap.size ≤ base) (ho : Only w w' (inM v n V)) : Below W.heap.size W w' :=
  hb.trans (ho.below (B := W.heap.size) (fun k hk _ hm => by have := (h.lt hm).1; omega) hb.size)

theorem Lts.only {w w' : World} {a : Option Addr} {n : Nat} {I : Nat → Int} {C : Nat → ByteArray} {T : Nat → Prop} (h : Lts w a n I C) (ho : Only w w' T) (hn : ∀ b o, a = some ⟨b, o, none⟩ → 0 < n → ¬ T b) : Lts w' a n I C := by
  intro i hi
  obtain ⟨b, o, e, h1, h2⟩ := h i hi
  have hl := h.lt e (by omega)
  have hk := ho.block b hl (hn b o e (by omega))
  exact ⟨b, o, e, (World.cell?_of_block (a := ⟨b, o + i * 2, none⟩) hk).trans h1, (World.cell?_of_block (a := ⟨b, o + i * 2 + 1, none⟩) hk).trans h2⟩

end Go.Proofs.Ythnaglnmmgpiaaa
