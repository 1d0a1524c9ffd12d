/-
  Drawn plans with missorts: DrawMissortsValid; a Bool of a proposition.
-/
import Derived.Test.YtbcoklognedffaaDr7
import Derived.Test.YtbcoklognedffaaMisA
namespace Go.Proofs.Ytbcoklognedffaa
open Go.RowKit
set_option linter.unusedVariables false

def PlanMis (w : World) (e : Ending) (w' : World) : Prop := ∃ (b p : Int) (a : Option Addr) (n c : Nat) (S : Nat → ByteArray) (a2 : Option Addr) (m : Nat) (I : Nat → Int) (C : Nat → ByteArray) (a3 : Option Addr) (L : List (Int × Int)) (c3 : Nat), e = .returned (.tuple #[.agg #[.int .i64 b, .int .i64 p, .slice a n c], .slice a3 L.length c3]) ∧ PLd w w' b p a n S a2 m I C ∧ Below w.heap.size w w' ∧ MsD w w' a3 L c3
set_option maxHeartbeats 2000000 in
set_option maxRecDepth 100000 in
theorem DrawMissortsValid_any (a : Option Addr) (l k : Nat) (z : List Int) (w : World) (h : IsRow .u8 w a l k z) :
    Calls Try.prog 32 #[.slice a l k] w (PlanMis w) := by
  have h' := Lib.hid (h.below (below_alloc0 w (.cells #[.int .i64 0, .int .i64 0, .slice none 0 0] 25)))
  have BY0 := Lib.hid (tri_made w (.int .i64 0) (.int .i64 0) (.slice none 0 0) 25)
  clear h
  go_enter Try.func32, Try.ntmps32
  go_wp2_with fail
  refine (open_any _ _ _ _ _ h'.out).mono ?_
  rintro e w1 ⟨r, rfl, rd1, bl1, hr1⟩
  have BY1 := Lib.hid (BY0.out.on bl1)
  have B1 : Hid (Below w.heap.size w w1) := sstep (below_alloc0 w _) bl1
  have hrw : w.heap.size < r := by simp at hr1; omega
  have RD1 := Lib.hid rd1
  have hrl := rd1.lt
  clear BY0 h' rd1 bl1 hr1
  go_wp2_with fail
  refine (l7Draw_any _ r _ RD1.out (by omega)).mono ?_
  rintro e w2 ⟨b, p, a2, n, c, S, a3, m, c3, I, C, x, a4, LM, c4, rfl, hpl, hx, ho, hcp, hms⟩
  have HP := Lib.hid hpl
  have HMS := Lib.hid hms
  have ba := below_alloc0 w2 (.cells #[.int .i64 b, .int .i64 p, .slice a2 n c] 25)
  have B2 : Hid (Below w.heap.size w (w2.alloc (.cells #[.int .i64 b, .int .i64 p, .slice a2 n c] 25))) := sstep (((Only.new (S := fun k => k = r) B1.out).trans ho (fun _ _ e => e)).below (B := w.heap.size) (fun k hk hk2 e => by omega) (Nat.le_refl _)) ba
  have BA := Lib.hid ba
  have Y2 := (BY1.out.only ho (by omega)).on ba
  have zz := ho.size
  have hne1 : w2.heap.size ≠ w.heap.size := by omega
  have hne2 : w.heap.size ≠ w2.heap.size := by omega
  have ly := Y2.lt
  obtain ⟨⟨e0, e1, e2⟩, f0, f1, f2⟩ := Y2
  clear hpl hcp hms ho BY1 B1 RD1 ba
  go_wp2
  refine bodyPost_ret (v := .tuple #[.agg #[.int .i64 b, .int .i64 p, .slice a2 n c], .slice a4 LM.length c4]) (by simp [results, Try.results32, go_sem, e0, e1, e2]) rfl ?_
  exact ⟨b, p, a2, n, c, S, a3, m, I, C, a4, LM, c4, rfl, HP.out.handed (by omega) BA.out _ _ _, below_three B2.out _ _ _, HMS.out.handed (by omega) BA.out _ _ _⟩
/-- A proposition as a Bool. -/
noncomputable def gdB (P : Prop) : Bool := @decide P (Classical.propDecidable _)
theorem gdB_true {P : Prop} : gdB P = true ↔ P := @decide_eq_true_iff P (Classical.propDecidable _)
theorem gdB_congr {P Q : Prop} (h : P ↔ Q) : gdB P = gdB Q := by rw [Bool.eq_iff_iff, gdB_true, gdB_true]; exact h
theorem mis_gdB (b p : Int) (n : Nat) (S : Nat → ByteArray) (m : Nat) (I B : Nat → Int) : M.mis b p n S m I B = gdB ((M.plan b p n S = true ∧ m ≤ 60) ∧ M.misTo (b - 1) I B m) := by
  rw [Bool.eq_iff_iff, gdB_true]
  exact ⟨fun h => ⟨⟨(M.mis_true h).1, (M.mis_true h).2.1⟩, (M.mis_true h).2.2⟩, fun h => M.mis_yes h.1.1 h.1.2 h.2⟩
/-- The missort i, alone, is valid. -/
def oneMis (y : Int) (I B : Nat → Int) (i : Nat) : Prop := (1 ≤ I i ∧ I i ≤ 9999) ∧ (0 ≤ B i ∧ B i ≤ y)
theorem mis_one {b p : Int} {n : Nat} {S : Nat → ByteArray} {I B : Nat → Int} {i : Nat} : M.mis b p n S 1 (fun j => I (i + j)) (fun j => B (i + j)) = true ↔ M.plan b p n S = true ∧ oneMis (b - 1) I B i := by
  constructor
  · intro h
    obtain ⟨h1, _, h3⟩ := M.mis_true h
    obtain ⟨h4, h5, _⟩ := h3 0 (by omega)
    exact ⟨h1, h4, h5⟩
  · intro h
    refine M.mis_yes h.1 (by omega) fun j hj => ?_
    obtain rfl : j = 0 := by omega
    exact ⟨h.2.1, h.2.2, fun k hk => absurd hk (by omega)⟩
theorem misTo_next {y : Int} {I B : Nat → Int} {i : Nat} : M.misTo y I B (i + 1) ↔ M.misTo y I B i ∧ oneMis y I B i ∧ ∀ j, j < i → I j ≠ I i := by
  constructor
  · intro h
    obtain ⟨h1, h2, h3⟩ := h i (by omega)
    exact ⟨fun k hk => h k (by omega), ⟨h1, h2⟩, h3⟩
  · intro h
    exact M.misTo_succ h.1 h.2.1.1 h.2.1.2 h.2.2
/-- What is known behind k rounds of the inner loop. -/
def midMis (P : Prop) (y : Int) (I B : Nat → Int) (i k : Nat) : Prop := P ∧ M.misTo y I B i ∧ oneMis y I B i ∧ ∀ j, j < k → I j ≠ I i
theorem mid_zero {P : Prop} {b p : Int} {n : Nat} {S : Nat → ByteArray} {I B : Nat → Int} {i : Nat} {g s : Bool} (hP : P → M.plan b p n S = true) (hg : g = gdB (P ∧ M.misTo (b - 1) I B i)) (hs : M.mis b p n S 1 (fun j => I (i + j)) (fun j => B (i + j)) = s) : (if g = true then s else false) = gdB (midMis P (b - 1) I B i 0) := by
  subst hg hs
  refine Bool.eq_iff_iff.2 (Iff.trans ?_ gdB_true.symm)
  constructor
  · intro h
    split at h
    · rename_i h1
      rw [gdB_true] at h1
      have h2 := mis_one.1 h
      exact ⟨h1.1, h1.2, h2.2, fun j hj => absurd hj (by omega)⟩
    · cases h
  · intro h
    rw [if_pos (gdB_true.2 ⟨h.1, h.2.1⟩)]
    exact mis_one.2 ⟨hP h.1, h.2.2.1⟩
theorem mid_succ {P : Prop} {y : Int} {I B : Nat → Int} {i k : Nat} {g : Bool} (hg : g = gdB (midMis P y I B i k)) : (g && !(I k == I i)) = gdB (midMis P y I B i (k + 1)) := by
  subst hg
  rw [Bool.eq_iff_iff, gdB_true, Bool.and_eq_true, gdB_true, Bool.not_eq_true', beq_eq_false_iff_ne]
  constructor
  · intro h
    refine ⟨h.1.1, h.1.2.1, h.1.2.2.1, fun j hj => ?_⟩
    by_cases e : j = k
    · subst e; exact h.2
    · exact h.1.2.2.2 j (by omega)
  · intro h
    exact ⟨⟨h.1, h.2.1, h.2.2.1, fun j hj => h.2.2.2 j (by omega)⟩, h.2.2.2 k (by omega)⟩
theorem mid_end {P : Prop} {y : Int} {I B : Nat → Int} {i : Nat} {g : Bool} (hg : g = gdB (midMis P y I B i i)) : g = gdB (P ∧ M.misTo y I B (i + 1)) := by
  subst hg
  exact gdB_congr ⟨fun h => ⟨h.1, misTo_next.2 h.2⟩, fun h => ⟨h.1, misTo_next.1 h.2⟩⟩
end Go.Proofs.Ytbcoklognedffaa
