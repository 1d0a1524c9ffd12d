/-
  The work of machines that the program's functions hand to runs: a faulty pass.
-/
import Derived.Test.YtmjgblhihpbbdaaDoorTake
import Derived.Deep.RegionHeld3
namespace Go.Proofs.YtmjgblhihpbbdaaDoor
open Go.RowKit
open Go.PlainAid (bt get_bt bt_nonneg bt_le)
set_option linter.unusedVariables false

/-- The boxes that FaultyPass's literal holds. -/
structure FBox (w : World) (b p : Int) (a : Option Addr) (n c : Nat) (x : Int) (a2 : Option Addr) (m c2 : Nat) (a3 : Option Addr) (m3 c3 : Nat) (P0 X0 B0 L0 V0 U0 : Nat) (v u : Value) : Prop where
  pp : Tri w P0 (.int .i64 b) (.int .i64 p) (.slice a n c)
  xx : w.cell? ⟨X0, 0, none⟩ = some (.int .i64 x)
  bb : w.cell? ⟨B0, 0, none⟩ = some (.slice a2 m c2)
  ll : w.cell? ⟨L0, 0, none⟩ = some (.slice a3 m3 c3)
  vv : w.cell? ⟨V0, 0, none⟩ = some v
  uu : w.cell? ⟨U0, 0, none⟩ = some u
  vf : w.frozen? ⟨V0, 0, none⟩ = false
  uf : w.frozen? ⟨U0, 0, none⟩ = false
theorem FBox.only {w w' : World} {b p : Int} {a : Option Addr} {n c : Nat} {x : Int} {a2 : Option Addr} {m c2 : Nat} {a3 : Option Addr} {m3 c3 P0 X0 B0 L0 V0 U0 : Nat} {v u : Value} {S : Nat → Prop} (h : FBox w b p a n c x a2 m c2 a3 m3 c3 P0 X0 B0 L0 V0 U0 v u) (ho : Only w w' S)
    (hn : ¬ S P0 ∧ ¬ S X0 ∧ ¬ S B0 ∧ ¬ S L0 ∧ ¬ S V0 ∧ ¬ S U0) : FBox w' b p a n c x a2 m c2 a3 m3 c3 P0 X0 B0 L0 V0 U0 v u := by
  have k : ∀ {q : Nat} {y : Value}, w.cell? ⟨q, 0, none⟩ = some y → ¬ S q → w'.cell? ⟨q, 0, none⟩ = some y := fun {q y} e hq => (World.cell?_of_block (ho.block q (World.block_lt_of_cell? _ _ e) hq)).trans e
  have z : ∀ {q : Nat} {y : Value}, w.cell? ⟨q, 0, none⟩ = some y → ¬ S q → w'.frozen? ⟨q, 0, none⟩ = w.frozen? ⟨q, 0, none⟩ := fun {q y} e hq => World.frozen?_of_block (ho.block q (World.block_lt_of_cell? _ _ e) hq)
  obtain ⟨h1, h2, h3, h4, h5, h6⟩ := hn
  exact ⟨triOnly h.pp ho h1, k h.xx h2, k h.bb h3, k h.ll h4, k h.vv h5, k h.uu h6, by rw [z h.vv h5]; exact h.vf, by rw [z h.uu h6]; exact h.uf⟩
theorem FBox.on {w w' : World} {b p : Int} {a : Option Addr} {n c : Nat} {x : Int} {a2 : Option Addr} {m c2 : Nat} {a3 : Option Addr} {m3 c3 P0 X0 B0 L0 V0 U0 : Nat} {v u : Value} (h : FBox w b p a n c x a2 m c2 a3 m3 c3 P0 X0 B0 L0 V0 U0 v u) (hb : Below w.heap.size w w') : FBox w' b p a n c x a2 m c2 a3 m3 c3 P0 X0 B0 L0 V0 U0 v u :=
  h.only (Only.new (S := fun _ => False) hb) ⟨fun e => e, fun e => e, fun e => e, fun e => e, fun e => e, fun e => e⟩

theorem Mat.some {w : World} {base n : Nat} {v : Value} {V : Nat → Value} {MM : Nat → List (Int × ByteArray)} (h : Mat w base v n V MM) (hn : 0 < n) : ∃ g c, v = .slice (some ⟨g, 0, none⟩) n c := by
  rcases h.form with ⟨_, e⟩ | ⟨g, c, e, _⟩
  · omega
  · exact ⟨g, c, e⟩
/-- What the work of FaultyPass leaves. -/
def FDone (w : World) (V0 U0 N : Nat) (MM : Nat → List (Int × ByteArray)) (LL : List (Int × ByteArray)) (w' : World) : Prop :=
  ∃ (v : Value) (V : Nat → Value) (u : Value), Mat w' w.heap.size v N V MM ∧ Row w' w.heap.size u LL ∧ (∀ k, u.ownBlock = some k → ¬ inM v N V k) ∧ w'.cell? ⟨V0, 0, none⟩ = some v ∧ w'.cell? ⟨U0, 0, none⟩ = some u ∧ Only w w' (fun k => k = V0 ∨ k = U0)

end Go.Proofs.YtmjgblhihpbbdaaDoor
