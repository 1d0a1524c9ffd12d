/-
  ParseBatch, in the program and in the model of the document.
-/
import Derived.Test.YtjabpidmfgcamaaDoorNum9
import Derived.Test.YtjabpidmfgcamaaDoorRow
import Derived.Test.YtjabpidmfgcamaaDoorMat
import Derived.Test.YtjabpidmfgcamaaDoorMgP4
import Derived.Lib.SmallJoins
import Derived.Deep.RegionHeld3
import Derived.Maps.AppendAt
namespace Go.Proofs.YtjabpidmfgcamaaDoor
open Go.RowKit
open Go.PlainAid (bt get_bt bt_nonneg bt_le)
set_option linter.unusedVariables false

/-- The library's two errors of numbers are there. -/
def ErrT (w : World) : Prop := (∃ tp p, w.var? Tryd.prog "strconv.ErrSyntax" = some #[.iface tp p]) ∧ ∃ tp p, w.var? Tryd.prog "strconv.ErrRange" = some #[.iface tp p]
theorem ErrT.below {w w' : World} (h : ErrT w) (hb : Below w.heap.size w w') : ErrT w' := by
  obtain ⟨⟨t, p, h1⟩, t', p', h2⟩ := h
  have g1 : Tryd.prog.globalNamed "strconv.ErrSyntax" = some 0 := by kernel_rfl
  have g2 : Tryd.prog.globalNamed "strconv.ErrRange" = some 1 := by kernel_rfl
  exact ⟨⟨t, p, Go.var?_below hb g1 (Vars.var?_lt g1 h1) h1⟩, t', p', Go.var?_below hb g2 (Vars.var?_lt g2 h2) h2⟩
/-- How a number's reading ends: the number, or an error. -/
def AtoR (s : ByteArray) (w : World) (e : Ending) (w' : World) : Prop := (∃ v : Int, Lib.atoiAll s.data.toList = .ok v ∧ e = .returned (.tuple #[.int .i64 v, .nilIface]) ∧ Below w.heap.size w w') ∨ ∃ (v : Int) (tp : TypeId) (p : Value), (∀ x, Lib.atoiAll s.data.toList ≠ .ok x) ∧ e = .returned (.tuple #[.int .i64 v, .iface tp p]) ∧ Below w.heap.size w w'
theorem atoi_any (s : ByteArray) (w : World) (hE : ErrT w) (hs : s.size ≤ 1048576) : Calls Tryd.prog 21 #[.string s] w (AtoR s w) := by
  obtain ⟨⟨t, p, h1⟩, t', p', h2⟩ := hE
  cases h : Lib.atoiAll s.data.toList with
  | ok v =>
    refine (Tryd.strconv_Atoi_ok s (by omega) v h w).mono ?_
    rintro e w' ⟨rfl, rfl | ⟨t, rfl⟩⟩
    · exact Or.inl ⟨v, h, rfl, Below.refl _ _⟩
    · exact Or.inl ⟨v, h, rfl, Go.Joins.below_bytesWorld _ _ _ _ (Nat.le_refl _)⟩
  | range =>
    refine (Tryd.strconv_Atoi_range_var s (by omega) h t' p' w h2).mono ?_
    rintro e w' ⟨N, rfl, _, _, hb⟩
    exact Or.inr ⟨_, _, _, (fun x hx => by cases h.symm.trans hx), rfl, hb⟩
  | _ =>
    refine (Tryd.strconv_Atoi_syntax_var s (by omega) (fun x hx => by cases h.symm.trans hx) (fun hx => by cases h.symm.trans hx) t p w h1).mono ?_
    rintro e w' ⟨N, rfl, _, _, hb⟩
    exact Or.inr ⟨_, _, _, (fun x hx => by cases h.symm.trans hx), rfl, hb⟩

theorem lfit_bare {s : ByteArray} (h : ∀ x, Lib.atoiAll (M.cutL 58 s).data.toList ≠ .ok x) : LFit s (0, ⟨#[]⟩) :=
  ⟨by decide, Nat.zero_le _, fun i c h0 h1 e => by
    rw [e, (cut_app no_colon).1] at h
    exact absurd (atoi_dec h0 h1) (h i)⟩
theorem lfit_read {s : ByteArray} {v : Int} (hs : s.size ≤ 1048576) (h : Lib.atoiAll (M.cutL 58 s).data.toList = .ok v) : LFit s (v, M.cutR 58 s) :=
  ⟨atoi_bd h, Nat.le_trans (M.cutR_size 58 s) hs, fun i c h0 h1 e => by
    have h2 := h
    rw [e, (cut_app no_colon).1, atoi_dec h0 h1] at h2
    injection h2 with h2
    rw [h2, e, (cut_app no_colon).2]⟩
def LetR (s : ByteArray) (w : World) (e : Ending) (w' : World) : Prop := ∃ (i : Int) (c : ByteArray), e = .returned (.agg #[.int .i64 i, .string c]) ∧ LFit s (i, c) ∧ Below w.heap.size w w'
end Go.Proofs.YtjabpidmfgcamaaDoor
