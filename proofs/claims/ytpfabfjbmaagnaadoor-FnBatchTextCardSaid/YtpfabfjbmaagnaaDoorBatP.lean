/-
  ParseBatch, in the program and in the model of the document.
-/
import Derived.Test.YtpfabfjbmaagnaaDoorNum9
import Derived.Test.YtpfabfjbmaagnaaDoorRow
import Derived.Test.YtpfabfjbmaagnaaDoorMat
import Derived.Test.YtpfabfjbmaagnaaDoorPair
import Derived.Lib.SmallJoins
import Derived.Deep.RegionHeld3
import Derived.Maps.AppendAt
namespace Go.Proofs.YtpfabfjbmaagnaaDoor
open Go.RowKit
open Go.PlainAid (bt get_bt bt_nonneg bt_le)
set_option linter.unusedVariables false

/-- The library's two errors of numbers are there. -/
def ErrT (w : World) : Prop := (∃ tp p, w.var? Tryd.prog "strconv.ErrSyntax" = some #[.iface tp p]) ∧ ∃ tp p, w.var? Tryd.prog "strconv.ErrRange" = some #[.iface tp p]
theorem ErrT.below {w w' : World} (h : ErrT w) (hb : Below w.heap.size w w') : ErrT w' := by
  obtain ⟨⟨t, p, h1⟩, t', p', h2⟩ := h
  have g1 : Tryd.prog.globalNamed "strconv.ErrSyntax" = some 2 := by kernel_rfl
  have g2 : Tryd.prog.globalNamed "strconv.ErrRange" = some 3 := by kernel_rfl
  exact ⟨⟨t, p, Go.var?_below hb g1 (Vars.var?_lt g1 h1) h1⟩, t', p', Go.var?_below hb g2 (Vars.var?_lt g2 h2) h2⟩
/-- How a number's reading ends: the number, or an error. -/
def AtoR (s : ByteArray) (w : World) (e : Ending) (w' : World) : Prop := (∃ v : Int, Lib.atoiAll s.data.toList = .ok v ∧ e = .returned (.tuple #[.int .i64 v, .nilIface]) ∧ Below w.heap.size w w') ∨ ∃ (v : Int) (tp : TypeId) (p : Value), (∀ x, Lib.atoiAll s.data.toList ≠ .ok x) ∧ e = .returned (.tuple #[.int .i64 v, .iface tp p]) ∧ Below w.heap.size w w'
theorem atoi_any (s : ByteArray) (w : World) (hE : ErrT w) (hs : s.size ≤ 1048576) : Calls Tryd.prog 36 #[.string s] w (AtoR s w) := by
  obtain ⟨⟨t, p, h1⟩, t', p', h2⟩ := hE
  cases h : Lib.atoiAll s.data.toList with
  | ok v =>
    refine (Tryd.strconv_Atoi_ok s (by omega) v h w).mono ?_
    rintro e w' ⟨rfl, rfl | ⟨t, rfl⟩⟩
    · exact Or.inl ⟨v, h, rfl, Below.refl _ _⟩
    · exact Or.inl ⟨v, h, rfl, Go.Joins.below_bytesWorld _ _ _ _ (Nat.le_refl _)⟩
  | range =>
    refine (Tryd.strconv_Atoi_range_var s (by omega) h t' p' w h2).mono ?_
    rintro e w' ⟨N, rfl, _, _, hb⟩
    exact Or.inr ⟨_, _, _, (fun x hx => by cases h.symm.trans hx), rfl, hb⟩
  | _ =>
    refine (Tryd.strconv_Atoi_syntax_var s (by omega) (fun x hx => by cases h.symm.trans hx) (fun hx => by cases h.symm.trans hx) t p w h1).mono ?_
    rintro e w' ⟨N, rfl, _, _, hb⟩
    exact Or.inr ⟨_, _, _, (fun x hx => by cases h.symm.trans hx), rfl, hb⟩

theorem lfit_bare {s : ByteArray} (h : ∀ x, Lib.atoiAll (M.cutL 58 s).data.toList ≠ .ok x) : LFit s (0, ⟨#[]⟩) :=
  ⟨by decide, Nat.zero_le _, fun i c h0 h1 e => by
    rw [e, (cut_app no_colon).1] at h
    exact absurd (atoi_dec h0 h1) (h i)⟩
theorem lfit_read {s : ByteArray} {v : Int} (hs : s.size ≤ 1048576) (h : Lib.atoiAll (M.cutL 58 s).data.toList = .ok v) : LFit s (v, M.cutR 58 s) :=
  ⟨atoi_bd h, Nat.le_trans (M.cutR_size 58 s) hs, fun i c h0 h1 e => by
    have h2 := h
    rw [e, (cut_app no_colon).1, atoi_dec h0 h1] at h2
    injection h2 with h2
    rw [h2, e, (cut_app no_colon).2]⟩
def LetR (s : ByteArray) (w : World) (e : Ending) (w' : World) : Prop := ∃ (i : Int) (c : ByteArray), e = .returned (.agg #[.int .i64 i, .string c]) ∧ LFit s (i, c) ∧ Below w.heap.size w w'
set_option maxHeartbeats 1000000 in
theorem impl_letterOf (s : ByteArray) (w : World) (hM : MaxL w) (hE : ErrT w) (hs : s.size ≤ 1048576) :
    Calls Tryd.prog 21 #[.string s] w (LetR s w) := by
  obtain ⟨W, hW⟩ : ∃ W, w.alloc (.cells #[.int .i64 0, .string ⟨#[]⟩] 37) = W := ⟨_, rfl⟩
  have b0 : Below w.heap.size w W := hW ▸ below_alloc0 w _
  have d0 : W.cell? ⟨w.heap.size, 0, none⟩ = some (.int .i64 0) := by rw [← hW]; simp [go_sem]
  have d1 : W.cell? ⟨w.heap.size, 1, none⟩ = some (.string ⟨#[]⟩) := by rw [← hW]; simp [go_sem]
  have g0 : W.frozen? ⟨w.heap.size, 0, none⟩ = false := by rw [← hW]; simp [go_sem]
  have g1 : W.frozen? ⟨w.heap.size, 1, none⟩ = false := by rw [← hW]; simp [go_sem]
  have hlt : w.heap.size < W.heap.size := by rw [← hW]; simp
  have HM := Lib.hid (hM.below b0)
  have HE := Lib.hid (hE.below b0)
  have HD := Lib.hid (And.intro (And.intro d0 d1) (And.intro g0 g1))
  have B0 := Lib.hid b0
  have HB := Lib.hid (fun h => lfit_bare (s := s) h)
  have HR := Lib.hid (fun v h => lfit_read (s := s) (v := v) hs h)
  have hl := M.cutL_size 58 s
  clear hM hE d0 d1 g0 g1 b0
  go_enter Tryd.func21, Tryd.ntmps21
  go_wp2_with fail
  refine (strings_cut 58 s W HM.out hs).mono ?_
  rintro e w1 ⟨y, rfl, hb1⟩
  have HE1 := Lib.hid (HE.out.below hb1)
  have K1 := Lib.hid hb1
  have z1 := hb1.size
  obtain ⟨f, hf⟩ : ∃ f, M.cutL 58 s = f := ⟨_, rfl⟩
  obtain ⟨c, hc⟩ : ∃ c, M.cutR 58 s = c := ⟨_, rfl⟩
  rw [hf] at HB HR hl
  rw [hc] at HR
  rw [hf, hc]
  clear hf hc hb1
  go_wp2_with fail
  refine (atoi_any f w1 HE1.out (by omega)).mono ?_
  rintro e w2 (⟨v, hv, rfl, hb2⟩ | ⟨v, tp, p, hv, rfl, hb2⟩)
  · have K2 := Lib.hid (K1.out.trans (hb2.mono z1))
    have z2 := K2.out.size
    have HF := Lib.hid (HR.out v hv)
    have d0 := (K2.out.cell (p := ⟨w.heap.size, 0, none⟩) hlt).trans HD.out.1.1
    have d1 := (K2.out.cell (p := ⟨w.heap.size, 1, none⟩) hlt).trans HD.out.1.2
    have g0 := (K2.out.frozen (p := ⟨w.heap.size, 0, none⟩) hlt).trans HD.out.2.1
    have g1 := (K2.out.frozen (p := ⟨w.heap.size, 1, none⟩) hlt).trans HD.out.2.2
    have BW := Lib.hid (B0.out.trans (K2.out.mono (by omega)))
    clear hv hb2
    go_wp2
    refine bodyPost_ret (v := .agg #[.int .i64 v, .string c]) (by simp [results, Tryd.results21, go_sem, d0, d1]) rfl ?_
    exact ⟨v, c, rfl, HF.out, ((BW.out.setCell (Nat.le_refl _) _).setCell (Nat.le_refl _) _)⟩
  · have K2 := Lib.hid (K1.out.trans (hb2.mono z1))
    have z2 := K2.out.size
    have HF := Lib.hid (HB.out hv)
    have d0 := (K2.out.cell (p := ⟨w.heap.size, 0, none⟩) hlt).trans HD.out.1.1
    have d1 := (K2.out.cell (p := ⟨w.heap.size, 1, none⟩) hlt).trans HD.out.1.2
    have g0 := (K2.out.frozen (p := ⟨w.heap.size, 0, none⟩) hlt).trans HD.out.2.1
    have g1 := (K2.out.frozen (p := ⟨w.heap.size, 1, none⟩) hlt).trans HD.out.2.2
    have BW := Lib.hid (B0.out.trans (K2.out.mono (by omega)))
    clear hv hb2
    go_wp2
    refine bodyPost_ret (v := .agg #[.int .i64 0, .string ⟨#[]⟩]) (by simp [results, Tryd.results21, go_sem, d0, d1]) rfl ?_
    exact ⟨0, ⟨#[]⟩, rfl, HF.out, ((BW.out.setCell (Nat.le_refl _) _).setCell (Nat.le_refl _) _)⟩
end Go.Proofs.YtpfabfjbmaagnaaDoor
