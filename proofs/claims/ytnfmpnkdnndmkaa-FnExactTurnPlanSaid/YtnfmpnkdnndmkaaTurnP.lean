/-
  TurnPlan, in the program and in the model of the document.
-/
import Derived.Test.YtnfmpnkdnndmkaaPlan
import Derived.Test.YtnfmpnkdnndmkaaSRev
import Derived.Test.YtnfmpnkdnndmkaaSMark
import Derived.Deep.RegionLaw
namespace Go.Proofs.Ytnfmpnkdnndmkaa
open Go.RowKit
set_option linter.unusedVariables false

theorem Tri.under {w w' : World} {B b : Nat} {x y z : Value} (h : Tri w b x y z) (hb : Below B w w') (hlt : b < B) : Tri w' b x y z := by
  obtain ⟨⟨h0, h1, h2⟩, f0, f1, f2⟩ := h
  have k := fun o => hb.cell (p := ⟨b, o, none⟩) hlt
  have q := fun o => hb.frozen (p := ⟨b, o, none⟩) hlt
  exact ⟨⟨by rw [k]; exact h0, by rw [k]; exact h1, by rw [k]; exact h2⟩, by rw [q]; exact f0, by rw [q]; exact f1, by rw [q]; exact f2⟩
def PlanOut (w : World) (ok : Bool) (b p : Int) (L : List ByteArray) (e : Ending) (w' : World) : Prop := ∃ v, e = .returned (.tuple #[.agg #[.int .i64 b, .int .i64 p, v], .bool ok]) ∧ SRow w' w.heap.size v L ∧ Below w.heap.size w w'
def tB (ok : Bool) (b : Int) : Int := if ok then b else 0
def tL (ok : Bool) (n : Nat) (S : Nat → ByteArray) : List ByteArray := if ok then sst (fun t => S (n - 1 - t)) n else []
theorem two_boxes (w : World) (x y z : Value) : Tri ((w.alloc (.cells #[x, y, z] 26)).alloc (.cells #[.int .i64 0, .int .i64 0, .slice none 0 0] 26)) w.heap.size x y z ∧
    Tri ((w.alloc (.cells #[x, y, z] 26)).alloc (.cells #[.int .i64 0, .int .i64 0, .slice none 0 0] 26)) (w.heap.size + 1) (.int .i64 0) (.int .i64 0) (.slice none 0 0) := by
  refine ⟨(tri_made w x y z _).alloc _, ?_⟩
  have := tri_made (w.alloc (.cells #[x, y, z] 26)) (.int .i64 0) (.int .i64 0) (.slice none 0 0) 26
  simpa using this

set_option maxHeartbeats 2000000 in
theorem impl_TurnPlan (w : World) (b p : Int) (a : Option Addr) (n c : Nat) (S : Nat → ByteArray) (h : Strs w a n S) (hf : SFits n S) (hn : n ≤ 1048576) :
    Calls Try.prog 8 #[.agg #[.int .i64 b, .int .i64 p, .slice a n c]] w (PlanOut w (M.plan b p n S) (tB (M.plan b p n S) b) (tB (M.plan b p n S) p) (tL (M.plan b p n S) n S)) := by
  have HL := Lib.hid ((h.on (below_alloc0 w (.cells #[.int .i64 b, .int .i64 p, .slice a n c] 26))).on (below_alloc0 _ (.cells #[.int .i64 0, .int .i64 0, .slice none 0 0] 26)))
  have HF := Lib.hid hf
  have BX := Lib.hid (two_boxes w (.int .i64 b) (.int .i64 p) (.slice a n c)).1
  have BY := Lib.hid (two_boxes w (.int .i64 b) (.int .i64 p) (.slice a n c)).2
  clear h hf
  cases hv : M.plan b p n S
  · have HV := Lib.hid hv
    clear hv
    go_enter Try.func8, Try.ntmps8
    go_wp2_with fail
    refine (impl_PlanValid _ b p a n c S HL.out HF.out hn).mono ?_
    rw [HV.out]
    rintro e w1 ⟨rfl, hb1⟩
    have B1 : Below w.heap.size w w1 := sstep (sstep (below_alloc0 w _) (below_alloc0 _ _)) hb1
    obtain ⟨⟨e0, e1, e2⟩, f0, f1, f2⟩ := BY.out.on hb1
    have hy := (BY.out.on hb1).lt
    go_wp2
    refine bodyPost_ret (v := .tuple #[.agg #[.int .i64 0, .int .i64 0, .slice none 0 0], .bool false]) (by simp [results, Try.results8, go_sem, e0, e1, e2]) rfl ?_
    exact ⟨_, rfl, SRow.nil _ _, by go_grown⟩
  · have HV := Lib.hid hv
    have hfit := M.fits_yes (M.plan_yes hv).1
    have h1 : 1 ≤ n := by omega
    have h60 : n ≤ 60 := by omega
    clear hv hfit
    go_enter Try.func8, Try.ntmps8
    go_wp2_with fail
    refine (impl_PlanValid _ b p a n c S HL.out HF.out hn).mono ?_
    rw [HV.out]
    rintro e w1 ⟨rfl, hb1⟩
    have HL1 := Lib.hid (HL.out.on hb1)
    replace BX := Lib.hid (BX.out.on hb1)
    replace BY := Lib.hid (BY.out.on hb1)
    have B1 : Hid (Below w.heap.size w w1) := sstep (sstep (below_alloc0 w _) (below_alloc0 _ _)) hb1
    clear hb1 HL
    obtain ⟨⟨d0, d1, d2⟩, g0, g1, g2⟩ := BX.out
    have hx := BX.out.lt
    have hy := BY.out.lt
    go_wp2_with fail
    refine (sclone w1 a n c S HL1.out hn).mono ?_
    rintro e w2 ⟨v2, rfl, r2, hb2⟩
    replace BX := Lib.hid (BX.out.on hb2)
    replace BY := Lib.hid (BY.out.on hb2)
    have B2 : Hid (Below w.heap.size w w2) := sstep B1.out hb2
    have z2 := hb2.size
    clear d0 d1 d2 g0 g1 g2 hb2 B1
    rcases r2.cases with ⟨rfl, e0⟩ | ⟨g, cc, rfl, hbg, hgl, hcc⟩
    · have := congrArg List.length e0
      rw [sst_length] at this
      simp at this
      omega
    rw [sst_length] at r2 hcc
    rw [sst_length]
    have R2 := Lib.hid r2
    clear r2
    go_wp2_with fail
    refine (sreverse_some w2 w1.heap.size g n cc S R2.out z2 hbg hn hcc).mono ?_
    rintro e w3 ⟨rfl, r3, hb3, z3⟩
    have R3 := Lib.hid r3
    replace BX := Lib.hid (BX.out.under hb3 hx)
    replace BY := Lib.hid (BY.out.under hb3 hy)
    have B3 : Hid (Below w.heap.size w w3) := B2.out.trans (hb3.mono (by omega))
    clear r3 hb3 B2 R2 HL1
    obtain ⟨⟨d0, d1, d2⟩, g0, g1, g2⟩ := BX.out
    obtain ⟨⟨e0, e1, e2⟩, f0, f1, f2⟩ := BY.out
    have hx3 := BX.out.lt
    have hy3 := BY.out.lt
    go_wp2
    refine bodyPost_ret (v := .tuple #[.agg #[.int .i64 b, .int .i64 p, .slice (some ⟨g, 0, none⟩) n cc], .bool true]) (by simp [results, Try.results8, go_sem, e0, e1, e2]) rfl ?_
    have hgy : ∀ b, (Value.slice (some ⟨g, 0, none⟩) n cc).ownBlock = some b → b ≠ w.heap.size + 1 := fun b hb => by
      have e : g = b := by simpa [Value.ownBlock] using hb
      omega
    have B3' := B3.out
    refine ⟨_, rfl, ?_, by go_grown⟩
    refine SRow.base ?_ (show w.heap.size ≤ w1.heap.size by omega)
    exact ((R3.out.set hgy _).set hgy _).set hgy _
end Go.Proofs.Ytnfmpnkdnndmkaa
