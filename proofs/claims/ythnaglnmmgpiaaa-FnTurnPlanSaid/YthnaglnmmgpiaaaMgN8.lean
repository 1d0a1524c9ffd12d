/-
  TurnPlan, in the program and in the model of the document.
-/
import Derived.Test.YthnaglnmmgpiaaaPlan
import Derived.Test.YthnaglnmmgpiaaaMgN7
import Derived.Test.YthnaglnmmgpiaaaSMark
import Derived.Deep.RegionLaw
import Derived.Test.YthnaglnmmgpiaaaMat
import Derived.Deep.AppendLies
namespace Go.Proofs.Ythnaglnmmgpiaaa
open Go.RowKit
set_option linter.unusedVariables false

theorem Tri.under {w w' : World} {B b : Nat} {x y z : Value} (h : Tri w b x y z) (hb : Below B w w') (hlt : b < B) : Tri w' b x y z := by
  obtain ⟨⟨h0, h1, h2⟩, f0, f1, f2⟩ := h
  have k := fun o => hb.cell (p := ⟨b, o, none⟩) hlt
  have q := fun o => hb.frozen (p := ⟨b, o, none⟩) hlt
  exact ⟨⟨by rw [k]; exact h0, by rw [k]; exact h1, by rw [k]; exact h2⟩, by rw [q]; exact f0, by rw [q]; exact f1, by rw [q]; exact f2⟩
def PlanOut (w : World) (ok : Bool) (b p : Int) (L : List ByteArray) (e : Ending) (w' : World) : Prop := ∃ v, e = .returned (.tuple #[.agg #[.int .i64 b, .int .i64 p, v], .bool ok]) ∧ SRow w' w.heap.size v L ∧ Below w.heap.size w w'
def tB (ok : Bool) (b : Int) : Int := if ok then b else 0
def tL (ok : Bool) (n : Nat) (S : Nat → ByteArray) : List ByteArray := if ok then sst (fun t => S (n - 1 - t)) n else []
theorem two_boxes (w : World) (x y z : Value) : Tri ((w.alloc (.cells #[x, y, z] 25)).alloc (.cells #[.int .i64 0, .int .i64 0, .slice none 0 0] 25)) w.heap.size x y z ∧
    Tri ((w.alloc (.cells #[x, y, z] 25)).alloc (.cells #[.int .i64 0, .int .i64 0, .slice none 0 0] 25)) (w.heap.size + 1) (.int .i64 0) (.int .i64 0) (.slice none 0 0) := by
  refine ⟨(tri_made w x y z _).alloc _, ?_⟩
  have := tri_made (w.alloc (.cells #[x, y, z] 25)) (.int .i64 0) (.int .i64 0) (.slice none 0 0) 25
  simpa using this

set_option maxHeartbeats 2000000 in
theorem impl_TurnPlan (w : World) (b p : Int) (a : Option Addr) (n c : Nat) (S : Nat → ByteArray) (h : Strs w a n S) (hf : SFits n S) (hn : n ≤ 1048576) :
    Calls Try.prog 7 #[.agg #[.int .i64 b, .int .i64 p, .slice a n c]] w (PlanOut w (M.plan b p n S) (tB (M.plan b p n S) b) (tB (M.plan b p n S) p) (tL (M.plan b p n S) n S)) := by
  have HL := Lib.hid ((h.on (below_alloc0 w (.cells #[.int .i64 b, .int .i64 p, .slice a n c] 25))).on (below_alloc0 _ (.cells #[.int .i64 0, .int .i64 0, .slice none 0 0] 25)))
  have HF := Lib.hid hf
  have BX := Lib.hid (two_boxes w (.int .i64 b) (.int .i64 p) (.slice a n c)).1
  have BY := Lib.hid (two_boxes w (.int .i64 b) (.int .i64 p) (.slice a n c)).2
  clear h hf
  cases hv : M.plan b p n S
  · have HV := Lib.hid hv
    clear hv
    go_enter Try.func7, Try.ntmps7
    go_wp2_with fail
    refine (impl_PlanValid _ b p a n c S HL.out HF.out hn).mono ?_
    rw [HV.out]
    rintro e w1 ⟨rfl, hb1⟩
    have B1 : Below w.heap.size w w1 := sstep (sstep (below_alloc0 w _) (below_alloc0 _ _)) hb1
    obtain ⟨⟨e0, e1, e2⟩, f0, f1, f2⟩ := BY.out.on hb1
    have hy := (BY.out.on hb1).lt
    go_wp2
    refine bodyPost_ret (v := .tuple #[.agg #[.int .i64 0, .int .i64 0, .slice none 0 0], .bool false]) (by simp [results, Try.results7, go_sem, e0, e1, e2]) rfl ?_
    exact ⟨_, rfl, SRow.nil _ _, by go_grown⟩
  · have HV := Lib.hid hv
    have hfit := M.fits_yes (M.plan_yes hv).1
    have h1 : 1 ≤ n := by omega
    have h60 : n ≤ 60 := by omega
    clear hv hfit
    go_enter Try.func7, Try.ntmps7
    go_wp2_with fail
    refine (impl_PlanValid _ b p a n c S HL.out HF.out hn).mono ?_
    rw [HV.out]
    rintro e w1 ⟨rfl, hb1⟩
    have HL1 := Lib.hid (HL.out.on hb1)
    replace BX := Lib.hid (BX.out.on hb1)
    replace BY := Lib.hid (BY.out.on hb1)
    have B1 : Hid (Below w.heap.size w w1) := sstep (sstep (below_alloc0 w _) (below_alloc0 _ _)) hb1
    clear hb1 HL
    obtain ⟨⟨d0, d1, d2⟩, g0, g1, g2⟩ := BX.out
    have hx := BX.out.lt
    have hy := BY.out.lt
    go_wp2_with fail
    refine (sclone w1 a n c S HL1.out hn).mono ?_
    rintro e w2 ⟨v2, rfl, r2, hb2⟩
    replace BX := Lib.hid (BX.out.on hb2)
    replace BY := Lib.hid (BY.out.on hb2)
    have B2 : Hid (Below w.heap.size w w2) := sstep B1.out hb2
    have z2 := hb2.size
    clear d0 d1 d2 g0 g1 g2 hb2 B1
    rcases r2.cases with ⟨rfl, e0⟩ | ⟨g, cc, rfl, hbg, hgl, hcc⟩
    · have := congrArg List.length e0
      rw [sst_length] at this
      simp at this
      omega
    rw [sst_length] at r2 hcc
    rw [sst_length]
    have R2 := Lib.hid r2
    clear r2
    go_wp2_with fail
    refine (sreverse_some w2 w1.heap.size g n cc S R2.out z2 hbg hn hcc).mono ?_
    rintro e w3 ⟨rfl, r3, hb3, z3⟩
    have R3 := Lib.hid r3
    replace BX := Lib.hid (BX.out.under hb3 hx)
    replace BY := Lib.hid (BY.out.under hb3 hy)
    have B3 : Hid (Below w.heap.size w w3) := B2.out.trans (hb3.mono (by omega))
    clear r3 hb3 B2 R2 HL1
    obtain ⟨⟨d0, d1, d2⟩, g0, g1, g2⟩ := BX.out
    obtain ⟨⟨e0, e1, e2⟩, f0, f1, f2⟩ := BY.out
    have hx3 := BX.out.lt
    have hy3 := BY.out.lt
    go_wp2
    refine bodyPost_ret (v := .tuple #[.agg #[.int .i64 b, .int .i64 p, .slice (some ⟨g, 0, none⟩) n cc], .bool true]) (by simp [results, Try.results7, go_sem, e0, e1, e2]) rfl ?_
    have hgy : ∀ b, (Value.slice (some ⟨g, 0, none⟩) n cc).ownBlock = some b → b ≠ w.heap.size + 1 := fun b hb => by
      have e : g = b := by simpa [Value.ownBlock] using hb
      omega
    have B3' := B3.out
    refine ⟨_, rfl, ?_, by go_grown⟩
    refine SRow.base ?_ (show w.heap.size ≤ w1.heap.size by omega)
    exact ((R3.out.set hgy _).set hgy _).set hgy _
end Go.Proofs.Ythnaglnmmgpiaaa

/-
  What put leaves: one letter more in one of the pockets.
-/
namespace Go.Proofs.Ythnaglnmmgpiaaa
open Go.RowKit

/-- What put leaves of the world. -/
def Put (w : World) (base G c n : Nat) (V : Nat → Value) (M : Nat → List (Int × ByteArray)) (d : Nat) (i : Int) (s : ByteArray) (e : Ending) (w' : World) : Prop :=
  ∃ x : Value, e = .returned (.tuple #[]) ∧ Mat w' base (.slice (some ⟨G, 0, none⟩) n c) n (upd V d x) (upd M d (M d ++ [(i, s)])) ∧ Only w w' (inM (.slice (some ⟨G, 0, none⟩) n c) n V) ∧ (∀ k, x.ownBlock = some k → (V d).ownBlock = some k ∨ w.heap.size ≤ k)
set_option maxHeartbeats 2000000 in
theorem put_any (w : World) (base G c n : Nat) (V : Nat → Value) (M : Nat → List (Int × ByteArray)) (h : Mat w base (.slice (some ⟨G, 0, none⟩) n c) n V M) (hbase : base ≤ w.heap.size) (d : Nat) (hd : d < n) (i : Int) (s : ByteArray) (hl : (M d).length ≤ 1048576) :
    Calls Try.prog 52 #[.slice (some ⟨G, 0, none⟩) n c, .int .i64 d, .agg #[.int .i64 i, .string s]] w (Put w base G c n V M d i s) := by
  obtain ⟨W0, hW0⟩ : ∃ W0, w.alloc (.cells #[.int .i64 i, .string s] 32) = W0 := ⟨_, rfl⟩
  have k0 : Below w.heap.size w W0 := by rw [← hW0]; go_grown
  have zW : W0.heap.size = w.heap.size + 1 := by rw [← hW0]; simp
  have H0 := Lib.hid (h.on k0)
  have hG := h.lt (k := G) (Or.inl rfl)
  have b0 : W0.cell? ⟨w.heap.size, 0, none⟩ = some (.int .i64 i) := by rw [← hW0]; simp
  have b1 : W0.cell? ⟨w.heap.size, 1, none⟩ = some (.string s) := by rw [← hW0]; simp
  obtain ⟨a, cc, hv, hlc, _⟩ := (H0.out.2.1 d hd).form
  obtain ⟨G', c', e1, c0, c1⟩ := H0.out.cell hd
  cases e1
  have HR := Lib.hid (H0.out.2.1 d hd)
  have HVV := Lib.hid hv
  rw [hv] at c0 HR
  obtain ⟨i0, hi, hz0, hz1, hz2⟩ := info_parts info_letter
  have hdi : (d : Int) < (n : Int) := by omega
  have hd0 : (0 : Int) ≤ (d : Int) := by omega
  have hne1 : G ≠ w.heap.size := by omega
  have hne2 : w.heap.size ≠ G := by omega
  have hrow : ∀ k, (V d).ownBlock = some k → k ≠ G ∧ k < w.heap.size := fun k hk => ⟨fun e => by subst e; exact h.outer hd rfl hk, (h.lt (Or.inr ⟨d, hd, hk⟩)).2⟩
  rw [hv] at hrow
  have HRow := Lib.hid hrow
  have HW0 := Lib.hid hW0
  have K0 := Lib.hid k0
  have HH := Lib.hid h
  have zW1 : W0.heap.size ≤ w.heap.size + 1 := by omega
  have zW2 : w.heap.size + 1 ≤ W0.heap.size := by omega
  have hne3 : G ≠ W0.heap.size := by omega
  have hne4 : w.heap.size ≠ W0.heap.size := by omega
  have hG3 : G < W0.heap.size := by omega
  have hH3 : w.heap.size < W0.heap.size := by omega
  clear hW0 k0 h hrow hv hlc zW
  go_enter Try.func52, Try.ntmps52
  go_wp2
  rw [HW0.out]
  go_region_law (refine step_append_lies _ (by rfl) _ _ 30 (by rfl) base 32 i0 _ 2 24 Try.underlying30 hi hz0 hz1 hz2 rfl (by decide) _ (M d).length (lcells (M d)) (by rfl) (World.ownsRow.alloc (show _ from HR.out) _) ⟨W0.heap.size, 0, none⟩ 1 1 [.int .i64 i, .string s] (by rfl) rfl (by intro j u hu; match j, hu with | 0, hu => (simp at hu; subst hu; simp [Addr.add]) | 1, hu => (simp at hu; subst hu; simp [Addr.add])) (by intro u hu; simp at hu; rcases hu with rfl | rfl <;> rfl) (by decide) (by unfold maxLen; omega) (by omega) (by simp; omega) (W0.heap.size + 1) (by simp) ?_; intro g' cap w3 hown hgrow hat hlt; have o3 : Only W0 w3 (fun k => (Value.slice a (M d).length cc).ownBlock = some k) := Only.trans (Only.new (S := fun k => (Value.slice a (M d).length cc).ownBlock = some k) (by go_grown)) ((Only.of_grown hgrow).mono (T := fun k => (Value.slice a (M d).length cc).ownBlock = some k) (fun x _ e => e.symm)) (fun _ _ h => h); have hbG : w3.heap[G]? = W0.heap[G]? := o3.block G (by omega) (fun e => (HRow.out G e).1 rfl); have hbH : w3.heap[w.heap.size]? = W0.heap[w.heap.size]? := o3.block w.heap.size (by omega) (fun e => by have := (HRow.out _ e).2; omega); have s0 : w3.cell? ⟨G, d, none⟩ = some (.slice a (M d).length cc) := (World.cell?_of_block (a := ⟨G, d, none⟩) hbG).trans c0; have s1 : w3.frozen? ⟨G, d, none⟩ = false := (World.frozen?_of_block (a := ⟨G, d, none⟩) hbG).trans c1; have s2 : w3.cell? ⟨w.heap.size, 0, none⟩ = some (.int .i64 i) := (World.cell?_of_block (a := ⟨w.heap.size, 0, none⟩) hbH).trans b0; have s3 : w3.cell? ⟨w.heap.size, 1, none⟩ = some (.string s) := (World.cell?_of_block (a := ⟨w.heap.size, 1, none⟩) hbH).trans b1; have HO := Lib.hid hown; have O3 := Lib.hid o3; have HA : Hid ((Value.slice a (M d).length cc).ownBlock = some g' ∨ g' = W0.heap.size + 1) := hat; clear hown hgrow o3 hat hbG hbH)
  all_goals
    have HX : Hid (∀ k, (Value.slice (some ⟨g', 0, none⟩) ((M d).length + 1) cap).ownBlock = some k → (V d).ownBlock = some k ∨ W0.heap.size ≤ k) := fun k hk => by
      have e : g' = k := by simpa [Value.ownBlock] using hk
      subst e
      rcases HA.out with h | h
      · exact Or.inl (by rw [HVV.out]; exact h)
      · exact Or.inr (by omega)
    have HRW : Row w3 base (.slice (some ⟨g', 0, none⟩) ((M d).length + 1) cap) (M d ++ [(i, s)]) := by
      unfold Row
      rw [lcells_append, List.length_append]
      exact HO.out
    have HM := Lib.hid (H0.out.put hd HRW (by rw [HVV.out]; exact O3.out) HX.out)
    have HOn : Hid (Only w (w3.setCell ⟨G, d, none⟩ (.slice (some ⟨g', 0, none⟩) ((M d).length + 1) cap)) (inM (.slice (some ⟨G, 0, none⟩) n c) n V)) :=
      ((Only.new K0.out).trans (O3.out.mono (T := inM (.slice (some ⟨G, 0, none⟩) n c) n V) (fun x _ e => Or.inr ⟨d, hd, by rw [HVV.out]; exact e⟩)) (fun _ _ h => h)).trans (Only.set w3 ⟨G, d, none⟩ _ (S := inM (.slice (some ⟨G, 0, none⟩) n c) n V) (Or.inl rfl)) (fun _ _ h => h)
    refine bodyPost_end (results_none rfl _ _ _) rfl ?_
    exact ⟨_, rfl, HM.out, HOn.out, fun k hk => (HX.out k hk).imp id (fun h => by omega)⟩
end Go.Proofs.Ythnaglnmmgpiaaa
