/-
  The work of machines that the program's functions hand to runs: a faulty pass.
-/
import Derived.Test.YtmjgblhihpbbdaaDoorTake
import Derived.Deep.RegionHeld3
import Derived.Test.YtmjgblhihpbbdaaDoorErrM
import Derived.Test.YtmjgblhihpbbdaaDoorPass
import Derived.Test.YtmjgblhihpbbdaaDoorMSpec
import Derived.Test.YtmjgblhihpbbdaaDoorRepS
namespace Go.Proofs.YtmjgblhihpbbdaaDoor
open Go.RowKit
open Go.PlainAid (bt get_bt bt_nonneg bt_le)
set_option linter.unusedVariables false

/-- The boxes that FaultyPass's literal holds. -/
structure FBox (w : World) (b p : Int) (a : Option Addr) (n c : Nat) (x : Int) (a2 : Option Addr) (m c2 : Nat) (a3 : Option Addr) (m3 c3 : Nat) (P0 X0 B0 L0 V0 U0 : Nat) (v u : Value) : Prop where
  pp : Tri w P0 (.int .i64 b) (.int .i64 p) (.slice a n c)
  xx : w.cell? ⟨X0, 0, none⟩ = some (.int .i64 x)
  bb : w.cell? ⟨B0, 0, none⟩ = some (.slice a2 m c2)
  ll : w.cell? ⟨L0, 0, none⟩ = some (.slice a3 m3 c3)
  vv : w.cell? ⟨V0, 0, none⟩ = some v
  uu : w.cell? ⟨U0, 0, none⟩ = some u
  vf : w.frozen? ⟨V0, 0, none⟩ = false
  uf : w.frozen? ⟨U0, 0, none⟩ = false
theorem FBox.only {w w' : World} {b p : Int} {a : Option Addr} {n c : Nat} {x : Int} {a2 : Option Addr} {m c2 : Nat} {a3 : Option Addr} {m3 c3 P0 X0 B0 L0 V0 U0 : Nat} {v u : Value} {S : Nat → Prop} (h : FBox w b p a n c x a2 m c2 a3 m3 c3 P0 X0 B0 L0 V0 U0 v u) (ho : Only w w' S)
    (hn : ¬ S P0 ∧ ¬ S X0 ∧ ¬ S B0 ∧ ¬ S L0 ∧ ¬ S V0 ∧ ¬ S U0) : FBox w' b p a n c x a2 m c2 a3 m3 c3 P0 X0 B0 L0 V0 U0 v u := by
  have k : ∀ {q : Nat} {y : Value}, w.cell? ⟨q, 0, none⟩ = some y → ¬ S q → w'.cell? ⟨q, 0, none⟩ = some y := fun {q y} e hq => (World.cell?_of_block (ho.block q (World.block_lt_of_cell? _ _ e) hq)).trans e
  have z : ∀ {q : Nat} {y : Value}, w.cell? ⟨q, 0, none⟩ = some y → ¬ S q → w'.frozen? ⟨q, 0, none⟩ = w.frozen? ⟨q, 0, none⟩ := fun {q y} e hq => World.frozen?_of_block (ho.block q (World.block_lt_of_cell? _ _ e) hq)
  obtain ⟨h1, h2, h3, h4, h5, h6⟩ := hn
  exact ⟨triOnly h.pp ho h1, k h.xx h2, k h.bb h3, k h.ll h4, k h.vv h5, k h.uu h6, by rw [z h.vv h5]; exact h.vf, by rw [z h.uu h6]; exact h.uf⟩
theorem FBox.on {w w' : World} {b p : Int} {a : Option Addr} {n c : Nat} {x : Int} {a2 : Option Addr} {m c2 : Nat} {a3 : Option Addr} {m3 c3 P0 X0 B0 L0 V0 U0 : Nat} {v u : Value} (h : FBox w b p a n c x a2 m c2 a3 m3 c3 P0 X0 B0 L0 V0 U0 v u) (hb : Below w.heap.size w w') : FBox w' b p a n c x a2 m c2 a3 m3 c3 P0 X0 B0 L0 V0 U0 v u :=
  h.only (Only.new (S := fun _ => False) hb) ⟨fun e => e, fun e => e, fun e => e, fun e => e, fun e => e, fun e => e⟩

theorem Mat.some {w : World} {base n : Nat} {v : Value} {V : Nat → Value} {MM : Nat → List (Int × ByteArray)} (h : Mat w base v n V MM) (hn : 0 < n) : ∃ g c, v = .slice (some ⟨g, 0, none⟩) n c := by
  rcases h.form with ⟨_, e⟩ | ⟨g, c, e, _⟩
  · omega
  · exact ⟨g, c, e⟩
/-- What the work of FaultyPass leaves. -/
def FDone (w : World) (V0 U0 N : Nat) (MM : Nat → List (Int × ByteArray)) (LL : List (Int × ByteArray)) (w' : World) : Prop :=
  ∃ (v : Value) (V : Nat → Value) (u : Value), Mat w' w.heap.size v N V MM ∧ Row w' w.heap.size u LL ∧ (∀ k, u.ownBlock = some k → ¬ inM v N V k) ∧ w'.cell? ⟨V0, 0, none⟩ = some v ∧ w'.cell? ⟨U0, 0, none⟩ = some u ∧ Only w w' (fun k => k = V0 ∨ k = U0)

end Go.Proofs.YtmjgblhihpbbdaaDoor

/-
  What FaultyPass of the program returns.
-/
namespace Go.Proofs.YtmjgblhihpbbdaaDoor
open Go.RowKit
open Go.PlainAid (bt get_bt bt_nonneg bt_le)
set_option linter.unusedVariables false

/-- There is a faulty pass. -/
noncomputable def faultyOk (b p : Int) (n : Nat) (S : Nat → ByteArray) (m : Nat) (I' : Nat → Int) (C : Nat → ByteArray) (x : Int) (m3 : Nat) (I B : Nat → Int) : Bool :=
  @decide (M.plan b p n S = true ∧ (0 ≤ x ∧ x < p) ∧ M.batch m I' C = true ∧ M.mis b p n S m3 I B = true) (Classical.propDecidable _)
noncomputable def faultyN (b p : Int) (n : Nat) (S : Nat → ByteArray) (m : Nat) (I' : Nat → Int) (C : Nat → ByteArray) (x : Int) (m3 : Nat) (I B : Nat → Int) : Nat := if faultyOk b p n S m I' C x m3 I B = true then b.toNat else 0
noncomputable def faultyL (b p : Int) (n : Nat) (S : Nat → ByteArray) (m : Nat) (I' : Nat → Int) (C : Nat → ByteArray) (x : Int) (m3 : Nat) (I B : Nat → Int) : List (Int × ByteArray) := if faultyOk b p n S m I' C x m3 I B = true then M.restTo (fkey b n S C x.toNat I' m3 I B) I' C m else []

end Go.Proofs.YtmjgblhihpbbdaaDoor

/-
  RunRepaired and RunRestarted of the program.
-/
namespace Go.Proofs.YtmjgblhihpbbdaaDoor
open Go.RowKit
open Go.PlainAid (bt get_bt bt_nonneg bt_le)
set_option linter.unusedVariables false

set_option maxHeartbeats 2000000 in
set_option maxRecDepth 100000 in
theorem impl_before_yes (w : World) (b p : Int) (a : Option Addr) (n c : Nat) (S : Nat → ByteArray) (h : Strs w a n S) (hf : SFits n S) (hn : n ≤ 1048576) (hp : M.plan b p n S = true) (x : Nat) (hx : (x : Int) < p) (a2 : Option Addr) (m c2 : Nat) (I' : Nat → Int) (C : Nat → ByteArray) (h2 : Lts w a2 m I' C) (hf2 : Fits m I' C) (hb : M.batch m I' C = true) :
    Calls Tryd.prog 57 #[mac b p (.slice a n c) x, .slice a2 m c2] w (PassesRes w (.slice a2 m c2) x (befL b n S m I' C x)) := by
  obtain ⟨s1, s2, s3, s4⟩ := M.plan_shape hp
  have bb := below_alloc0 w (.cells #[.int .i64 b, .int .i64 p, .slice a n c, .int .i64 x] 61)
  have B0 := Lib.hid bb
  have mx := Lib.hid (mac_made w b p (.slice a n c) x 61)
  have HS := Lib.hid (h.on bb)
  have HL := Lib.hid (h2.on bb)
  have HF2 := Lib.hid hf2
  have HB := Lib.hid hb
  obtain ⟨q, rfl⟩ := Int.eq_ofNat_of_zero_le (show 0 ≤ p by omega)
  have HD : Hid (∀ (W : World), Strs W a n S → Lts W a2 m I' C → Calls Tryd.prog 77 #[.agg #[.int .i64 b, .int .i64 (q : Int), .slice a n c], .slice a2 m c2, .int .i64 0, .int .i64 x] W (PassesRes W (.slice a2 m c2) x (befL b n S m I' C x))) := fun W hs hl => by
    have hl2 : Lts W a2 (M.lst I' C m).length (nI (M.lst I' C m)) (nC (M.lst I' C m)) := fun i hi => by
      rw [M.lst_length] at hi
      rw [(lst_at hi).1, (lst_at hi).2]
      exact hl i hi
    have := impl_doPasses W b q a n c S hs hf hn hp a2 c2 (M.lst I' C m) hl2 ((batchL_iff _ _ _).1 hb) 0 x x (Nat.sub_zero _) (by omega) (by omega)
    rw [M.lst_length] at this
    exact this
  obtain ⟨BL, hBL⟩ : ∃ BL, befL b n S m I' C x = BL := ⟨_, rfl⟩
  rw [hBL] at HD ⊢
  clear h hf h2 hf2 hb bb hp hBL
  unfold mac
  obtain ⟨⟨t0, t1, t2, t3⟩, _⟩ := mx.out
  go_enter Tryd.func57, Tryd.ntmps57
  go_wp2_with fail
  refine (impl_BatchValid _ a2 m c2 I' C HL.out HF2.out).mono ?_
  rw [HB.out]
  rintro e w1 ⟨rfl, hb1⟩
  have mx1 := Lib.hid (mx.out.on hb1)
  have HS1 := Lib.hid (HS.out.on hb1)
  have HL1 := Lib.hid (HL.out.on hb1)
  have B1 := Lib.hid (sstep B0.out hb1)
  clear t0 t1 t2 t3 mx B0 hb1 HS HL
  obtain ⟨⟨t0, t1, t2, t3⟩, _⟩ := mx1.out
  go_wp2_with fail
  refine (insist_yes _).mono ?_
  rintro e w2 ⟨rfl, rfl⟩
  go_wp2_with fail
  refine (HD.out _ HS1.out HL1.out).mono ?_
  rintro e w3 ⟨ap, cp, rfl, lp, orp, kp⟩
  go_wp2
  go_ret
  refine ⟨ap, cp, rfl, lp, ?_, sstep B1.out kp⟩
  rcases orp with h | ⟨h, r⟩
  · exact Or.inl h
  · exact Or.inr ⟨h, r.lower B1.out.size⟩

set_option maxHeartbeats 1000000 in
set_option maxRecDepth 100000 in
theorem impl_before_no (w : World) (J : Addr) (hj : Jam w J) (b p x : Int) (s : Value) (a2 : Option Addr) (m c2 : Nat) (I' : Nat → Int) (C : Nat → ByteArray) (h2 : Lts w a2 m I' C) (hf2 : Fits m I' C) (hb : M.batch m I' C = false) :
    Calls Tryd.prog 57 #[mac b p s x, .slice a2 m c2] w fun e w' => e = JamEnd J ∧ Below w.heap.size w w' := by
  have bb := below_alloc0 w (.cells #[.int .i64 b, .int .i64 p, s, .int .i64 x] 61)
  have B0 := Lib.hid bb
  have HL := Lib.hid (h2.on bb)
  have HJ := Lib.hid (hj.on bb)
  have HF2 := Lib.hid hf2
  have HB := Lib.hid hb
  clear h2 hf2 hj hb bb
  unfold mac
  go_enter Tryd.func57, Tryd.ntmps57
  go_wp2_with fail
  refine (impl_BatchValid _ a2 m c2 I' C HL.out HF2.out).mono ?_
  rw [HB.out]
  rintro e w1 ⟨rfl, hb1⟩
  have B1 := Lib.hid (sstep B0.out hb1)
  have HJ1 := Lib.hid (HJ.out.on hb1)
  clear hb1
  go_wp2_with fail
  refine (insist_no _ J HJ1.out).mono ?_
  rintro e w2 ⟨rfl, rfl⟩
  unfold JamEnd
  go_wp2
  exact ⟨rfl, rfl, B1.out⟩

/-- The boxes that the literals of RunRepaired and RunRestarted hold. -/
structure EBox (w : World) (b p : Int) (a : Option Addr) (n c : Nat) (x : Int) (a2 : Option Addr) (m c2 : Nat) (a3 : Option Addr) (m3 c3 : Nat) (P0 X0 B0 L0 V0 : Nat) (v : Value) : Prop where
  pp : Tri w P0 (.int .i64 b) (.int .i64 p) (.slice a n c)
  xx : w.cell? ⟨X0, 0, none⟩ = some (.int .i64 x)
  bb : w.cell? ⟨B0, 0, none⟩ = some (.slice a2 m c2)
  ll : w.cell? ⟨L0, 0, none⟩ = some (.slice a3 m3 c3)
  vv : w.cell? ⟨V0, 0, none⟩ = some v
  vf : w.frozen? ⟨V0, 0, none⟩ = false
theorem EBox.on {w w' : World} {b p : Int} {a : Option Addr} {n c : Nat} {x : Int} {a2 : Option Addr} {m c2 : Nat} {a3 : Option Addr} {m3 c3 P0 X0 B0 L0 V0 : Nat} {v : Value} (h : EBox w b p a n c x a2 m c2 a3 m3 c3 P0 X0 B0 L0 V0 v) (hb : Below w.heap.size w w') : EBox w' b p a n c x a2 m c2 a3 m3 c3 P0 X0 B0 L0 V0 v := by
  have k : ∀ {q : Nat} {y : Value}, w.cell? ⟨q, 0, none⟩ = some y → w'.cell? ⟨q, 0, none⟩ = some y := fun {q y} e => (World.cell?_of_block (hb.block q (World.block_lt_of_cell? _ _ e))).trans e
  exact ⟨h.pp.on hb, k h.xx, k h.bb, k h.ll, k h.vv, by rw [World.frozen?_of_block (hb.block V0 (World.block_lt_of_cell? _ _ h.vv))]; exact h.vf⟩

/-- What RunRepaired and RunRestarted answer. -/
def repAns (b p : Int) (n : Nat) (S : Nat → ByteArray) (m : Nat) (I' : Nat → Int) (C : Nat → ByteArray) (x : Nat) (m3 : Nat) (I B : Nat → Int) : List (Int × ByteArray) := finL b p n S x (M.flat (repM b n S x (errM b n S m I' C x m3 I B) b.toNat) b.toNat)
def resAns (b p : Int) (n : Nat) (S : Nat → ByteArray) (m : Nat) (I' : Nat → Int) (C : Nat → ByteArray) (x : Nat) (m3 : Nat) (I B : Nat → Int) : List (Int × ByteArray) := runList b p n S (M.flat (errM b n S m I' C x m3 I B) b.toNat).length (nI (M.flat (errM b n S m I' C x m3 I B) b.toNat)) (nC (M.flat (errM b n S m I' C x m3 I B) b.toNat))
noncomputable def okAns (b p : Int) (n : Nat) (S : Nat → ByteArray) (m : Nat) (I' : Nat → Int) (C : Nat → ByteArray) (x : Int) (m3 : Nat) (I B : Nat → Int) (L : List (Int × ByteArray)) : List (Int × ByteArray) := if faultyOk b p n S m I' C x m3 I B = true then L else []

set_option maxHeartbeats 4000000 in
set_option maxRecDepth 100000 in
theorem reprun1_yes (w : World) (b p : Int) (a : Option Addr) (n c : Nat) (S : Nat → ByteArray) (h : Strs w a n S) (hf : SFits n S) (hn : n ≤ 1048576) (x : Nat) (hx : (x : Int) < p) (J : Addr) (hj : Jam w J) (a2 : Option Addr) (m c2 : Nat) (I' : Nat → Int) (C : Nat → ByteArray) (h2 : Lts w a2 m I' C) (hf2 : Fits m I' C)
    (a3 : Option Addr) (m3 c3 : Nat) (I B : Nat → Int) (h3 : Mss w a3 m3 I B) (hf3 : MFits m3 I B) (hb : M.batch m I' C = true) (hmi : M.mis b p n S m3 I B = true) (P0 X0 B0 L0 V0 : Nat) (hord : P0 < V0 ∧ X0 < V0 ∧ B0 < V0 ∧ L0 < V0)
    (hx0 : EBox w b p a n c x a2 m c2 a3 m3 c3 P0 X0 B0 L0 V0 (.slice none 0 0)) :
    Calls Tryd.prog 55 #[.pointer (some ⟨P0, 0, none⟩), .pointer (some ⟨X0, 0, none⟩), .pointer (some ⟨B0, 0, none⟩), .pointer (some ⟨L0, 0, none⟩), .pointer (some ⟨V0, 0, none⟩)] w fun e w' => e = .returned (.tuple #[]) ∧ LDone w V0 (repAns b p n S m I' C x m3 I B) w' := by
  obtain ⟨hp, hm3, hmt⟩ := M.mis_true hmi
  obtain ⟨s1, s2, s3, s4⟩ := M.plan_shape hp
  have HX := Lib.hid hx0
  have HMF := machineFor_yes w b p a n c S h hf hn hp x ⟨by omega, hx⟩
  have HBF := Lib.hid (fun W (hW : Below w.heap.size w W) => impl_before_yes W b p a n c S (h.on hW) hf hn hp x hx a2 m c2 I' C (h2.on hW) hf2 hb)
  have hbl := befL_batch (n := n) (S := S) s1 hb x
  have hek := errM_ok (p := p) (n := n) (S := S) s1 hb x hmt
  have HST : Hid (∀ W (hW : Below w.heap.size w W) (ax : Option Addr) (nx cx : Nat), nx = (befL b n S m I' C x).length → Lts W ax nx (nI (befL b n S m I' C x)) (nC (befL b n S m I' C x)) → Calls Tryd.prog 56 #[mac b p (.slice a n c) x, .slice ax nx cx, .slice a3 m3 c3] W (SortRes W b.toNat (errM b n S m I' C x m3 I B) (M.restTo (fkey b n S (nC (befL b n S m I' C x)) x (nI (befL b n S m I' C x)) m3 I B) (nI (befL b n S m I' C x)) (nC (befL b n S m I' C x)) (befL b n S m I' C x).length))) := fun W hW ax nx cx e hl => by
    subst e
    exact impl_sort_yes W b p a n c S (h.on hW) hf hn x (by omega) ax _ cx _ _ hl hbl.fits a3 m3 c3 I B (h3.on hW) hf3 ((batchL_list _).2 hbl) hmi
  have HRP := Lib.hid (fun W (hW : Below w.heap.size w W) base v V (hm : Mat W base v b.toNat V (errM b n S m I' C x m3 I B)) => impl_repair_yes W b p a n c S (h.on hW) hn s1 s2 x (by omega) J (hj.on hW) base v _ V _ hm hek)
  have hek2 := repM_ok (n := n) (S := S) s1 x hek
  have HBE := Lib.hid (fun W (hW : Below w.heap.size w W) base v V (hm : Mat W base v b.toNat V (repM b n S x (errM b n S m I' C x m3 I B) b.toNat)) => impl_behind_yes W b p a n c S (h.on hW) hf hn hp x hx J (hj.on hW) base v _ V _ hm hek2)
  obtain ⟨BL, hBL⟩ : ∃ BL, befL b n S m I' C x = BL := ⟨_, rfl⟩
  obtain ⟨EM, hEM⟩ : ∃ EM, errM b n S m I' C x m3 I B = EM := ⟨_, rfl⟩
  obtain ⟨EL, hEL⟩ : ∃ EL, M.restTo (fkey b n S (nC (befL b n S m I' C x)) x (nI (befL b n S m I' C x)) m3 I B) (nI (befL b n S m I' C x)) (nC (befL b n S m I' C x)) (befL b n S m I' C x).length = EL := ⟨_, rfl⟩
  rw [hEM, hEL, hBL] at HST
  rw [hBL] at HBF
  obtain ⟨RM, hRM⟩ : ∃ RM, repM b n S x (errM b n S m I' C x m3 I B) b.toNat = RM := ⟨_, rfl⟩
  obtain ⟨RR, hRR⟩ : ∃ RR, repL b n S x (errM b n S m I' C x m3 I B) b.toNat = RR := ⟨_, rfl⟩
  obtain ⟨LL, hLL⟩ : ∃ LL, finL b p n S x (M.flat (repM b n S x (errM b n S m I' C x m3 I B) b.toNat) b.toNat) = LL := ⟨_, rfl⟩
  unfold repAns
  rw [hLL] at HBE ⊢
  rw [hRM] at HBE HRP
  rw [hRR] at HRP
  rw [hEM] at HRP
  clear hek hek2 hRM hRR hLL hEM
  obtain ⟨N, hN⟩ : ∃ N, b.toNat = N := ⟨_, rfl⟩
  rw [hN] at HST HRP HBE
  have nn1 : V0 ≠ P0 := by omega
  have nn2 : V0 ≠ X0 := by omega
  have nn3 : V0 ≠ B0 := by omega
  have nn4 : V0 ≠ L0 := by omega
  have BR := Lib.hid (Below.refl w.heap.size w)
  have lv := World.block_lt_of_cell? _ _ hx0.vv
  have hN0 : 0 < N := by omega
  clear h hf h2 hf2 h3 hf3 hb hmi hp hx0 hj hBL hEL hbl
  obtain ⟨⟨⟨t0, t1, t2⟩, _⟩, x0, b0, l0, v0, vf⟩ := HX.out
  unfold mac at HMF HST HBF
  unfold mac at HRP HBE
  go_enter Tryd.func55, Tryd.ntmps55
  go_wp2_with fail
  refine HMF.mono ?_
  rintro e w1 ⟨rfl, k1⟩
  have mx2 := Lib.hid (mac_made w1 b p (.slice a n c) x 61)
  have K1 := Lib.hid (sstep BR.out k1)
  have B2 := below_alloc0 w1 (.cells #[.int .i64 b, .int .i64 p, .slice a n c, .int .i64 x] 61)
  have K2 := Lib.hid (sstep K1.out B2)
  obtain ⟨wm, hwm⟩ : ∃ wm, w1.alloc (.cells #[.int .i64 b, .int .i64 p, .slice a n c, .int .i64 x] 61) = wm := ⟨_, rfl⟩
  rw [hwm] at mx2 K2
  have HWM := Lib.hid hwm
  clear B2 k1 t0 t1 t2 x0 b0 l0 v0 vf hwm
  have HX2 := Lib.hid (HX.out.on K2.out)
  obtain ⟨⟨y0, y1, y2, y3⟩, _⟩ := mx2.out
  obtain ⟨_, _, y5, y6, _, _⟩ := HX2.out
  go_wp2
  rw [HWM.out]
  go_region_held3 (fun w' => w'.cell? ⟨w1.heap.size, 0, none⟩ = some (.int .i64 b) ∧ w'.cell? ⟨w1.heap.size, 1, none⟩ = some (.int .i64 p) ∧ w'.cell? ⟨w1.heap.size, 2, none⟩ = some (.slice a n c) ∧ w'.cell? ⟨w1.heap.size, 3, none⟩ = some (.int .i64 x) ∧ w'.cell? ⟨B0, 0, none⟩ = some (.slice a2 m c2) ∧ w'.cell? ⟨L0, 0, none⟩ = some (.slice a3 m3 c3)) (go_keep) (first
    | (go_at_call 57; refine (HBF.out _ (by first | exact K2.out | exact K2.out.drew)).mono ?_; rintro e w3 ⟨ax, cx, rfl, lx, _, k3⟩; have K3 : Hid (Below w.heap.size w w3) := (by first | exact sstep K2.out k3 | exact sstep (sstep K2.out (Below.refl _ _).drew) k3); have L3 := Lib.hid lx; have mx3 := Lib.hid (mx2.out.on (by first | exact k3 | exact sstep (Below.refl _ _).drew k3)); have HX3 := Lib.hid (HX.out.on K3.out); obtain ⟨⟨c0, c1, c2', c3'⟩, _⟩ := mx3.out; obtain ⟨_, _, c5, c6, _, _⟩ := HX3.out; clear k3 lx)
    | (go_at_call 56; refine (HST.out _ (by first | exact K3.out | exact K3.out.drew) ax _ cx rfl (by first | exact L3.out | exact L3.out.on (Below.refl _ _).drew)).mono ?_; rintro e w4 ⟨v, V, u, rfl, hm, _, _, k4⟩; have K4 : Hid (Below w.heap.size w w4) := (by first | exact sstep K3.out k4 | exact sstep (sstep K3.out (Below.refl _ _).drew) k4); have mx4 := Lib.hid (mx3.out.on (by first | exact k4 | exact sstep (Below.refl _ _).drew k4)); have HX4 := Lib.hid (HX.out.on K4.out); obtain ⟨⟨e0, e1, e2', e3'⟩, _⟩ := mx4.out; obtain ⟨_, _, e5, e6, _, _⟩ := HX4.out; clear k4))
  all_goals
    obtain ⟨G, cG, hv⟩ := hm.some hN0
    subst hv
    obtain ⟨⟨d0, d1, d2, d3⟩, _⟩ := mx4.out
    go_wp2_with fail
    refine (HRP.out _ K4.out _ _ _ hm).mono ?_
    rintro e w5 ⟨v5, V5, u5, rfl, hm5, _, _, k5⟩
    have mx5 := Lib.hid (mx4.out.on k5)
    have K5 := Lib.hid (sstep K4.out k5)
    obtain ⟨G5, cG5, hv5⟩ := hm5.some hN0
    subst hv5
    clear d0 d1 d2 d3 k5 hm
    obtain ⟨⟨d0, d1, d2, d3⟩, _⟩ := mx5.out
    go_wp2_with fail
    refine (HBE.out _ K5.out _ _ _ hm5).mono ?_
    rintro e w6 ⟨u6, rfl, hr6, k6⟩
    obtain ⟨aU, cU, hu, _, _⟩ := hr6.form
    subst hu
    have K6 := Lib.hid (sstep K5.out k6)
    have HX6 := HX.out.on K6.out
    have Q := Lib.hid (LDone.mk' (hr6.lower K5.out.size) K6.out HX6.vv lv)
    have v6 := HX6.vv
    have f6 := HX6.vf
    clear d0 d1 d2 d3 k6 hr6 hm5 HX6
    go_wp2
    go_end0
    exact ⟨rfl, Q.out⟩

set_option maxHeartbeats 4000000 in
set_option maxRecDepth 100000 in
theorem reprun1_no (w : World) (b p : Int) (a : Option Addr) (n c : Nat) (S : Nat → ByteArray) (h : Strs w a n S) (hf : SFits n S) (hn : n ≤ 1048576) (x : Int) (J : Addr) (hj : Jam w J) (a2 : Option Addr) (m c2 : Nat) (I' : Nat → Int) (C : Nat → ByteArray) (h2 : Lts w a2 m I' C) (hf2 : Fits m I' C)
    (a3 : Option Addr) (m3 c3 : Nat) (I B : Nat → Int) (h3 : Mss w a3 m3 I B) (hf3 : MFits m3 I B) (hbad : ¬ (M.plan b p n S = true ∧ (0 ≤ x ∧ x < p) ∧ M.batch m I' C = true ∧ M.mis b p n S m3 I B = true)) (P0 X0 B0 L0 V0 : Nat)
    (hx0 : EBox w b p a n c x a2 m c2 a3 m3 c3 P0 X0 B0 L0 V0 (.slice none 0 0)) :
    Calls Tryd.prog 55 #[.pointer (some ⟨P0, 0, none⟩), .pointer (some ⟨X0, 0, none⟩), .pointer (some ⟨B0, 0, none⟩), .pointer (some ⟨L0, 0, none⟩), .pointer (some ⟨V0, 0, none⟩)] w fun e w' => e = JamEnd J ∧ Below w.heap.size w w' := by
  have HX := Lib.hid hx0
  have BR := Lib.hid (Below.refl w.heap.size w)
  obtain ⟨⟨⟨t0, t1, t2⟩, _⟩, x0, b0, l0, v0, vf⟩ := HX.out
  by_cases hmf : M.plan b p n S = true ∧ 0 ≤ x ∧ x < p
  · have HMF := machineFor_yes w b p a n c S h hf hn hmf.1 x hmf.2
    obtain ⟨s1, s2, s3, s4⟩ := M.plan_shape hmf.1
    obtain ⟨y, rfl⟩ := Int.eq_ofNat_of_zero_le hmf.2.1
    have HBY := Lib.hid (fun (e : M.batch m I' C = true) W (hW : Below w.heap.size w W) => impl_before_yes W b p a n c S (h.on hW) hf hn hmf.1 y hmf.2.2 a2 m c2 I' C (h2.on hW) hf2 e)
    have HBN := Lib.hid (fun (e : M.batch m I' C = false) W (hW : Below w.heap.size w W) => impl_before_no W J (hj.on hW) b p y (.slice a n c) a2 m c2 I' C (h2.on hW) hf2 e)
    have HSN : Hid (∀ (e : M.batch m I' C = true) W (hW : Below w.heap.size w W) (ax : Option Addr) (nx cx : Nat), nx = (befL b n S m I' C y).length → Lts W ax nx (nI (befL b n S m I' C y)) (nC (befL b n S m I' C y)) → Calls Tryd.prog 56 #[mac b p (.slice a n c) y, .slice ax nx cx, .slice a3 m3 c3] W (fun e w' => e = JamEnd J ∧ Below W.heap.size W w')) := fun e W hW ax nx cx hnx hl => by
      subst hnx
      exact impl_sort_no W J (hj.on hW) b p a n c S (h.on hW) hf hn y ax _ cx _ _ hl (befL_batch (n := n) (S := S) s1 e y).fits a3 m3 c3 I B (h3.on hW) hf3 (fun e2 => hbad ⟨hmf.1, hmf.2, e, e2.2⟩)
    obtain ⟨BL, hBL⟩ : ∃ BL, befL b n S m I' C y = BL := ⟨_, rfl⟩
    rw [hBL] at HBY HSN
    obtain ⟨x, hxy⟩ : ∃ x : Int, (y : Int) = x := ⟨_, rfl⟩
    clear h hf h2 hf2 h3 hf3 hx0 hj hmf hBL
    unfold mac at HMF HBY HBN HSN
    rw [hxy] at HMF HBY HBN HSN HX x0
    go_enter Tryd.func55, Tryd.ntmps55
    go_wp2_with fail
    refine HMF.mono ?_
    rintro e w1 ⟨rfl, k1⟩
    have mx2 := Lib.hid (mac_made w1 b p (.slice a n c) x 61)
    have K1 := Lib.hid (sstep BR.out k1)
    have B2 := below_alloc0 w1 (.cells #[.int .i64 b, .int .i64 p, .slice a n c, .int .i64 x] 61)
    have K2 := Lib.hid (sstep K1.out B2)
    obtain ⟨wm, hwm⟩ : ∃ wm, w1.alloc (.cells #[.int .i64 b, .int .i64 p, .slice a n c, .int .i64 x] 61) = wm := ⟨_, rfl⟩
    rw [hwm] at mx2 K2
    have HWM := Lib.hid hwm
    clear B2 k1 t0 t1 t2 x0 b0 l0 v0 vf hwm
    have HX2 := Lib.hid (HX.out.on K2.out)
    have BM := Lib.hid (Below.refl wm.heap.size wm)
    go_wp2
    rw [HWM.out]
    refine wp_region_held_drew (by kernel_rfl) (S := fun w' => Below wm.heap.size wm w') (by exact BM.out.drew) (fun hS => ?_)
    refine wpAnyH_take (i := 0) (v := .agg #[.int .i64 b, .int .i64 p, .slice a n c, .int .i64 x]) rfl (by kernel_rfl) (by kernel_rfl) (by kernel_rfl) (fun c a' w' h => panic_put (P := Tryd.prog) (fn := Tryd.f55) (R := fun e w' => e = JamEnd J ∧ Below w.heap.size w w') h) (Or.inl ⟨by rfl, ?_⟩) hS ?_
    · intro w' hw'
      obtain ⟨⟨c0, c1, c2', c3'⟩, _⟩ := mx2.out.on hw'
      obtain ⟨_, _, c5, c6, _, _⟩ := HX2.out.on hw'
      go_simp
    simp only [Act.put, List.setIfInBounds_toArray]
    refine wpAnyH_take (i := 1) (v := .agg #[.int .i64 b, .int .i64 p, .slice a n c, .int .i64 x]) rfl (by kernel_rfl) (by kernel_rfl) (by kernel_rfl) (fun c a' w' h => panic_put (P := Tryd.prog) (fn := Tryd.f55) (R := fun e w' => e = JamEnd J ∧ Below w.heap.size w w') h) (Or.inl ⟨by rfl, ?_⟩) hS ?_
    · intro w' hw'
      obtain ⟨⟨c0, c1, c2', c3'⟩, _⟩ := mx2.out.on hw'
      obtain ⟨_, _, c5, c6, _, _⟩ := HX2.out.on hw'
      go_simp
    simp only [Act.put]
    refine wpAnyH_take (i := 2) (v := .slice a2 m c2) rfl (by kernel_rfl) (by kernel_rfl) (by kernel_rfl) (fun c a' w' h => panic_put (P := Tryd.prog) (fn := Tryd.f55) (R := fun e w' => e = JamEnd J ∧ Below w.heap.size w w') h) (Or.inl ⟨by rfl, ?_⟩) hS ?_
    · intro w' hw'
      obtain ⟨⟨c0, c1, c2', c3'⟩, _⟩ := mx2.out.on hw'
      obtain ⟨_, _, c5, c6, _, _⟩ := HX2.out.on hw'
      go_simp
    simp only [Act.put]
    refine wpAnyH_take (i := 4) (v := .slice a3 m3 c3) rfl (by kernel_rfl) (by kernel_rfl) (by kernel_rfl) (fun c a' w' h => panic_put (P := Tryd.prog) (fn := Tryd.f55) (R := fun e w' => e = JamEnd J ∧ Below w.heap.size w w') h) (Or.inl ⟨by rfl, ?_⟩) hS ?_
    · intro w' hw'
      obtain ⟨⟨c0, c1, c2', c3'⟩, _⟩ := mx2.out.on hw'
      obtain ⟨_, _, c5, c6, _, _⟩ := HX2.out.on hw'
      go_simp
    simp only [Act.put]
    refine wpAnyH_ready (rs := [3]) (by kernel_rfl) (by simp) ?_
    refine AllReadyH.cons rfl (fun K hK => ?_) AllReadyH.nil
    go_simp
    cases hb : M.batch m I' C
    · refine (HBN.out hb _ K2.out.drew).mono ?_
      rintro e w3 ⟨rfl, k3⟩
      exact ⟨rfl, rfl, sstep K2.out.drew k3⟩
    · refine (HBY.out hb _ K2.out.drew).mono ?_
      rintro e w3 ⟨ax, cx, rfl, lx, _, k3⟩
      have K3 : Hid (Below w.heap.size w w3) := sstep K2.out.drew k3
      refine hK.out _ _ (sstep BM.out.drew k3) (fun hS1 => ?_)
      refine wpAnyH_ready (rs := [5]) (by kernel_rfl) (by simp) ?_
      refine AllReadyH.cons rfl (fun K hK => ?_) AllReadyH.nil
      go_simp
      refine (HSN.out hb _ K3.out ax _ cx rfl lx).mono ?_
      rintro e w4 ⟨rfl, k4⟩
      exact ⟨rfl, rfl, sstep K3.out k4⟩
  · have HMF := machineFor_no w J hj b p a n c S h hf hn x hmf
    clear h hf h2 hf2 h3 hf3 hx0 hj hbad hmf
    go_enter Tryd.func55, Tryd.ntmps55
    go_wp2_with fail
    refine HMF.mono ?_
    rintro e w1 ⟨rfl, k1⟩
    unfold JamEnd
    go_wp2
    exact ⟨rfl, rfl, k1⟩

theorem run_RunRepaired (cap : Array Value) (W : World) : (callFunc 55 cap).run Tryd.prog W = .ok (.enter 55 cap) W :=
  run_enter Tryd.func55 (by kernel_rfl) (by kernel_rfl) cap W
set_option maxHeartbeats 4000000 in
set_option maxRecDepth 100000 in
theorem impl_RunRepaired (w : World) (J : Addr) (hj : Jam w J) (b p : Int) (a : Option Addr) (n c : Nat) (S : Nat → ByteArray) (h : Strs w a n S) (hf : SFits n S) (hn : n ≤ 1048576) (a2 : Option Addr) (m c2 : Nat) (I' : Nat → Int) (C : Nat → ByteArray) (h2 : Lts w a2 m I' C) (hf2 : Fits m I' C) (x : Int)
    (a3 : Option Addr) (m3 c3 : Nat) (I B : Nat → Int) (h3 : Mss w a3 m3 I B) (hf3 : MFits m3 I B) :
    Calls Tryd.prog 28 #[.agg #[.int .i64 b, .int .i64 p, .slice a n c], .slice a2 m c2, .int .i64 x, .slice a3 m3 c3] w
      (RowRes w (faultyOk b p n S m I' C x m3 I B) (okAns b p n S m I' C x m3 I B (repAns b p n S m I' C x.toNat m3 I B))) := by
  have hmf : ∀ (fn : Fn) (first cap : Array Value) (w : World), (Instr.makeFunc fn first cap).run Tryd.prog w = .ok (.func fn first cap) w := fun _ _ _ _ => rfl
  obtain ⟨w6, hw6⟩ : ∃ w6, ((((w.alloc (.cells #[.int .i64 b, .int .i64 p, .slice a n c] 32)).alloc (.cells #[.slice a2 m c2] 29)).alloc (.cells #[.int .i64 x] 3)).alloc (.cells #[.slice a3 m3 c3] 50)).alloc (.cells #[.slice none 0 0] 29) = w6 := ⟨_, rfl⟩
  have B6 : Hid (Below w.heap.size w w6) := by rw [← hw6]; show Below _ _ _; go_grown
  have hz6 : w6.heap.size = w.heap.size + 5 := by rw [← hw6]; simp
  have FB : Hid (∀ W, Below w6.heap.size w6 W → EBox W b p a n c x a2 m c2 a3 m3 c3 w.heap.size (w.heap.size + 2) (w.heap.size + 1) (w.heap.size + 3) (w.heap.size + 4) (.slice none 0 0)) := fun W hW => by
    refine EBox.on ?_ hW
    rw [← hw6]
    refine ⟨((((tri_made w (.int .i64 b) (.int .i64 p) (.slice a n c) 32).alloc _).alloc _).alloc _).alloc _, ?_, ?_, ?_, ?_, ?_⟩ <;> simp [go_sem]
  have HJ6 := Lib.hid (hj.on B6.out)
  unfold okAns faultyOk
  have HH := Lib.hid (h.on B6.out)
  have HH2 := Lib.hid (h2.on B6.out)
  have HH3 := Lib.hid (h3.on B6.out)
  by_cases hok : M.plan b p n S = true ∧ (0 ≤ x ∧ x < p) ∧ M.batch m I' C = true ∧ M.mis b p n S m3 I B = true
  · rw [@decide_eq_true _ (Classical.propDecidable _) hok, if_pos rfl]
    obtain ⟨hp, hx, hb, hmi⟩ := hok
    obtain ⟨y, rfl⟩ := Int.eq_ofNat_of_zero_le hx.1
    rw [Int.toNat_natCast]
    obtain ⟨s1, s2, _⟩ := M.plan_shape hp
    have HR := Lib.hid (runs_well w6 J HJ6.out 55 #[.pointer (some ⟨w.heap.size, 0, none⟩), .pointer (some ⟨w.heap.size + 2, 0, none⟩), .pointer (some ⟨w.heap.size + 1, 0, none⟩), .pointer (some ⟨w.heap.size + 3, 0, none⟩), .pointer (some ⟨w.heap.size + 4, 0, none⟩)]
      (fun W w1 => LDone (W.alloc (.cells #[.nilIface] 90)) (w.heap.size + 4) (repAns b p n S m I' C y m3 I B) w1) (run_RunRepaired _)
      (fun W hW => by
        have hW2 : Below w6.heap.size w6 (W.alloc (.cells #[.nilIface] 90)) := hW.alloc hW.size _
        exact reprun1_yes _ b p a n c S (HH.out.on hW2) hf hn y hx.2 J (HJ6.out.on hW2) a2 m c2 I' C (HH2.out.on hW2) hf2 a3 m3 c3 I B (HH3.out.on hW2) hf3 hb hmi _ _ _ _ _ (by omega) (FB.out _ hW2))
      (fun W w1 hW hr => by
        obtain ⟨u, _, _, ho⟩ := hr
        have hs := hW.size
        have hbk := ho.block W.heap.size (by simp) (by omega)
        refine ⟨(World.cell?_of_block hbk).trans (by simp), (World.frozen?_of_block hbk).trans (by simp [go_sem]), ?_⟩
        have hj2 := (HJ6.out.on hW).on (below_alloc0 W (.cells #[.nilIface] 90))
        have hl := HJ6.out.lt
        exact (World.cell?_of_block (ho.block _ hj2.lt (show ¬ (0 = w.heap.size + 4) from by have := hj.lt; omega))).trans hj2))
    obtain ⟨LL, hLL⟩ : ∃ LL, repAns b p n S m I' C y m3 I B = LL := ⟨_, rfl⟩
    rw [hLL] at HR ⊢
    have HW6 := Lib.hid hw6
    clear h h2 h3 hj hw6 hLL FB HH HH2 HH3 hp hx hb hmi
    go_enter Tryd.func28, Tryd.ntmps28
    go_wp2_with fail
    rw [HW6.out]
    refine HR.out.mono ?_
    rintro e w7 ⟨rfl, W, wa, hW, ⟨u, hRo, hu, ho⟩, on⟩
    have hsW := hW.size
    have hszA : (W.alloc (.cells #[.nilIface] 90)).heap.size = W.heap.size + 1 := by simp
    rw [hszA] at hRo
    have u7 : w7.cell? ⟨w.heap.size + 4, 0, none⟩ = some u := (World.cell?_of_block (on.block (w.heap.size + 4) (World.block_lt_of_cell? _ _ hu) (by omega))).trans hu
    have R7 := Lib.hid (hRo.only on (fun k hk hs => by have := (hRo.lt k hk).1; omega))
    have hoz := ho.size
    rw [hszA] at hoz
    have B7 : Hid (Below w.heap.size w w7) := ((B6.out.trans (hW.mono (by omega))).trans ((below_alloc0 W (.cells #[.nilIface] 90)).mono (by omega))).trans ((ho.below (B := w.heap.size) (fun k hk _ hs => by omega) (by rw [hszA]; omega)).trans (on.below (B := w.heap.size) (fun k hk _ hs => by omega) (by omega)))
    clear hRo hu ho on
    go_wp2
    go_ret2
    exact ⟨u, rfl, R7.out.lower (by omega), by first | exact B7.out | exact below_drewN0 B7.out _⟩
  · rw [@decide_eq_false _ (Classical.propDecidable _) hok, if_neg (by decide)]
    have HR := Lib.hid (runs_jam w6 J HJ6.out 55 #[.pointer (some ⟨w.heap.size, 0, none⟩), .pointer (some ⟨w.heap.size + 2, 0, none⟩), .pointer (some ⟨w.heap.size + 1, 0, none⟩), .pointer (some ⟨w.heap.size + 3, 0, none⟩), .pointer (some ⟨w.heap.size + 4, 0, none⟩)]
      (fun W w1 => Below (W.alloc (.cells #[.nilIface] 90)).heap.size (W.alloc (.cells #[.nilIface] 90)) w1) (run_RunRepaired _)
      (fun W hW => by
        have hW2 : Below w6.heap.size w6 (W.alloc (.cells #[.nilIface] 90)) := hW.alloc hW.size _
        exact reprun1_no _ b p a n c S (HH.out.on hW2) hf hn x J (HJ6.out.on hW2) a2 m c2 I' C (HH2.out.on hW2) hf2 a3 m3 c3 I B (HH3.out.on hW2) hf3 hok _ _ _ _ _ (FB.out _ hW2))
      (fun W w1 hW hr => by
        have hbk := hr.block W.heap.size (by simp)
        exact ⟨(World.cell?_of_block hbk).trans (by simp), (World.frozen?_of_block hbk).trans (by simp [go_sem]), ((HJ6.out.on hW).on (below_alloc0 W (.cells #[.nilIface] 90))).on hr⟩))
    have HW6 := Lib.hid hw6
    have HFB := Lib.hid FB
    clear h h2 h3 hj hw6 FB HH HH2 HH3 hok
    go_enter Tryd.func28, Tryd.ntmps28
    go_wp2_with fail
    rw [HW6.out]
    refine HR.out.mono ?_
    rintro e w7 ⟨rfl, W, wa, hW, hr, on⟩
    have hsW := hW.size
    have hszA : (W.alloc (.cells #[.nilIface] 90)).heap.size = W.heap.size + 1 := by simp
    have hwa : Below w6.heap.size w6 wa := (hW.alloc hsW (.cells #[.nilIface] 90)).trans (hr.mono (by rw [hszA]; omega))
    have fb := HFB.out wa hwa
    have v7 : w7.cell? ⟨w.heap.size + 4, 0, none⟩ = some (.slice none 0 0) := (World.cell?_of_block (on.block (w.heap.size + 4) (World.block_lt_of_cell? _ _ fb.vv) (by omega))).trans fb.vv
    have hzw := hwa.size
    have B7 : Hid (Below w.heap.size w w7) := (B6.out.trans (hwa.mono (by omega))).trans (on.below (B := w.heap.size) (fun k hk _ hs => by omega) (by omega))
    clear hr on fb hwa hW
    go_wp2
    go_ret2
    exact ⟨_, rfl, Row.nil _ _, by first | exact B7.out | exact below_drewN0 B7.out _⟩
end Go.Proofs.YtmjgblhihpbbdaaDoor

/-
  RunRestarted of the program.
-/
namespace Go.Proofs.YtmjgblhihpbbdaaDoor
open Go.RowKit
open Go.PlainAid (bt get_bt bt_nonneg bt_le)
set_option linter.unusedVariables false

set_option maxHeartbeats 4000000 in
set_option maxRecDepth 100000 in
theorem resrun1_yes (w : World) (b p : Int) (a : Option Addr) (n c : Nat) (S : Nat → ByteArray) (h : Strs w a n S) (hf : SFits n S) (hn : n ≤ 1048576) (x : Nat) (hx : (x : Int) < p) (J : Addr) (hj : Jam w J) (a2 : Option Addr) (m c2 : Nat) (I' : Nat → Int) (C : Nat → ByteArray) (h2 : Lts w a2 m I' C) (hf2 : Fits m I' C)
    (a3 : Option Addr) (m3 c3 : Nat) (I B : Nat → Int) (h3 : Mss w a3 m3 I B) (hf3 : MFits m3 I B) (hb : M.batch m I' C = true) (hmi : M.mis b p n S m3 I B = true) (P0 X0 B0 L0 V0 : Nat) (hord : P0 < V0 ∧ X0 < V0 ∧ B0 < V0 ∧ L0 < V0)
    (hx0 : EBox w b p a n c x a2 m c2 a3 m3 c3 P0 X0 B0 L0 V0 (.slice none 0 0)) :
    Calls Tryd.prog 61 #[.pointer (some ⟨P0, 0, none⟩), .pointer (some ⟨X0, 0, none⟩), .pointer (some ⟨B0, 0, none⟩), .pointer (some ⟨L0, 0, none⟩), .pointer (some ⟨V0, 0, none⟩)] w fun e w' => e = .returned (.tuple #[]) ∧ LDone w V0 (resAns b p n S m I' C x m3 I B) w' := by
  obtain ⟨hp, hm3, hmt⟩ := M.mis_true hmi
  obtain ⟨s1, s2, s3, s4⟩ := M.plan_shape hp
  have HX := Lib.hid hx0
  have HMF := machineFor_yes w b p a n c S h hf hn hp x ⟨by omega, hx⟩
  have HBF := Lib.hid (fun W (hW : Below w.heap.size w W) => impl_before_yes W b p a n c S (h.on hW) hf hn hp x hx a2 m c2 I' C (h2.on hW) hf2 hb)
  have hbl := befL_batch (n := n) (S := S) s1 hb x
  have hek := errM_ok (p := p) (n := n) (S := S) s1 hb x hmt
  have HST : Hid (∀ W (hW : Below w.heap.size w W) (ax : Option Addr) (nx cx : Nat), nx = (befL b n S m I' C x).length → Lts W ax nx (nI (befL b n S m I' C x)) (nC (befL b n S m I' C x)) → Calls Tryd.prog 56 #[mac b p (.slice a n c) x, .slice ax nx cx, .slice a3 m3 c3] W (SortRes W b.toNat (errM b n S m I' C x m3 I B) (M.restTo (fkey b n S (nC (befL b n S m I' C x)) x (nI (befL b n S m I' C x)) m3 I B) (nI (befL b n S m I' C x)) (nC (befL b n S m I' C x)) (befL b n S m I' C x).length))) := fun W hW ax nx cx e hl => by
    subst e
    exact impl_sort_yes W b p a n c S (h.on hW) hf hn x (by omega) ax _ cx _ _ hl hbl.fits a3 m3 c3 I B (h3.on hW) hf3 ((batchL_list _).2 hbl) hmi
  obtain ⟨BL, hBL⟩ : ∃ BL, befL b n S m I' C x = BL := ⟨_, rfl⟩
  obtain ⟨EM, hEM⟩ : ∃ EM, errM b n S m I' C x m3 I B = EM := ⟨_, rfl⟩
  obtain ⟨EL, hEL⟩ : ∃ EL, M.restTo (fkey b n S (nC (befL b n S m I' C x)) x (nI (befL b n S m I' C x)) m3 I B) (nI (befL b n S m I' C x)) (nC (befL b n S m I' C x)) (befL b n S m I' C x).length = EL := ⟨_, rfl⟩
  rw [hEM, hEL, hBL] at HST
  rw [hBL] at HBF
  have hbe : BatchL (M.flat (errM b n S m I' C x m3 I B) b.toNat) := by
    have e2 := hek
    unfold binsOk at e2
    rw [Bool.and_eq_true] at e2
    exact (batchL_list _).1 e2.2
  have HRU : Hid (∀ W (hW : Below w.heap.size w W) (ax : Option Addr) (nx cx : Nat), nx = (M.flat (errM b n S m I' C x m3 I B) b.toNat).length → Lts W ax nx (nI (M.flat (errM b n S m I' C x m3 I B) b.toNat)) (nC (M.flat (errM b n S m I' C x m3 I B) b.toNat)) → Calls Tryd.prog 62 #[.agg #[.int .i64 b, .int .i64 p, .slice a n c], .slice ax nx cx] W (fun e w' => ∃ v v' ok, e = .returned (.tuple #[v, v', .bool ok]) ∧ Row w' W.heap.size v (resAns b p n S m I' C x m3 I B) ∧ Below W.heap.size W w')) := fun W hW ax nx cx e hl => by
    subst e
    refine (impl_RunPlan W b p a n c S (h.on hW) hf hn ax _ cx _ _ hl hbe.fits (by have := hbe.2.2; omega)).mono ?_
    rintro e w' ⟨v, v', rfl, r1, _, _, k⟩
    exact ⟨v, v', _, rfl, r1, k⟩
  obtain ⟨LL, hLL⟩ : ∃ LL, resAns b p n S m I' C x m3 I B = LL := ⟨_, rfl⟩
  have h60 := hbe.2.2
  rw [hLL] at HRU ⊢
  rw [hEM] at HRU h60
  clear hek hLL hEM hbe
  obtain ⟨N, hN⟩ : ∃ N, b.toNat = N := ⟨_, rfl⟩
  rw [hN] at HST HRU h60
  have nn1 : V0 ≠ P0 := by omega
  have nn2 : V0 ≠ X0 := by omega
  have nn3 : V0 ≠ B0 := by omega
  have nn4 : V0 ≠ L0 := by omega
  have BR := Lib.hid (Below.refl w.heap.size w)
  have lv := World.block_lt_of_cell? _ _ hx0.vv
  have hN0 : 0 < N := by omega
  clear h hf h2 hf2 h3 hf3 hb hmi hp hx0 hj hBL hEL hbl
  obtain ⟨⟨⟨t0, t1, t2⟩, _⟩, x0, b0, l0, v0, vf⟩ := HX.out
  unfold mac at HMF HST HBF
  go_enter Tryd.func61, Tryd.ntmps61
  go_wp2_with fail
  refine HMF.mono ?_
  rintro e w1 ⟨rfl, k1⟩
  have mx2 := Lib.hid (mac_made w1 b p (.slice a n c) x 61)
  have K1 := Lib.hid (sstep BR.out k1)
  have B2 := below_alloc0 w1 (.cells #[.int .i64 b, .int .i64 p, .slice a n c, .int .i64 x] 61)
  have K2 := Lib.hid (sstep K1.out B2)
  obtain ⟨wm, hwm⟩ : ∃ wm, w1.alloc (.cells #[.int .i64 b, .int .i64 p, .slice a n c, .int .i64 x] 61) = wm := ⟨_, rfl⟩
  rw [hwm] at mx2 K2
  have HWM := Lib.hid hwm
  clear B2 k1 t0 t1 t2 x0 b0 l0 v0 vf hwm
  have HX2 := Lib.hid (HX.out.on K2.out)
  obtain ⟨⟨y0, y1, y2, y3⟩, _⟩ := mx2.out
  obtain ⟨_, _, y5, y6, _, _⟩ := HX2.out
  go_wp2
  rw [HWM.out]
  go_region_held3 (fun w' => w'.cell? ⟨w1.heap.size, 0, none⟩ = some (.int .i64 b) ∧ w'.cell? ⟨w1.heap.size, 1, none⟩ = some (.int .i64 p) ∧ w'.cell? ⟨w1.heap.size, 2, none⟩ = some (.slice a n c) ∧ w'.cell? ⟨w1.heap.size, 3, none⟩ = some (.int .i64 x) ∧ w'.cell? ⟨B0, 0, none⟩ = some (.slice a2 m c2) ∧ w'.cell? ⟨L0, 0, none⟩ = some (.slice a3 m3 c3)) (go_keep) (first
    | (go_at_call 57; refine (HBF.out _ (by first | exact K2.out | exact K2.out.drew)).mono ?_; rintro e w3 ⟨ax, cx, rfl, lx, _, k3⟩; have K3 : Hid (Below w.heap.size w w3) := (by first | exact sstep K2.out k3 | exact sstep (sstep K2.out (Below.refl _ _).drew) k3); have L3 := Lib.hid lx; have mx3 := Lib.hid (mx2.out.on (by first | exact k3 | exact sstep (Below.refl _ _).drew k3)); have HX3 := Lib.hid (HX.out.on K3.out); obtain ⟨⟨c0, c1, c2', c3'⟩, _⟩ := mx3.out; obtain ⟨_, _, c5, c6, _, _⟩ := HX3.out; clear k3 lx)
    | (go_at_call 56; refine (HST.out _ (by first | exact K3.out | exact K3.out.drew) ax _ cx rfl (by first | exact L3.out | exact L3.out.on (Below.refl _ _).drew)).mono ?_; rintro e w4 ⟨v, V, u, rfl, hm, _, _, k4⟩; have K4 : Hid (Below w.heap.size w w4) := (by first | exact sstep K3.out k4 | exact sstep (sstep K3.out (Below.refl _ _).drew) k4); have mx4 := Lib.hid (mx3.out.on (by first | exact k4 | exact sstep (Below.refl _ _).drew k4)); have HX4 := Lib.hid (HX.out.on K4.out); obtain ⟨⟨e0, e1, e2', e3'⟩, _⟩ := mx4.out; obtain ⟨_, _, e5, e6, _, _⟩ := HX4.out; clear k4))
  all_goals
    have HC : Hid (∀ W, Below w4.heap.size w4 W → Calls Tryd.prog 63 #[v] W (RowOut W (M.flat EM N))) := fun W hW => slices_Concat W _ _ N V EM (hm.on hW) (by omega) (by omega)
    obtain ⟨FL, hFL⟩ : ∃ FL, M.flat EM N = FL := ⟨_, rfl⟩
    rw [hFL] at HC h60 HRU
    obtain ⟨G, cG, hv⟩ := hm.some hN0
    subst hv
    obtain ⟨⟨⟨z0, z1, z2⟩, _⟩, _, _, _, z6, z7⟩ := HX4.out
    clear hm hFL
    go_wp2
    go_region_held3 (fun w' => w'.cell? ⟨P0, 0, none⟩ = some (.int .i64 b) ∧ w'.cell? ⟨P0, 1, none⟩ = some (.int .i64 p) ∧ w'.cell? ⟨P0, 2, none⟩ = some (.slice a n c)) (go_keep) (first
      | (go_at_call 63; refine (HC.out _ (by first | exact Below.refl _ _ | exact bdrew _)).mono ?_; rintro e w5 ⟨vc, rfl, rc, k5⟩; have kC : Below w4.heap.size w4 w5 := (by first | exact k5 | exact sstep (bdrew _) k5); obtain ⟨ac, cc, hvc, _, hlc⟩ := rc.form; subst hvc; have HLC := Lib.hid hlc; have K5 := Lib.hid (sstep K4.out kC); have HX5 := Lib.hid (HX.out.on K5.out); obtain ⟨⟨⟨f0, f1, f2⟩, _⟩, _, _, _, f6, f7⟩ := HX5.out; clear rc k5 kC hlc)
      | (go_at_call 62; refine (HRU.out _ (by first | exact K5.out | exact K5.out.drew) ac _ cc rfl (by first | exact HLC.out | exact HLC.out.on (bdrew _))).mono ?_; rintro e w6 ⟨v6, v7, ok6, rfl, hr6, k6⟩; have kP : Below w5.heap.size w5 w6 := (by first | exact k6 | exact sstep (bdrew _) k6); obtain ⟨aU, cU, hu, _, _⟩ := hr6.form; subst hu; have K6 := Lib.hid (sstep K5.out kP); have HX6 := Lib.hid (HX.out.on K6.out); obtain ⟨⟨⟨g0, g1, g2⟩, _⟩, _, _, _, g6, g7⟩ := HX6.out; have HR6 := Lib.hid (hr6.lower (base' := w.heap.size) (by first | exact K5.out.size | exact K5.out.drew.size)); clear hr6 k6 kP))
    all_goals
      have Q := Lib.hid (LDone.mk' HR6.out K6.out HX6.out.vv lv)
      go_wp2
      go_end0
      exact ⟨rfl, Q.out⟩

set_option maxHeartbeats 4000000 in
set_option maxRecDepth 100000 in
theorem resrun1_no (w : World) (b p : Int) (a : Option Addr) (n c : Nat) (S : Nat → ByteArray) (h : Strs w a n S) (hf : SFits n S) (hn : n ≤ 1048576) (x : Int) (J : Addr) (hj : Jam w J) (a2 : Option Addr) (m c2 : Nat) (I' : Nat → Int) (C : Nat → ByteArray) (h2 : Lts w a2 m I' C) (hf2 : Fits m I' C)
    (a3 : Option Addr) (m3 c3 : Nat) (I B : Nat → Int) (h3 : Mss w a3 m3 I B) (hf3 : MFits m3 I B) (hbad : ¬ (M.plan b p n S = true ∧ (0 ≤ x ∧ x < p) ∧ M.batch m I' C = true ∧ M.mis b p n S m3 I B = true)) (P0 X0 B0 L0 V0 : Nat)
    (hx0 : EBox w b p a n c x a2 m c2 a3 m3 c3 P0 X0 B0 L0 V0 (.slice none 0 0)) :
    Calls Tryd.prog 61 #[.pointer (some ⟨P0, 0, none⟩), .pointer (some ⟨X0, 0, none⟩), .pointer (some ⟨B0, 0, none⟩), .pointer (some ⟨L0, 0, none⟩), .pointer (some ⟨V0, 0, none⟩)] w fun e w' => e = JamEnd J ∧ Below w.heap.size w w' := by
  have HX := Lib.hid hx0
  have BR := Lib.hid (Below.refl w.heap.size w)
  obtain ⟨⟨⟨t0, t1, t2⟩, _⟩, x0, b0, l0, v0, vf⟩ := HX.out
  by_cases hmf : M.plan b p n S = true ∧ 0 ≤ x ∧ x < p
  · have HMF := machineFor_yes w b p a n c S h hf hn hmf.1 x hmf.2
    obtain ⟨s1, s2, s3, s4⟩ := M.plan_shape hmf.1
    obtain ⟨y, rfl⟩ := Int.eq_ofNat_of_zero_le hmf.2.1
    have HBY := Lib.hid (fun (e : M.batch m I' C = true) W (hW : Below w.heap.size w W) => impl_before_yes W b p a n c S (h.on hW) hf hn hmf.1 y hmf.2.2 a2 m c2 I' C (h2.on hW) hf2 e)
    have HBN := Lib.hid (fun (e : M.batch m I' C = false) W (hW : Below w.heap.size w W) => impl_before_no W J (hj.on hW) b p y (.slice a n c) a2 m c2 I' C (h2.on hW) hf2 e)
    have HSN : Hid (∀ (e : M.batch m I' C = true) W (hW : Below w.heap.size w W) (ax : Option Addr) (nx cx : Nat), nx = (befL b n S m I' C y).length → Lts W ax nx (nI (befL b n S m I' C y)) (nC (befL b n S m I' C y)) → Calls Tryd.prog 56 #[mac b p (.slice a n c) y, .slice ax nx cx, .slice a3 m3 c3] W (fun e w' => e = JamEnd J ∧ Below W.heap.size W w')) := fun e W hW ax nx cx hnx hl => by
      subst hnx
      exact impl_sort_no W J (hj.on hW) b p a n c S (h.on hW) hf hn y ax _ cx _ _ hl (befL_batch (n := n) (S := S) s1 e y).fits a3 m3 c3 I B (h3.on hW) hf3 (fun e2 => hbad ⟨hmf.1, hmf.2, e, e2.2⟩)
    obtain ⟨BL, hBL⟩ : ∃ BL, befL b n S m I' C y = BL := ⟨_, rfl⟩
    rw [hBL] at HBY HSN
    obtain ⟨x, hxy⟩ : ∃ x : Int, (y : Int) = x := ⟨_, rfl⟩
    clear h hf h2 hf2 h3 hf3 hx0 hj hmf hBL
    unfold mac at HMF HBY HBN HSN
    rw [hxy] at HMF HBY HBN HSN HX x0
    go_enter Tryd.func61, Tryd.ntmps61
    go_wp2_with fail
    refine HMF.mono ?_
    rintro e w1 ⟨rfl, k1⟩
    have mx2 := Lib.hid (mac_made w1 b p (.slice a n c) x 61)
    have K1 := Lib.hid (sstep BR.out k1)
    have B2 := below_alloc0 w1 (.cells #[.int .i64 b, .int .i64 p, .slice a n c, .int .i64 x] 61)
    have K2 := Lib.hid (sstep K1.out B2)
    obtain ⟨wm, hwm⟩ : ∃ wm, w1.alloc (.cells #[.int .i64 b, .int .i64 p, .slice a n c, .int .i64 x] 61) = wm := ⟨_, rfl⟩
    rw [hwm] at mx2 K2
    have HWM := Lib.hid hwm
    clear B2 k1 t0 t1 t2 x0 b0 l0 v0 vf hwm
    have HX2 := Lib.hid (HX.out.on K2.out)
    have BM := Lib.hid (Below.refl wm.heap.size wm)
    go_wp2
    rw [HWM.out]
    refine wp_region_held_drew (by kernel_rfl) (S := fun w' => Below wm.heap.size wm w') (by exact BM.out.drew) (fun hS => ?_)
    refine wpAnyH_take (i := 0) (v := .agg #[.int .i64 b, .int .i64 p, .slice a n c, .int .i64 x]) rfl (by kernel_rfl) (by kernel_rfl) (by kernel_rfl) (fun c a' w' h => panic_put (P := Tryd.prog) (fn := Tryd.f61) (R := fun e w' => e = JamEnd J ∧ Below w.heap.size w w') h) (Or.inl ⟨by rfl, ?_⟩) hS ?_
    · intro w' hw'
      obtain ⟨⟨c0, c1, c2', c3'⟩, _⟩ := mx2.out.on hw'
      obtain ⟨_, _, c5, c6, _, _⟩ := HX2.out.on hw'
      go_simp
    simp only [Act.put, List.setIfInBounds_toArray]
    refine wpAnyH_take (i := 1) (v := .agg #[.int .i64 b, .int .i64 p, .slice a n c, .int .i64 x]) rfl (by kernel_rfl) (by kernel_rfl) (by kernel_rfl) (fun c a' w' h => panic_put (P := Tryd.prog) (fn := Tryd.f61) (R := fun e w' => e = JamEnd J ∧ Below w.heap.size w w') h) (Or.inl ⟨by rfl, ?_⟩) hS ?_
    · intro w' hw'
      obtain ⟨⟨c0, c1, c2', c3'⟩, _⟩ := mx2.out.on hw'
      obtain ⟨_, _, c5, c6, _, _⟩ := HX2.out.on hw'
      go_simp
    simp only [Act.put]
    refine wpAnyH_take (i := 2) (v := .slice a2 m c2) rfl (by kernel_rfl) (by kernel_rfl) (by kernel_rfl) (fun c a' w' h => panic_put (P := Tryd.prog) (fn := Tryd.f61) (R := fun e w' => e = JamEnd J ∧ Below w.heap.size w w') h) (Or.inl ⟨by rfl, ?_⟩) hS ?_
    · intro w' hw'
      obtain ⟨⟨c0, c1, c2', c3'⟩, _⟩ := mx2.out.on hw'
      obtain ⟨_, _, c5, c6, _, _⟩ := HX2.out.on hw'
      go_simp
    simp only [Act.put]
    refine wpAnyH_take (i := 4) (v := .slice a3 m3 c3) rfl (by kernel_rfl) (by kernel_rfl) (by kernel_rfl) (fun c a' w' h => panic_put (P := Tryd.prog) (fn := Tryd.f61) (R := fun e w' => e = JamEnd J ∧ Below w.heap.size w w') h) (Or.inl ⟨by rfl, ?_⟩) hS ?_
    · intro w' hw'
      obtain ⟨⟨c0, c1, c2', c3'⟩, _⟩ := mx2.out.on hw'
      obtain ⟨_, _, c5, c6, _, _⟩ := HX2.out.on hw'
      go_simp
    simp only [Act.put]
    refine wpAnyH_ready (rs := [3]) (by kernel_rfl) (by simp) ?_
    refine AllReadyH.cons rfl (fun K hK => ?_) AllReadyH.nil
    go_simp
    cases hb : M.batch m I' C
    · refine (HBN.out hb _ K2.out.drew).mono ?_
      rintro e w3 ⟨rfl, k3⟩
      exact ⟨rfl, rfl, sstep K2.out.drew k3⟩
    · refine (HBY.out hb _ K2.out.drew).mono ?_
      rintro e w3 ⟨ax, cx, rfl, lx, _, k3⟩
      have K3 : Hid (Below w.heap.size w w3) := sstep K2.out.drew k3
      refine hK.out _ _ (sstep BM.out.drew k3) (fun hS1 => ?_)
      refine wpAnyH_ready (rs := [5]) (by kernel_rfl) (by simp) ?_
      refine AllReadyH.cons rfl (fun K hK => ?_) AllReadyH.nil
      go_simp
      refine (HSN.out hb _ K3.out ax _ cx rfl lx).mono ?_
      rintro e w4 ⟨rfl, k4⟩
      exact ⟨rfl, rfl, sstep K3.out k4⟩
  · have HMF := machineFor_no w J hj b p a n c S h hf hn x hmf
    clear h hf h2 hf2 h3 hf3 hx0 hj hbad hmf
    go_enter Tryd.func61, Tryd.ntmps61
    go_wp2_with fail
    refine HMF.mono ?_
    rintro e w1 ⟨rfl, k1⟩
    unfold JamEnd
    go_wp2
    exact ⟨rfl, rfl, k1⟩

theorem run_RunRestarted (cap : Array Value) (W : World) : (callFunc 61 cap).run Tryd.prog W = .ok (.enter 61 cap) W :=
  run_enter Tryd.func61 (by kernel_rfl) (by kernel_rfl) cap W
set_option maxHeartbeats 4000000 in
set_option maxRecDepth 100000 in
theorem impl_RunRestarted (w : World) (J : Addr) (hj : Jam w J) (b p : Int) (a : Option Addr) (n c : Nat) (S : Nat → ByteArray) (h : Strs w a n S) (hf : SFits n S) (hn : n ≤ 1048576) (a2 : Option Addr) (m c2 : Nat) (I' : Nat → Int) (C : Nat → ByteArray) (h2 : Lts w a2 m I' C) (hf2 : Fits m I' C) (x : Int)
    (a3 : Option Addr) (m3 c3 : Nat) (I B : Nat → Int) (h3 : Mss w a3 m3 I B) (hf3 : MFits m3 I B) :
    Calls Tryd.prog 32 #[.agg #[.int .i64 b, .int .i64 p, .slice a n c], .slice a2 m c2, .int .i64 x, .slice a3 m3 c3] w
      (RowRes w (faultyOk b p n S m I' C x m3 I B) (okAns b p n S m I' C x m3 I B (resAns b p n S m I' C x.toNat m3 I B))) := by
  have hmf : ∀ (fn : Fn) (first cap : Array Value) (w : World), (Instr.makeFunc fn first cap).run Tryd.prog w = .ok (.func fn first cap) w := fun _ _ _ _ => rfl
  obtain ⟨w6, hw6⟩ : ∃ w6, ((((w.alloc (.cells #[.int .i64 b, .int .i64 p, .slice a n c] 32)).alloc (.cells #[.slice a2 m c2] 29)).alloc (.cells #[.int .i64 x] 3)).alloc (.cells #[.slice a3 m3 c3] 50)).alloc (.cells #[.slice none 0 0] 29) = w6 := ⟨_, rfl⟩
  have B6 : Hid (Below w.heap.size w w6) := by rw [← hw6]; show Below _ _ _; go_grown
  have hz6 : w6.heap.size = w.heap.size + 5 := by rw [← hw6]; simp
  have FB : Hid (∀ W, Below w6.heap.size w6 W → EBox W b p a n c x a2 m c2 a3 m3 c3 w.heap.size (w.heap.size + 2) (w.heap.size + 1) (w.heap.size + 3) (w.heap.size + 4) (.slice none 0 0)) := fun W hW => by
    refine EBox.on ?_ hW
    rw [← hw6]
    refine ⟨((((tri_made w (.int .i64 b) (.int .i64 p) (.slice a n c) 32).alloc _).alloc _).alloc _).alloc _, ?_, ?_, ?_, ?_, ?_⟩ <;> simp [go_sem]
  have HJ6 := Lib.hid (hj.on B6.out)
  unfold okAns faultyOk
  have HH := Lib.hid (h.on B6.out)
  have HH2 := Lib.hid (h2.on B6.out)
  have HH3 := Lib.hid (h3.on B6.out)
  by_cases hok : M.plan b p n S = true ∧ (0 ≤ x ∧ x < p) ∧ M.batch m I' C = true ∧ M.mis b p n S m3 I B = true
  · rw [@decide_eq_true _ (Classical.propDecidable _) hok, if_pos rfl]
    obtain ⟨hp, hx, hb, hmi⟩ := hok
    obtain ⟨y, rfl⟩ := Int.eq_ofNat_of_zero_le hx.1
    rw [Int.toNat_natCast]
    obtain ⟨s1, s2, _⟩ := M.plan_shape hp
    have HR := Lib.hid (runs_well w6 J HJ6.out 61 #[.pointer (some ⟨w.heap.size, 0, none⟩), .pointer (some ⟨w.heap.size + 2, 0, none⟩), .pointer (some ⟨w.heap.size + 1, 0, none⟩), .pointer (some ⟨w.heap.size + 3, 0, none⟩), .pointer (some ⟨w.heap.size + 4, 0, none⟩)]
      (fun W w1 => LDone (W.alloc (.cells #[.nilIface] 90)) (w.heap.size + 4) (resAns b p n S m I' C y m3 I B) w1) (run_RunRestarted _)
      (fun W hW => by
        have hW2 : Below w6.heap.size w6 (W.alloc (.cells #[.nilIface] 90)) := hW.alloc hW.size _
        exact resrun1_yes _ b p a n c S (HH.out.on hW2) hf hn y hx.2 J (HJ6.out.on hW2) a2 m c2 I' C (HH2.out.on hW2) hf2 a3 m3 c3 I B (HH3.out.on hW2) hf3 hb hmi _ _ _ _ _ (by omega) (FB.out _ hW2))
      (fun W w1 hW hr => by
        obtain ⟨u, _, _, ho⟩ := hr
        have hs := hW.size
        have hbk := ho.block W.heap.size (by simp) (by omega)
        refine ⟨(World.cell?_of_block hbk).trans (by simp), (World.frozen?_of_block hbk).trans (by simp [go_sem]), ?_⟩
        have hj2 := (HJ6.out.on hW).on (below_alloc0 W (.cells #[.nilIface] 90))
        have hl := HJ6.out.lt
        exact (World.cell?_of_block (ho.block _ hj2.lt (show ¬ (0 = w.heap.size + 4) from by have := hj.lt; omega))).trans hj2))
    obtain ⟨LL, hLL⟩ : ∃ LL, resAns b p n S m I' C y m3 I B = LL := ⟨_, rfl⟩
    rw [hLL] at HR ⊢
    have HW6 := Lib.hid hw6
    clear h h2 h3 hj hw6 hLL FB HH HH2 HH3 hp hx hb hmi
    go_enter Tryd.func32, Tryd.ntmps32
    go_wp2_with fail
    rw [HW6.out]
    refine HR.out.mono ?_
    rintro e w7 ⟨rfl, W, wa, hW, ⟨u, hRo, hu, ho⟩, on⟩
    have hsW := hW.size
    have hszA : (W.alloc (.cells #[.nilIface] 90)).heap.size = W.heap.size + 1 := by simp
    rw [hszA] at hRo
    have u7 : w7.cell? ⟨w.heap.size + 4, 0, none⟩ = some u := (World.cell?_of_block (on.block (w.heap.size + 4) (World.block_lt_of_cell? _ _ hu) (by omega))).trans hu
    have R7 := Lib.hid (hRo.only on (fun k hk hs => by have := (hRo.lt k hk).1; omega))
    have hoz := ho.size
    rw [hszA] at hoz
    have B7 : Hid (Below w.heap.size w w7) := ((B6.out.trans (hW.mono (by omega))).trans ((below_alloc0 W (.cells #[.nilIface] 90)).mono (by omega))).trans ((ho.below (B := w.heap.size) (fun k hk _ hs => by omega) (by rw [hszA]; omega)).trans (on.below (B := w.heap.size) (fun k hk _ hs => by omega) (by omega)))
    clear hRo hu ho on
    go_wp2
    go_ret2
    exact ⟨u, rfl, R7.out.lower (by omega), by first | exact B7.out | exact below_drewN0 B7.out _⟩
  · rw [@decide_eq_false _ (Classical.propDecidable _) hok, if_neg (by decide)]
    have HR := Lib.hid (runs_jam w6 J HJ6.out 61 #[.pointer (some ⟨w.heap.size, 0, none⟩), .pointer (some ⟨w.heap.size + 2, 0, none⟩), .pointer (some ⟨w.heap.size + 1, 0, none⟩), .pointer (some ⟨w.heap.size + 3, 0, none⟩), .pointer (some ⟨w.heap.size + 4, 0, none⟩)]
      (fun W w1 => Below (W.alloc (.cells #[.nilIface] 90)).heap.size (W.alloc (.cells #[.nilIface] 90)) w1) (run_RunRestarted _)
      (fun W hW => by
        have hW2 : Below w6.heap.size w6 (W.alloc (.cells #[.nilIface] 90)) := hW.alloc hW.size _
        exact resrun1_no _ b p a n c S (HH.out.on hW2) hf hn x J (HJ6.out.on hW2) a2 m c2 I' C (HH2.out.on hW2) hf2 a3 m3 c3 I B (HH3.out.on hW2) hf3 hok _ _ _ _ _ (FB.out _ hW2))
      (fun W w1 hW hr => by
        have hbk := hr.block W.heap.size (by simp)
        exact ⟨(World.cell?_of_block hbk).trans (by simp), (World.frozen?_of_block hbk).trans (by simp [go_sem]), ((HJ6.out.on hW).on (below_alloc0 W (.cells #[.nilIface] 90))).on hr⟩))
    have HW6 := Lib.hid hw6
    have HFB := Lib.hid FB
    clear h h2 h3 hj hw6 FB HH HH2 HH3 hok
    go_enter Tryd.func32, Tryd.ntmps32
    go_wp2_with fail
    rw [HW6.out]
    refine HR.out.mono ?_
    rintro e w7 ⟨rfl, W, wa, hW, hr, on⟩
    have hsW := hW.size
    have hszA : (W.alloc (.cells #[.nilIface] 90)).heap.size = W.heap.size + 1 := by simp
    have hwa : Below w6.heap.size w6 wa := (hW.alloc hsW (.cells #[.nilIface] 90)).trans (hr.mono (by rw [hszA]; omega))
    have fb := HFB.out wa hwa
    have v7 : w7.cell? ⟨w.heap.size + 4, 0, none⟩ = some (.slice none 0 0) := (World.cell?_of_block (on.block (w.heap.size + 4) (World.block_lt_of_cell? _ _ fb.vv) (by omega))).trans fb.vv
    have hzw := hwa.size
    have B7 : Hid (Below w.heap.size w w7) := (B6.out.trans (hwa.mono (by omega))).trans (on.below (B := w.heap.size) (fun k hk _ hs => by omega) (by omega))
    clear hr on fb hwa hW
    go_wp2
    go_ret2
    exact ⟨_, rfl, Row.nil _ _, by first | exact B7.out | exact below_drewN0 B7.out _⟩
end Go.Proofs.YtmjgblhihpbbdaaDoor

/-
  What FaultyPass of the model returns.
-/
namespace Go.Proofs.YtmjgblhihpbbdaaDoor
open Go.RowKit
open Go.PlainAid (bt get_bt bt_nonneg bt_le)
set_option linter.unusedVariables false

theorem faultyOk_eq {b p : Int} {n : Nat} {S : Nat → ByteArray} {m : Nat} {I' : Nat → Int} {C : Nat → ByteArray} {x : Int} {m3 : Nat} {I B : Nat → Int} : faultyOk b p n S m I' C x m3 I B = ((M.plan b p n S && M.batch m I' C) && decide (0 ≤ x ∧ x ≤ p - 1) && M.mis b p n S m3 I B) := by
  unfold faultyOk
  by_cases h : M.plan b p n S = true ∧ (0 ≤ x ∧ x < p) ∧ M.batch m I' C = true ∧ M.mis b p n S m3 I B = true
  · rw [@decide_eq_true _ (Classical.propDecidable _) h, h.1, h.2.2.1, h.2.2.2, decide_eq_true (show 0 ≤ x ∧ x ≤ p - 1 by have := h.2.1; omega)]
    rfl
  · rw [@decide_eq_false _ (Classical.propDecidable _) h]
    symm
    rw [Bool.eq_false_iff]
    intro e
    simp only [Bool.and_eq_true, decide_eq_true_eq] at e
    exact h ⟨e.1.1.1, ⟨e.1.2.1, by have := e.1.2.2; omega⟩, e.1.1.2, e.2⟩

set_option maxHeartbeats 1000000 in
theorem spec_l7Ready (w : World) (b p : Int) (a : Option Addr) (n c : Nat) (S : Nat → ByteArray) (h : Strs w a n S) (hf : SFits n S) (hn : n ≤ 1048576) (a2 : Option Addr) (m c2 : Nat) (I' : Nat → Int) (C : Nat → ByteArray) (h2 : Lts w a2 m I' C) (hf2 : Fits m I' C) (hm : m ≤ 1048576) (x : Int)
    (a3 : Option Addr) (m3 c3 : Nat) (I B : Nat → Int) (h3 : Mss w a3 m3 I B) (hf3 : MFits m3 I B) (hm3 : m3 ≤ 1048576) :
    Calls Tryd.prog 50 #[.agg #[.int .i64 b, .int .i64 p, .slice a n c], .slice a2 m c2, .int .i64 x, .slice a3 m3 c3] w fun e w' => e = .returned (.bool (faultyOk b p n S m I' C x m3 I B)) ∧ Below w.heap.size w w' := by
  have HL := Lib.hid (h.on (below_alloc0 w (.cells #[.int .i64 b, .int .i64 p, .slice a n c] 32)))
  have HL2 := Lib.hid (h2.on (below_alloc0 w (.cells #[.int .i64 b, .int .i64 p, .slice a n c] 32)))
  have HL3 := Lib.hid (h3.on (below_alloc0 w (.cells #[.int .i64 b, .int .i64 p, .slice a n c] 32)))
  have bx := Lib.hid (tri_made w (.int .i64 b) (.int .i64 p) (.slice a n c) 32)
  have HF := Lib.hid hf
  have HF2 := Lib.hid hf2
  have HF3 := Lib.hid hf3
  clear h hf h2 hf2 h3 hf3
  rw [faultyOk_eq]
  obtain ⟨⟨t0, t1, t2⟩, _⟩ := bx.out
  cases hr : (M.plan b p n S && M.batch m I' C)
  · go_enter Tryd.func50, Tryd.ntmps50
    go_wp2_with fail
    refine (spec_l3Ready _ b p a n c S HL.out HF.out hn a2 m c2 I' C HL2.out HF2.out hm).mono ?_
    rw [hr]
    rintro e w1 ⟨rfl, hb1⟩
    go_wp2
    go_ret
    exact ⟨rfl, sstep (by go_grown) hb1⟩
  · obtain ⟨hp, hb⟩ := (Bool.and_eq_true _ _).mp hr
    obtain ⟨s1, s2, s3, s4⟩ := M.plan_shape hp
    have HR := Lib.hid hr
    clear hr hb hp
    cases hd : decide (0 ≤ x ∧ x ≤ p - 1)
    · have HD := Lib.hid hd
      clear hd
      go_enter Tryd.func50, Tryd.ntmps50
      go_wp2_with fail
      refine (spec_l3Ready _ b p a n c S HL.out HF.out hn a2 m c2 I' C HL2.out HF2.out hm).mono ?_
      rw [HR.out]
      rintro e w1 ⟨rfl, hb1⟩
      clear t0 t1 t2
      obtain ⟨⟨t0, t1, t2⟩, _⟩ := bx.out.on hb1
      go_wp2_with fail
      refine (spec_l1In x 0 (p - 1) _).mono ?_
      rw [HD.out]
      rintro e w2 ⟨rfl, rfl⟩
      go_wp2
      go_ret
      exact ⟨rfl, sstep (by go_grown) hb1⟩
    · have HD := Lib.hid hd
      clear hd
      go_enter Tryd.func50, Tryd.ntmps50
      go_wp2_with fail
      refine (spec_l3Ready _ b p a n c S HL.out HF.out hn a2 m c2 I' C HL2.out HF2.out hm).mono ?_
      rw [HR.out]
      rintro e w1 ⟨rfl, hb1⟩
      clear t0 t1 t2
      obtain ⟨⟨t0, t1, t2⟩, _⟩ := bx.out.on hb1
      go_wp2_with fail
      refine (spec_l1In x 0 (p - 1) _).mono ?_
      rw [HD.out]
      rintro e w2 ⟨rfl, rfl⟩
      go_wp2_with fail
      refine (spec_MissortsValid _ b p a n c S (HL.out.on hb1) HF.out hn a3 m3 c3 I B (HL3.out.on hb1) HF3.out hm3).mono ?_
      rintro e w3 ⟨rfl, hb3⟩
      go_wp2
      go_ret
      exact ⟨rfl, sstep (sstep (by go_grown) hb1) hb3⟩

theorem faulty_len {b p : Int} {n : Nat} {S : Nat → ByteArray} {m : Nat} {I' : Nat → Int} {C : Nat → ByteArray} {x : Int} {m3 : Nat} {I B : Nat → Int} : faultyN b p n S m I' C x m3 I B ≤ 16 ∧ (faultyL b p n S m I' C x m3 I B).length ≤ m := by
  unfold faultyN faultyL
  cases h : faultyOk b p n S m I' C x m3 I B
  · rw [if_neg (by decide), if_neg (by decide)]
    exact ⟨by omega, Nat.zero_le _⟩
  · rw [faultyOk_eq] at h
    simp only [Bool.and_eq_true, decide_eq_true_eq] at h
    obtain ⟨s1, s2, s3, s4⟩ := M.plan_shape h.1.1.1
    rw [if_pos rfl, if_pos rfl]
    exact ⟨by omega, M.restTo_len _ _ _ _⟩


end Go.Proofs.YtmjgblhihpbbdaaDoor

/-
  RunRepaired and RunRestarted of the model.
-/
namespace Go.Proofs.YtmjgblhihpbbdaaDoor
open Go.RowKit
open Go.PlainAid (bt get_bt bt_nonneg bt_le)
set_option linter.unusedVariables false

theorem ans_len {b p : Int} {n : Nat} {S : Nat → ByteArray} {m : Nat} {I' : Nat → Int} {C : Nat → ByteArray} {x : Int} {m3 : Nat} {I B : Nat → Int} :
    (okAns b p n S m I' C x m3 I B (repAns b p n S m I' C x.toNat m3 I B)).length ≤ 60 ∧ (okAns b p n S m I' C x m3 I B (resAns b p n S m I' C x.toNat m3 I B)).length ≤ 60 := by
  unfold okAns
  cases hr : faultyOk b p n S m I' C x m3 I B
  · rw [if_neg (by decide), if_neg (by decide)]
    exact ⟨Nat.zero_le _, Nat.zero_le _⟩
  · rw [if_pos rfl, if_pos rfl]
    have hk := hr
    rw [faultyOk_eq] at hk
    simp only [Bool.and_eq_true, decide_eq_true_eq] at hk
    obtain ⟨⟨⟨hp, hb⟩, hx⟩, hmi⟩ := hk
    obtain ⟨_, hm60, hmt⟩ := M.mis_true hmi
    obtain ⟨s1, s2, s3, s4⟩ := M.plan_shape hp
    have hek := errM_ok (p := p) (n := n) (S := S) s1 hb x.toNat hmt
    have bl : ∀ {MM : Nat → List (Int × ByteArray)}, binsOk b b.toNat MM = true → BatchL (M.flat MM b.toNat) := fun {MM} e2 => by
      unfold binsOk at e2
      rw [Bool.and_eq_true] at e2
      exact (batchL_list _).1 e2.2
    exact ⟨(finL_batch s1 (bl (repM_ok s1 _ hek))).2.2, (run_len _ _ _ _ _ _ _).1⟩

set_option maxHeartbeats 4000000 in
set_option maxRecDepth 100000 in
theorem spec_RunRepaired (w : World) (b p : Int) (a : Option Addr) (n c : Nat) (S : Nat → ByteArray) (h : Strs w a n S) (hf : SFits n S) (hn : n ≤ 1048576) (a2 : Option Addr) (m c2 : Nat) (I' : Nat → Int) (C : Nat → ByteArray) (h2 : Lts w a2 m I' C) (hf2 : Fits m I' C) (hm : m ≤ 1048576) (x : Int)
    (a3 : Option Addr) (m3 c3 : Nat) (I B : Nat → Int) (h3 : Mss w a3 m3 I B) (hf3 : MFits m3 I B) (hm3 : m3 ≤ 1048576) :
    Calls Tryd.prog 25 #[.agg #[.int .i64 b, .int .i64 p, .slice a n c], .slice a2 m c2, .int .i64 x, .slice a3 m3 c3] w (RowRes w (faultyOk b p n S m I' C x m3 I B) (okAns b p n S m I' C x m3 I B (repAns b p n S m I' C x.toNat m3 I B))) := by
  have b0 := below_alloc0 w (.cells #[.int .i64 b, .int .i64 p, .slice a n c] 32)
  have HL := Lib.hid (h.on b0)
  have HL2 := Lib.hid (h2.on b0)
  have HL3 := Lib.hid (h3.on b0)
  have B0 := Lib.hid b0
  have bx := Lib.hid (tri_made w (.int .i64 b) (.int .i64 p) (.slice a n c) 32)
  have HB := Lib.hid (spec_l7Ready _ b p a n c S HL.out hf hn a2 m c2 I' C HL2.out hf2 hm x a3 m3 c3 I B HL3.out hf3 hm3)
  unfold okAns
  obtain ⟨⟨t0, t1, t2⟩, _⟩ := bx.out
  cases hr : faultyOk b p n S m I' C x m3 I B
  · rw [hr] at HB
    rw [if_neg (by decide)]
    clear h hf h2 hf2 h3 hf3 hr
    go_enter Tryd.func25, Tryd.ntmps25
    go_wp2_with fail
    refine HB.out.mono ?_
    rintro e w1 ⟨rfl, hb1⟩
    have BL : Hid (Below w.heap.size w w1) := sstep B0.out hb1
    go_wp2
    go_ret2
    exact ⟨_, rfl, (one_row w1).lower BL.out.size, BL.out.alloc BL.out.size _⟩
  · rw [hr] at HB
    rw [if_pos rfl]
    have hk := hr
    rw [faultyOk_eq] at hk
    simp only [Bool.and_eq_true, decide_eq_true_eq] at hk
    obtain ⟨⟨⟨hp, hb⟩, hx⟩, hmi⟩ := hk
    obtain ⟨_, hm60, hmt⟩ := M.mis_true hmi
    obtain ⟨s1, s2, s3, s4⟩ := M.plan_shape hp
    obtain ⟨y, rfl⟩ := Int.eq_ofNat_of_zero_le hx.1
    obtain ⟨N, rfl⟩ := Int.eq_ofNat_of_zero_le (show 0 ≤ b by omega)
    have hq3 : y ≤ 3 := by omega
    have hyp : (y : Int) < p := by omega
    rw [Int.toNat_natCast]
    have HBF := Lib.hid (fun W (hs : Strs W a n S) (hl : Lts W a2 m I' C) (hm : Mss W a3 m3 I B) => spec_l7Before W N p a n c S hs hn a2 m c2 I' C hl hb y s1 s2 hq3 a3 m3 c3 I B hm hm3 hmt)
    have hek := errM_ok (p := p) (n := n) (S := S) s1 hb y hmt
    rw [Int.toNat_natCast] at hek
    have hbe : BatchL (M.flat (errM (N : Int) n S m I' C y m3 I B) N) := by
      have e2 := hek
      unfold binsOk at e2
      rw [Bool.and_eq_true] at e2
      exact (batchL_list _).1 e2.2
    have HRP := Lib.hid (fun W (hs : Strs W a n S) (v : Value) (V : Nat → Value) (hm : Mat W 0 v N V (errM (N : Int) n S m I' C y m3 I B)) => spec_l7Repair W (N : Int) p a n c S hs hn y s1 s2 hq3 0 v N V _ hm ⟨by omega, by omega, rfl⟩ hbe.2.2)
    have hek2 := repM_ok (n := n) (S := S) s1 y hek
    have HNX := Lib.hid (fun W (hs : Strs W a n S) (v : Value) (V : Nat → Value) (hm : Mat W 0 v N V (repM (N : Int) n S y (errM (N : Int) n S m I' C y m3 I B) N)) => spec_l7Finish W (N : Int) p a n c S hs hf hn hp y hyp 0 v N V _ hm hek2)
    unfold repAns
    rw [Int.toNat_natCast]
    obtain ⟨LL, hLL⟩ : ∃ LL, finL (N : Int) p n S y (M.flat (repM (N : Int) n S y (errM (N : Int) n S m I' C y m3 I B) N) N) = LL := ⟨_, rfl⟩
    rw [hLL] at HNX ⊢
    obtain ⟨RM, hRM⟩ : ∃ RM, repM (N : Int) n S y (errM (N : Int) n S m I' C y m3 I B) N = RM := ⟨_, rfl⟩
    obtain ⟨RR, hRR⟩ : ∃ RR, repL (N : Int) n S y (errM (N : Int) n S m I' C y m3 I B) N = RR := ⟨_, rfl⟩
    rw [hRM] at HNX HRP
    rw [hRR] at HRP
    clear hLL hek2 hRM hRR
    obtain ⟨EM, hEM⟩ : ∃ EM, errM (N : Int) n S m I' C y m3 I B = EM := ⟨_, rfl⟩
    rw [hEM] at HBF hek hbe HRP
    have h60 := hbe.2.2
    clear h hf h2 hf2 h3 hf3 hr hp hb hx hmi hmt hEM hbe
    go_enter Tryd.func25, Tryd.ntmps25
    go_wp2_with fail
    refine HB.out.mono ?_
    rintro e w1 ⟨rfl, hb1⟩
    have BL : Hid (Below w.heap.size w w1) := sstep B0.out hb1
    have zz := BL.out.size
    have HS1 := Lib.hid (HL.out.on hb1)
    have HLa := Lib.hid (HL2.out.on hb1)
    have HLb := Lib.hid (HL3.out.on hb1)
    have X1 := Lib.hid (bx.out.on hb1)
    clear t0 t1 t2 bx HL HL2 HL3 B0 HB hb1
    obtain ⟨⟨t0, t1, t2⟩, _⟩ := X1.out
    have hlx := X1.out.lt
    go_wp2
    go_region_with (first
      | (go_at_call 52; refine (HBF.out _ (by first | exact HS1.out | exact HS1.out.on (bdrew _)) (by first | exact HLa.out | exact HLa.out.on (bdrew _)) (by first | exact HLb.out | exact HLb.out.on (bdrew _))).mono ?_; rintro e w2 ⟨G2, V2, rfl, hm2, k2⟩; have kC : Below w1.heap.size w1 w2 := (by first | exact k2 | exact sstep (bdrew _) k2); have HM2 := Lib.hid (hm2.lower (Nat.zero_le _)); have KC := Lib.hid kC; have hzc := kC.size; obtain ⟨⟨e0, e1, e2⟩, _⟩ := X1.out.on kC; clear hm2 k2 kC)
      | (go_at_call 51; refine (HRP.out _ (by first | exact HS1.out.on KC.out | exact (HS1.out.on KC.out).on (bdrew _)) _ _ (by first | exact HM2.out | exact HM2.out.on (bdrew _))).mono ?_; rintro e w3 ⟨G3, V3, u3, rfl, hm3', _, _, k3⟩; have kP : Below w1.heap.size w1 w3 := (by first | exact sstep KC.out k3 | exact sstep (sstep KC.out (bdrew _)) k3); have HM3 := Lib.hid (hm3'.lower (Nat.zero_le _)); have KP := Lib.hid kP; have hzp := kP.size; clear hm3' k3 kP e0 e1 e2))
    all_goals
      clear t0 t1 t2
      obtain ⟨⟨t0, t1, t2⟩, _⟩ := X1.out.on KP.out
      go_wp2_with fail
      refine (HNX.out _ (HS1.out.on KP.out) _ _ HM3.out).mono ?_
      rintro e w4 ⟨u4, rfl, r4, k4⟩
      go_wp2
      go_ret2
      exact ⟨_, rfl, r4.lower (by omega), sstep (sstep BL.out KP.out) k4⟩

set_option maxHeartbeats 4000000 in
set_option maxRecDepth 100000 in
theorem spec_RunRestarted (w : World) (b p : Int) (a : Option Addr) (n c : Nat) (S : Nat → ByteArray) (h : Strs w a n S) (hf : SFits n S) (hn : n ≤ 1048576) (a2 : Option Addr) (m c2 : Nat) (I' : Nat → Int) (C : Nat → ByteArray) (h2 : Lts w a2 m I' C) (hf2 : Fits m I' C) (hm : m ≤ 1048576) (x : Int)
    (a3 : Option Addr) (m3 c3 : Nat) (I B : Nat → Int) (h3 : Mss w a3 m3 I B) (hf3 : MFits m3 I B) (hm3 : m3 ≤ 1048576) :
    Calls Tryd.prog 31 #[.agg #[.int .i64 b, .int .i64 p, .slice a n c], .slice a2 m c2, .int .i64 x, .slice a3 m3 c3] w (RowRes w (faultyOk b p n S m I' C x m3 I B) (okAns b p n S m I' C x m3 I B (resAns b p n S m I' C x.toNat m3 I B))) := by
  have b0 := below_alloc0 w (.cells #[.int .i64 b, .int .i64 p, .slice a n c] 32)
  have HL := Lib.hid (h.on b0)
  have HL2 := Lib.hid (h2.on b0)
  have HL3 := Lib.hid (h3.on b0)
  have B0 := Lib.hid b0
  have bx := Lib.hid (tri_made w (.int .i64 b) (.int .i64 p) (.slice a n c) 32)
  have HB := Lib.hid (spec_l7Ready _ b p a n c S HL.out hf hn a2 m c2 I' C HL2.out hf2 hm x a3 m3 c3 I B HL3.out hf3 hm3)
  unfold okAns
  obtain ⟨⟨t0, t1, t2⟩, _⟩ := bx.out
  cases hr : faultyOk b p n S m I' C x m3 I B
  · rw [hr] at HB
    rw [if_neg (by decide)]
    clear h hf h2 hf2 h3 hf3 hr
    go_enter Tryd.func31, Tryd.ntmps31
    go_wp2_with fail
    refine HB.out.mono ?_
    rintro e w1 ⟨rfl, hb1⟩
    have BL : Hid (Below w.heap.size w w1) := sstep B0.out hb1
    go_wp2
    go_ret2
    exact ⟨_, rfl, (one_row w1).lower BL.out.size, BL.out.alloc BL.out.size _⟩
  · rw [hr] at HB
    rw [if_pos rfl]
    have hk := hr
    rw [faultyOk_eq] at hk
    simp only [Bool.and_eq_true, decide_eq_true_eq] at hk
    obtain ⟨⟨⟨hp, hb⟩, hx⟩, hmi⟩ := hk
    obtain ⟨_, hm60, hmt⟩ := M.mis_true hmi
    obtain ⟨s1, s2, s3, s4⟩ := M.plan_shape hp
    obtain ⟨y, rfl⟩ := Int.eq_ofNat_of_zero_le hx.1
    obtain ⟨N, rfl⟩ := Int.eq_ofNat_of_zero_le (show 0 ≤ b by omega)
    have hq3 : y ≤ 3 := by omega
    have hyp : (y : Int) < p := by omega
    rw [Int.toNat_natCast]
    have HBF := Lib.hid (fun W (hs : Strs W a n S) (hl : Lts W a2 m I' C) (hm : Mss W a3 m3 I B) => spec_l7Before W N p a n c S hs hn a2 m c2 I' C hl hb y s1 s2 hq3 a3 m3 c3 I B hm hm3 hmt)
    have hek := errM_ok (p := p) (n := n) (S := S) s1 hb y hmt
    rw [Int.toNat_natCast] at hek
    have hbe : BatchL (M.flat (errM (N : Int) n S m I' C y m3 I B) N) := by
      have e2 := hek
      unfold binsOk at e2
      rw [Bool.and_eq_true] at e2
      exact (batchL_list _).1 e2.2
    have HNX : Hid (∀ W (hs : Strs W a n S) (a9 : Option Addr) (nx c9 : Nat), nx = (M.flat (errM (N : Int) n S m I' C y m3 I B) N).length → Lts W a9 nx (nI (M.flat (errM (N : Int) n S m I' C y m3 I B) N)) (nC (M.flat (errM (N : Int) n S m I' C y m3 I B) N)) → Calls Tryd.prog 59 #[.agg #[.int .i64 (N : Int), .int .i64 p, .slice a n c], .slice a9 nx c9] W (fun e w' => ∃ v v' ok, e = .returned (.tuple #[v, v', .bool ok]) ∧ Row w' W.heap.size v (resAns (N : Int) p n S m I' C y m3 I B) ∧ Below W.heap.size W w')) := fun W hs a9 nx c9 e hl => by
      subst e
      refine (spec_RunPlan W (N : Int) p a n c S hs hf hn a9 _ c9 _ _ hl hbe.fits (by have := hbe.2.2; omega)).mono ?_
      rintro e w' ⟨v, v', rfl, r1, _, _, k⟩
      refine ⟨v, v', _, rfl, ?_, k⟩
      unfold resAns
      rw [Int.toNat_natCast]
      exact r1
    obtain ⟨LL, hLL⟩ : ∃ LL, resAns (N : Int) p n S m I' C y m3 I B = LL := ⟨_, rfl⟩
    rw [hLL] at HNX ⊢
    clear hLL
    obtain ⟨EM, hEM⟩ : ∃ EM, errM (N : Int) n S m I' C y m3 I B = EM := ⟨_, rfl⟩
    rw [hEM] at HBF hek hbe HNX
    have h60 := hbe.2.2
    clear h hf h2 hf2 h3 hf3 hr hp hb hx hmi hmt hEM hbe
    go_enter Tryd.func31, Tryd.ntmps31
    go_wp2_with fail
    refine HB.out.mono ?_
    rintro e w1 ⟨rfl, hb1⟩
    have BL : Hid (Below w.heap.size w w1) := sstep B0.out hb1
    have zz := BL.out.size
    have HS1 := Lib.hid (HL.out.on hb1)
    have HLa := Lib.hid (HL2.out.on hb1)
    have HLb := Lib.hid (HL3.out.on hb1)
    have X1 := Lib.hid (bx.out.on hb1)
    clear t0 t1 t2 bx HL HL2 HL3 B0 HB hb1
    obtain ⟨⟨t0, t1, t2⟩, _⟩ := X1.out
    have hlx := X1.out.lt
    go_wp2
    have HC : Hid (∀ (W : World) (v : Value) (V : Nat → Value), Mat W 0 v N V EM → Calls Tryd.prog 60 #[v] W (RowOut W (M.flat EM N))) := fun W v V hm => spec_l2Collect W 0 v N V EM hm (by omega) (by omega)
    obtain ⟨FL, hFL⟩ : ∃ FL, M.flat EM N = FL := ⟨_, rfl⟩
    rw [hFL] at HC HNX
    clear hFL
    go_region_with (first
      | (go_at_call 52; refine (HBF.out _ (by first | exact HS1.out | exact HS1.out.on (bdrew _)) (by first | exact HLa.out | exact HLa.out.on (bdrew _)) (by first | exact HLb.out | exact HLb.out.on (bdrew _))).mono ?_; rintro e w2 ⟨G2, V2, rfl, hm2, k2⟩; have kC : Below w1.heap.size w1 w2 := (by first | exact k2 | exact sstep (bdrew _) k2); have HM2 := Lib.hid (hm2.lower (Nat.zero_le _)); have KC := Lib.hid kC; have hzc := kC.size; obtain ⟨⟨e0, e1, e2⟩, _⟩ := X1.out.on kC; clear hm2 k2 kC)
      | (go_at_call 60; refine (HC.out _ _ _ (by first | exact HM2.out | exact HM2.out.on (bdrew _))).mono ?_; rintro e w3 ⟨v3, rfl, r3, k3⟩; have kP : Below w1.heap.size w1 w3 := (by first | exact sstep KC.out k3 | exact sstep (sstep KC.out (bdrew _)) k3); obtain ⟨a3', c3', hv3, _, hl3⟩ := r3.form; subst hv3; have HL3' := Lib.hid hl3; have KP := Lib.hid kP; have hzp := kP.size; clear e0 e1 e2; obtain ⟨⟨e0, e1, e2⟩, _⟩ := X1.out.on kP; clear r3 k3 kP hl3)
      | (go_at_call 59; refine (HNX.out _ (by first | exact HS1.out.on KP.out | exact (HS1.out.on KP.out).on (bdrew _)) _ _ _ rfl (by first | exact HL3'.out | exact HL3'.out.on (bdrew _))).mono ?_; rintro e w4 ⟨v4, v5, ok4, rfl, r4, k4⟩; have kQ : Below w1.heap.size w1 w4 := (by first | exact sstep KP.out k4 | exact sstep (sstep KP.out (bdrew _)) k4); have R4 := Lib.hid (r4.lower (base' := w1.heap.size) (by first | exact hzp | exact KP.out.drew.size)); have KQ := Lib.hid kQ; clear r4 k4 kQ e0 e1 e2))
    all_goals
      go_wp2
      go_ret2
      exact ⟨_, rfl, R4.out.lower zz, sstep BL.out KQ.out⟩
end Go.Proofs.YtmjgblhihpbbdaaDoor
