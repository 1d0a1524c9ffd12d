/-
  The work of machines that the program's functions hand to runs: a faulty pass.
-/
import Derived.Test.YthlfbdapkjhmaaaDoorTake
import Derived.Deep.RegionHeld3
namespace Go.Proofs.YthlfbdapkjhmaaaDoor
open Go.RowKit
open Go.PlainAid (bt get_bt bt_nonneg bt_le)
set_option linter.unusedVariables false

/-- A way out by panic does not hang on what an operation has left in a slot. -/
theorem panic_put {P : Program} {fn : Func} {R : Ending → World → Prop} {c : List PanicEntry} {a : Act} {d : Option Tmp} {v : Value} {w : World} (h : bodyPost P fn R (.panic c) (a.put d v) w) : bodyPost P fn R (.panic c) a w :=
  ⟨by have := h.1; cases d <;> exact this, h.2⟩
/-- The boxes that FaultyPass's literal holds. -/
structure FBox (w : World) (b p : Int) (a : Option Addr) (n c : Nat) (x : Int) (a2 : Option Addr) (m c2 : Nat) (a3 : Option Addr) (m3 c3 : Nat) (P0 X0 B0 L0 V0 U0 : Nat) (v u : Value) : Prop where
  pp : Tri w P0 (.int .i64 b) (.int .i64 p) (.slice a n c)
  xx : w.cell? ⟨X0, 0, none⟩ = some (.int .i64 x)
  bb : w.cell? ⟨B0, 0, none⟩ = some (.slice a2 m c2)
  ll : w.cell? ⟨L0, 0, none⟩ = some (.slice a3 m3 c3)
  vv : w.cell? ⟨V0, 0, none⟩ = some v
  uu : w.cell? ⟨U0, 0, none⟩ = some u
  vf : w.frozen? ⟨V0, 0, none⟩ = false
  uf : w.frozen? ⟨U0, 0, none⟩ = false
theorem FBox.only {w w' : World} {b p : Int} {a : Option Addr} {n c : Nat} {x : Int} {a2 : Option Addr} {m c2 : Nat} {a3 : Option Addr} {m3 c3 P0 X0 B0 L0 V0 U0 : Nat} {v u : Value} {S : Nat → Prop} (h : FBox w b p a n c x a2 m c2 a3 m3 c3 P0 X0 B0 L0 V0 U0 v u) (ho : Only w w' S)
    (hn : ¬ S P0 ∧ ¬ S X0 ∧ ¬ S B0 ∧ ¬ S L0 ∧ ¬ S V0 ∧ ¬ S U0) : FBox w' b p a n c x a2 m c2 a3 m3 c3 P0 X0 B0 L0 V0 U0 v u := by
  have k : ∀ {q : Nat} {y : Value}, w.cell? ⟨q, 0, none⟩ = some y → ¬ S q → w'.cell? ⟨q, 0, none⟩ = some y := fun {q y} e hq => (World.cell?_of_block (ho.block q (World.block_lt_of_cell? _ _ e) hq)).trans e
  have z : ∀ {q : Nat} {y : Value}, w.cell? ⟨q, 0, none⟩ = some y → ¬ S q → w'.frozen? ⟨q, 0, none⟩ = w.frozen? ⟨q, 0, none⟩ := fun {q y} e hq => World.frozen?_of_block (ho.block q (World.block_lt_of_cell? _ _ e) hq)
  obtain ⟨h1, h2, h3, h4, h5, h6⟩ := hn
  exact ⟨triOnly h.pp ho h1, k h.xx h2, k h.bb h3, k h.ll h4, k h.vv h5, k h.uu h6, by rw [z h.vv h5]; exact h.vf, by rw [z h.uu h6]; exact h.uf⟩
theorem FBox.on {w w' : World} {b p : Int} {a : Option Addr} {n c : Nat} {x : Int} {a2 : Option Addr} {m c2 : Nat} {a3 : Option Addr} {m3 c3 P0 X0 B0 L0 V0 U0 : Nat} {v u : Value} (h : FBox w b p a n c x a2 m c2 a3 m3 c3 P0 X0 B0 L0 V0 U0 v u) (hb : Below w.heap.size w w') : FBox w' b p a n c x a2 m c2 a3 m3 c3 P0 X0 B0 L0 V0 U0 v u :=
  h.only (Only.new (S := fun _ => False) hb) ⟨fun e => e, fun e => e, fun e => e, fun e => e, fun e => e, fun e => e⟩

theorem Mat.some {w : World} {base n : Nat} {v : Value} {V : Nat → Value} {MM : Nat → List (Int × ByteArray)} (h : Mat w base v n V MM) (hn : 0 < n) : ∃ g c, v = .slice (some ⟨g, 0, none⟩) n c := by
  rcases h.form with ⟨_, e⟩ | ⟨g, c, e, _⟩
  · omega
  · exact ⟨g, c, e⟩
/-- What the work of FaultyPass leaves. -/
def FDone (w : World) (V0 U0 N : Nat) (MM : Nat → List (Int × ByteArray)) (LL : List (Int × ByteArray)) (w' : World) : Prop :=
  ∃ (v : Value) (V : Nat → Value) (u : Value), Mat w' w.heap.size v N V MM ∧ Row w' w.heap.size u LL ∧ (∀ k, u.ownBlock = some k → ¬ inM v N V k) ∧ w'.cell? ⟨V0, 0, none⟩ = some v ∧ w'.cell? ⟨U0, 0, none⟩ = some u ∧ Only w w' (fun k => k = V0 ∨ k = U0)

set_option maxHeartbeats 4000000 in
set_option maxRecDepth 100000 in
theorem faulty1_yes (w : World) (b p : Int) (a : Option Addr) (n c : Nat) (S : Nat → ByteArray) (h : Strs w a n S) (hf : SFits n S) (hn : n ≤ 1048576) (x : Nat) (hx : (x : Int) < p) (a2 : Option Addr) (m c2 : Nat) (I' : Nat → Int) (C : Nat → ByteArray) (h2 : Lts w a2 m I' C) (hf2 : Fits m I' C)
    (a3 : Option Addr) (m3 c3 : Nat) (I B : Nat → Int) (h3 : Mss w a3 m3 I B) (hf3 : MFits m3 I B) (hb : M.batch m I' C = true) (hmi : M.mis b p n S m3 I B = true) (P0 X0 B0 L0 V0 U0 : Nat) (hord : P0 < V0 ∧ X0 < V0 ∧ B0 < V0 ∧ L0 < V0 ∧ V0 < U0)
    (hx0 : FBox w b p a n c x a2 m c2 a3 m3 c3 P0 X0 B0 L0 V0 U0 (.slice none 0 0) (.slice none 0 0)) :
    Calls Tryd.prog 50 #[.pointer (some ⟨P0, 0, none⟩), .pointer (some ⟨X0, 0, none⟩), .pointer (some ⟨B0, 0, none⟩), .pointer (some ⟨L0, 0, none⟩), .pointer (some ⟨V0, 0, none⟩), .pointer (some ⟨U0, 0, none⟩)] w
      fun e w' => e = .returned (.tuple #[]) ∧ FDone w V0 U0 b.toNat (M.binTo (fkey b n S C x I' m3 I B) I' C m) (M.restTo (fkey b n S C x I' m3 I B) I' C m) w' := by
  obtain ⟨hp, _, _⟩ := M.mis_true hmi
  obtain ⟨s1, s2, s3, s4⟩ := M.plan_shape hp
  have HX := Lib.hid hx0
  have HMF := Lib.hid (fun W (hW : Below w.heap.size w W) => machineFor_yes W b p a n c S (h.on hW) hf hn hp x ⟨by omega, hx⟩)
  have HST := Lib.hid (fun W (hW : Below w.heap.size w W) => impl_sort_yes W b p a n c S (h.on hW) hf hn x (by omega) a2 m c2 I' C (h2.on hW) hf2 a3 m3 c3 I B (h3.on hW) hf3 hb hmi)
  obtain ⟨MM, hMM⟩ : ∃ MM, M.binTo (fkey b n S C x I' m3 I B) I' C m = MM := ⟨_, rfl⟩
  obtain ⟨LL, hLL⟩ : ∃ LL, M.restTo (fkey b n S C x I' m3 I B) I' C m = LL := ⟨_, rfl⟩
  rw [hMM, hLL] at HST
  rw [hMM, hLL]
  obtain ⟨N, hN⟩ : ∃ N, b.toNat = N := ⟨_, rfl⟩
  rw [hN] at HST ⊢
  have hN0 : 0 < N := by omega
  have n1 : ¬ P0 = V0 := by omega
  have n2 : ¬ X0 = V0 := by omega
  have n3 : ¬ B0 = V0 := by omega
  have n4 : ¬ L0 = V0 := by omega
  have n5 : ¬ U0 = V0 := by omega
  have n6 : ¬ P0 = U0 := by omega
  have n7 : ¬ X0 = U0 := by omega
  have n8 : ¬ B0 = U0 := by omega
  have n9 : ¬ L0 = U0 := by omega
  have n10 : ¬ V0 = U0 := by omega
  have nn0 : V0 ≠ P0 := by omega
  have nn1 : V0 ≠ X0 := by omega
  have nn2 : V0 ≠ B0 := by omega
  have nn3 : V0 ≠ L0 := by omega
  have nn4 : U0 ≠ P0 := by omega
  have nn5 : U0 ≠ X0 := by omega
  have nn6 : U0 ≠ B0 := by omega
  have nn7 : U0 ≠ L0 := by omega
  have BR := Lib.hid (Below.refl w.heap.size w)
  have lv := World.block_lt_of_cell? _ _ hx0.vv
  have lu := World.block_lt_of_cell? _ _ hx0.uu
  clear h hf h2 hf2 h3 hf3 hb hmi hp hx0 hMM hLL hN
  obtain ⟨⟨⟨t0, t1, t2⟩, _⟩, x0, b0, l0, v0, u0, vf, uf⟩ := HX.out
  unfold mac at HMF HST
  go_enter Tryd.func50, Tryd.ntmps50
  go_wp2
  go_region_held3 (fun w' => w'.cell? ⟨P0, 0, none⟩ = some (.int .i64 b) ∧ w'.cell? ⟨P0, 1, none⟩ = some (.int .i64 p) ∧ w'.cell? ⟨P0, 2, none⟩ = some (.slice a n c) ∧ w'.cell? ⟨X0, 0, none⟩ = some (.int .i64 x) ∧ w'.cell? ⟨B0, 0, none⟩ = some (.slice a2 m c2) ∧ w'.cell? ⟨L0, 0, none⟩ = some (.slice a3 m3 c3)) (go_keep) (first
    | (go_at_call 51; refine (HMF.out _ (by first | exact BR.out | exact BR.out.drew)).mono ?_; rintro e w1 ⟨rfl, k1⟩; have K1 : Hid (Below w.heap.size w w1) := (by first | exact k1 | exact sstep (Below.refl _ _).drew k1); have HX1 := Lib.hid (HX.out.on K1.out); obtain ⟨⟨⟨c0, c1, c2'⟩, _⟩, c3', c4, c5, c6, c7, c8, c9⟩ := HX1.out)
    | (go_at_call 52; refine (HST.out _ (by first | exact K1.out | exact K1.out.drew)).mono ?_; rintro e w2 ⟨v, V, u, rfl, hm, hr, hap, k2⟩; obtain ⟨G, cG, hv⟩ := hm.some hN0; obtain ⟨aU, cU, hu, _, _⟩ := hr.form; subst hv hu; have K2 : Hid (Below w.heap.size w w2) := (by first | exact sstep K1.out k2 | exact sstep (sstep K1.out (Below.refl _ _).drew) k2); have HX2 := Lib.hid (HX.out.on K2.out); obtain ⟨⟨⟨d0, d1, d2⟩, _⟩, d3, d4, d5, d6, d7, d8, d9⟩ := HX2.out; have HM := Lib.hid (hm.lower (base' := w.heap.size) (by first | exact K1.out.size | exact K1.out.drew.size)); have HR := Lib.hid (hr.lower (base' := w.heap.size) (by first | exact K1.out.size | exact K1.out.drew.size)); have HA := Lib.hid hap; clear hm hr hap k2))
  all_goals
    have on2 := (Only.set (S := fun k => k = V0 ∨ k = U0) w2 ⟨V0, 0, none⟩ (.slice (some ⟨G, 0, none⟩) N cG) (Or.inl rfl)).trans (Only.set (S := fun k => k = V0 ∨ k = U0) (w2.setCell ⟨V0, 0, none⟩ (.slice (some ⟨G, 0, none⟩) N cG)) ⟨U0, 0, none⟩ (.slice aU LL.length cU) (Or.inr rfl)) (fun _ _ h => h)
    have hc1 : ((w2.setCell ⟨V0, 0, none⟩ (.slice (some ⟨G, 0, none⟩) N cG)).setCell ⟨U0, 0, none⟩ (.slice aU LL.length cU)).cell? ⟨V0, 0, none⟩ = some (.slice (some ⟨G, 0, none⟩) N cG) := by
      rw [World.cell?_setCell_far _ _ _ _ (fun e => n5 e)]
      simp [go_sem, d6]
    have hc2 : ((w2.setCell ⟨V0, 0, none⟩ (.slice (some ⟨G, 0, none⟩) N cG)).setCell ⟨U0, 0, none⟩ (.slice aU LL.length cU)).cell? ⟨U0, 0, none⟩ = some (.slice aU LL.length cU) := by
      have d8' : (w2.setCell ⟨V0, 0, none⟩ (.slice (some ⟨G, 0, none⟩) N cG)).cell? ⟨U0, 0, none⟩ = some (.slice none 0 0) := by
        rw [World.cell?_setCell_far _ _ _ _ (fun e => n10 e)]
        exact d7
      simp [go_sem, d8']
    have Q1 := Lib.hid (HM.out.only on2 (fun k hk hs => by have := (HM.out.lt hk).1; omega))
    have Q2 := Lib.hid (HR.out.only on2 (fun k hk hs => by have := (HR.out.lt k hk).1; omega))
    have Q3 := Lib.hid (Only.trans (S := fun k => k = V0 ∨ k = U0) (Only.new K2.out) on2 (fun _ _ h => h))
    have Q4 := Lib.hid hc1
    have Q5 := Lib.hid hc2
    clear on2 hc1 hc2
    go_wp2
    go_end0
    exact ⟨rfl, _, V, _, Q1.out, Q2.out, HA.out, Q4.out, Q5.out, Q3.out⟩

set_option maxHeartbeats 4000000 in
set_option maxRecDepth 100000 in
theorem faulty1_no (w : World) (J : Addr) (hj : Jam w J) (b p : Int) (a : Option Addr) (n c : Nat) (S : Nat → ByteArray) (h : Strs w a n S) (hf : SFits n S) (hn : n ≤ 1048576) (x : Int) (a2 : Option Addr) (m c2 : Nat) (I' : Nat → Int) (C : Nat → ByteArray) (h2 : Lts w a2 m I' C) (hf2 : Fits m I' C)
    (a3 : Option Addr) (m3 c3 : Nat) (I B : Nat → Int) (h3 : Mss w a3 m3 I B) (hf3 : MFits m3 I B) (hbad : ¬ (M.plan b p n S = true ∧ (0 ≤ x ∧ x < p) ∧ M.batch m I' C = true ∧ M.mis b p n S m3 I B = true)) (P0 X0 B0 L0 V0 U0 : Nat)
    (hx0 : FBox w b p a n c x a2 m c2 a3 m3 c3 P0 X0 B0 L0 V0 U0 (.slice none 0 0) (.slice none 0 0)) :
    Calls Tryd.prog 50 #[.pointer (some ⟨P0, 0, none⟩), .pointer (some ⟨X0, 0, none⟩), .pointer (some ⟨B0, 0, none⟩), .pointer (some ⟨L0, 0, none⟩), .pointer (some ⟨V0, 0, none⟩), .pointer (some ⟨U0, 0, none⟩)] w
      fun e w' => e = JamEnd J ∧ Below w.heap.size w w' := by
  have HX := Lib.hid hx0
  have BR := Lib.hid (Below.refl w.heap.size w)
  obtain ⟨⟨⟨t0, t1, t2⟩, _⟩, x0, b0, l0, v0, u0, vf, uf⟩ := HX.out
  by_cases hmf : M.plan b p n S = true ∧ 0 ≤ x ∧ x < p
  · have HMF := Lib.hid (fun W (hW : Below w.heap.size w W) => machineFor_yes W b p a n c S (h.on hW) hf hn hmf.1 x hmf.2)
    have HST := Lib.hid (fun W (hW : Below w.heap.size w W) => impl_sort_no W J (hj.on hW) b p a n c S (h.on hW) hf hn x a2 m c2 I' C (h2.on hW) hf2 a3 m3 c3 I B (h3.on hW) hf3 (fun e => hbad ⟨hmf.1, hmf.2, e.1, e.2⟩))
    clear h hf h2 hf2 h3 hf3 hx0 hj hbad hmf
    unfold mac at HMF HST
    go_enter Tryd.func50, Tryd.ntmps50
    go_wp2
    refine wp_region_held_drew (by kernel_rfl) (S := fun w' => Below w.heap.size w w') (by exact BR.out.drew) (fun hS => ?_)
    refine wpAnyH_take (i := 0) (v := .agg #[.int .i64 b, .int .i64 p, .slice a n c]) rfl (by kernel_rfl) (by kernel_rfl) (by kernel_rfl) (fun c a' w' h => panic_put h) (Or.inl ⟨by rfl, ?_⟩) hS ?_
    · intro w' hw'
      obtain ⟨⟨⟨c0, c1, c2'⟩, _⟩, c3', c4, c5, c6, c7, c8, c9⟩ := HX.out.on hw'
      go_simp
    simp only [Act.put, List.setIfInBounds_toArray]
    refine wpAnyH_take (i := 1) (v := .int .i64 x) rfl (by kernel_rfl) (by kernel_rfl) (by kernel_rfl) (fun c a' w' h => panic_put h) (Or.inl ⟨by rfl, ?_⟩) hS ?_
    · intro w' hw'
      obtain ⟨⟨⟨c0, c1, c2'⟩, _⟩, c3', c4, c5, c6, c7, c8, c9⟩ := HX.out.on hw'
      go_simp
    simp only [Act.put]
    refine wpAnyH_take (i := 3) (v := .slice a2 m c2) rfl (by kernel_rfl) (by kernel_rfl) (by kernel_rfl) (fun c a' w' h => panic_put h) (Or.inl ⟨by rfl, ?_⟩) hS ?_
    · intro w' hw'
      obtain ⟨⟨⟨c0, c1, c2'⟩, _⟩, c3', c4, c5, c6, c7, c8, c9⟩ := HX.out.on hw'
      go_simp
    simp only [Act.put]
    refine wpAnyH_take (i := 4) (v := .slice a3 m3 c3) rfl (by kernel_rfl) (by kernel_rfl) (by kernel_rfl) (fun c a' w' h => panic_put h) (Or.inl ⟨by rfl, ?_⟩) hS ?_
    · intro w' hw'
      obtain ⟨⟨⟨c0, c1, c2'⟩, _⟩, c3', c4, c5, c6, c7, c8, c9⟩ := HX.out.on hw'
      go_simp
    simp only [Act.put]
    refine wpAnyH_ready (rs := [2]) (by kernel_rfl) (by simp) ?_
    refine AllReadyH.cons rfl (fun K hK => ?_) AllReadyH.nil
    go_simp
    refine (HMF.out _ BR.out.drew).mono ?_
    rintro e w1 ⟨rfl, k1⟩
    have K1 : Hid (Below w.heap.size w w1) := sstep BR.out.drew k1
    clear k1
    refine hK.out _ _ K1.out (fun hS1 => ?_)
    refine wpAnyH_ready (rs := [5]) (by kernel_rfl) (by simp) ?_
    refine AllReadyH.cons rfl (fun K hK => ?_) AllReadyH.nil
    go_simp
    refine (HST.out _ K1.out).mono ?_
    rintro e w2 ⟨rfl, k2⟩
    exact ⟨rfl, rfl, sstep K1.out k2⟩
  · have HMF := Lib.hid (fun W (hW : Below w.heap.size w W) => machineFor_no W J (hj.on hW) b p a n c S (h.on hW) hf hn x hmf)
    clear h hf h2 hf2 h3 hf3 hx0 hj hbad hmf
    go_enter Tryd.func50, Tryd.ntmps50
    go_wp2
    refine wp_region_held_drew (by kernel_rfl) (S := fun w' => Below w.heap.size w w') (by exact BR.out.drew) (fun hS => ?_)
    refine wpAnyH_take (i := 0) (v := .agg #[.int .i64 b, .int .i64 p, .slice a n c]) rfl (by kernel_rfl) (by kernel_rfl) (by kernel_rfl) (fun c a' w' h => panic_put h) (Or.inl ⟨by rfl, ?_⟩) hS ?_
    · intro w' hw'
      obtain ⟨⟨⟨c0, c1, c2'⟩, _⟩, c3', c4, c5, c6, c7, c8, c9⟩ := HX.out.on hw'
      go_simp
    simp only [Act.put, List.setIfInBounds_toArray]
    refine wpAnyH_take (i := 1) (v := .int .i64 x) rfl (by kernel_rfl) (by kernel_rfl) (by kernel_rfl) (fun c a' w' h => panic_put h) (Or.inl ⟨by rfl, ?_⟩) hS ?_
    · intro w' hw'
      obtain ⟨⟨⟨c0, c1, c2'⟩, _⟩, c3', c4, c5, c6, c7, c8, c9⟩ := HX.out.on hw'
      go_simp
    simp only [Act.put]
    refine wpAnyH_take (i := 3) (v := .slice a2 m c2) rfl (by kernel_rfl) (by kernel_rfl) (by kernel_rfl) (fun c a' w' h => panic_put h) (Or.inl ⟨by rfl, ?_⟩) hS ?_
    · intro w' hw'
      obtain ⟨⟨⟨c0, c1, c2'⟩, _⟩, c3', c4, c5, c6, c7, c8, c9⟩ := HX.out.on hw'
      go_simp
    simp only [Act.put]
    refine wpAnyH_take (i := 4) (v := .slice a3 m3 c3) rfl (by kernel_rfl) (by kernel_rfl) (by kernel_rfl) (fun c a' w' h => panic_put h) (Or.inl ⟨by rfl, ?_⟩) hS ?_
    · intro w' hw'
      obtain ⟨⟨⟨c0, c1, c2'⟩, _⟩, c3', c4, c5, c6, c7, c8, c9⟩ := HX.out.on hw'
      go_simp
    simp only [Act.put]
    refine wpAnyH_ready (rs := [2]) (by kernel_rfl) (by simp) ?_
    refine AllReadyH.cons rfl (fun K hK => ?_) AllReadyH.nil
    go_simp
    refine (HMF.out _ BR.out.drew).mono ?_
    rintro e w1 ⟨rfl, k1⟩
    exact ⟨rfl, rfl, sstep BR.out.drew k1⟩
end Go.Proofs.YthlfbdapkjhmaaaDoor
