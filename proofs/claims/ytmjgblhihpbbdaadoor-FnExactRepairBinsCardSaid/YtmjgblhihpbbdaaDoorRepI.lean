/-
  RepairBins of the program.
-/
import Derived.Test.YtmjgblhihpbbdaaDoorMTop
import Derived.Test.YtmjgblhihpbbdaaDoorMSpec3
namespace Go.Proofs.YtmjgblhihpbbdaaDoor
open Go.RowKit
open Go.PlainAid (bt get_bt bt_nonneg bt_le)
set_option linter.unusedVariables false

set_option maxHeartbeats 1000000 in
set_option maxRecDepth 100000 in
theorem impl_repair_no (w : World) (b p x : Int) (s : Value) (b1 : 0 ≤ b) (b2 : b ≤ 16) (J : Addr) (hj : Jam w J) (base : Nat) (v : Value) (N : Nat) (V : Nat → Value) (MM : Nat → List (Int × ByteArray)) (hm : Mat w base v N V MM) (hN : N ≤ 1048576) (hl : (M.flat MM N).length ≤ 1048576) (hf : Fits (M.flat MM N).length (nI (M.flat MM N)) (nC (M.flat MM N))) (hok : binsOk b N MM = false) :
    Calls Tryd.prog 40 #[mac b p s x, v] w fun e w' => e = JamEnd J ∧ Below w.heap.size w w' := by
  have bb := below_alloc0 w (.cells #[.int .i64 b, .int .i64 p, s, .int .i64 x] 61)
  have B0 := Lib.hid bb
  have mx := Lib.hid (mac_made w b p s x 61)
  have HCK := Lib.hid (impl_takeOut_no (w.alloc (.cells #[.int .i64 b, .int .i64 p, s, .int .i64 x] 61)) b p x s b1 b2 J (hj.on bb) base v N V MM (hm.on bb) hN hl hf hok)
  clear hm hj hok bb hf
  unfold mac at HCK ⊢
  obtain ⟨⟨t0, t1, t2, t3⟩, _⟩ := mx.out
  go_enter Tryd.func40, Tryd.ntmps40
  go_wp2_with fail
  refine HCK.out.mono ?_
  rintro e w1 ⟨rfl, hb1⟩
  unfold JamEnd
  go_wp2
  exact ⟨rfl, rfl, sstep B0.out hb1⟩

/-- The boxes that RepairBins' literal holds. -/
structure RBox (w : World) (b p : Int) (a : Option Addr) (n c : Nat) (x : Int) (y : Value) (P0 X0 B0 V0 U0 : Nat) (v u : Value) : Prop where
  pp : Tri w P0 (.int .i64 b) (.int .i64 p) (.slice a n c)
  xx : w.cell? ⟨X0, 0, none⟩ = some (.int .i64 x)
  bb : w.cell? ⟨B0, 0, none⟩ = some y
  vv : w.cell? ⟨V0, 0, none⟩ = some v
  uu : w.cell? ⟨U0, 0, none⟩ = some u
  vf : w.frozen? ⟨V0, 0, none⟩ = false
  uf : w.frozen? ⟨U0, 0, none⟩ = false
theorem RBox.only {w w' : World} {b p : Int} {a : Option Addr} {n c : Nat} {x : Int} {y : Value} {P0 X0 B0 V0 U0 : Nat} {v u : Value} {S : Nat → Prop} (h : RBox w b p a n c x y P0 X0 B0 V0 U0 v u) (ho : Only w w' S)
    (hn : ¬ S P0 ∧ ¬ S X0 ∧ ¬ S B0 ∧ ¬ S V0 ∧ ¬ S U0) : RBox w' b p a n c x y P0 X0 B0 V0 U0 v u := by
  have k : ∀ {q : Nat} {y' : Value}, w.cell? ⟨q, 0, none⟩ = some y' → ¬ S q → w'.cell? ⟨q, 0, none⟩ = some y' := fun {q y'} e hq => (World.cell?_of_block (ho.block q (World.block_lt_of_cell? _ _ e) hq)).trans e
  have z : ∀ {q : Nat} {y' : Value}, w.cell? ⟨q, 0, none⟩ = some y' → ¬ S q → w'.frozen? ⟨q, 0, none⟩ = w.frozen? ⟨q, 0, none⟩ := fun {q y'} e hq => World.frozen?_of_block (ho.block q (World.block_lt_of_cell? _ _ e) hq)
  obtain ⟨h1, h2, h3, h5, h6⟩ := hn
  exact ⟨triOnly h.pp ho h1, k h.xx h2, k h.bb h3, k h.vv h5, k h.uu h6, by rw [z h.vv h5]; exact h.vf, by rw [z h.uu h6]; exact h.uf⟩
theorem RBox.on {w w' : World} {b p : Int} {a : Option Addr} {n c : Nat} {x : Int} {y : Value} {P0 X0 B0 V0 U0 : Nat} {v u : Value} (h : RBox w b p a n c x y P0 X0 B0 V0 U0 v u) (hb : Below w.heap.size w w') : RBox w' b p a n c x y P0 X0 B0 V0 U0 v u :=
  h.only (Only.new (S := fun _ => False) hb) ⟨fun e => e, fun e => e, fun e => e, fun e => e, fun e => e⟩

set_option maxHeartbeats 4000000 in
set_option maxRecDepth 100000 in
theorem repair1_yes (w : World) (b p : Int) (a : Option Addr) (n c : Nat) (S : Nat → ByteArray) (h : Strs w a n S) (hf : SFits n S) (hn : n ≤ 1048576) (x : Nat) (hx : (x : Int) < p) (hp : M.plan b p n S = true) (J : Addr) (hj : Jam w J) (base : Nat) (u0 : Option Addr) (N c2 : Nat) (V : Nat → Value) (MM : Nat → List (Int × ByteArray)) (hm : Mat w base (.slice u0 N c2) N V MM) (hok : binsOk b N MM = true) (P0 X0 B0 V0 U0 : Nat) (hord : P0 < V0 ∧ X0 < V0 ∧ B0 < V0 ∧ V0 < U0)
    (hx0 : RBox w b p a n c x (.slice u0 N c2) P0 X0 B0 V0 U0 (.slice none 0 0) (.slice none 0 0)) :
    Calls Tryd.prog 38 #[.pointer (some ⟨P0, 0, none⟩), .pointer (some ⟨X0, 0, none⟩), .pointer (some ⟨B0, 0, none⟩), .pointer (some ⟨V0, 0, none⟩), .pointer (some ⟨U0, 0, none⟩)] w
      fun e w' => e = .returned (.tuple #[]) ∧ FDone w V0 U0 N (repM b n S x MM N) (repL b n S x MM N) w' := by
  obtain ⟨s1, s2, s3, s4⟩ := M.plan_shape hp
  have HX := Lib.hid hx0
  have HMF := Lib.hid (fun W (hW : Below w.heap.size w W) => machineFor_yes W b p a n c S (h.on hW) hf hn hp x ⟨by omega, hx⟩)
  have hok2 := hok
  unfold binsOk at hok2
  rw [Bool.and_eq_true] at hok2
  have hNb : (N : Int) = b := of_decide_eq_true hok2.1
  have HST := Lib.hid (fun W (hW : Below w.heap.size w W) => impl_repair_yes W b p a n c S (h.on hW) hn s1 s2 x (by omega) J (hj.on hW) base _ N V MM (hm.on hW) hok)
  obtain ⟨RM, hMM⟩ : ∃ RM, repM b n S x MM N = RM := ⟨_, rfl⟩
  obtain ⟨LL, hLL⟩ : ∃ LL, repL b n S x MM N = LL := ⟨_, rfl⟩
  rw [hMM, hLL] at HST
  rw [hMM, hLL]
  have hN0 : 0 < N := by omega
  have n1 : ¬ P0 = V0 := by omega
  have n2 : ¬ X0 = V0 := by omega
  have n3 : ¬ B0 = V0 := by omega
  have n5 : ¬ U0 = V0 := by omega
  have n6 : ¬ P0 = U0 := by omega
  have n7 : ¬ X0 = U0 := by omega
  have n8 : ¬ B0 = U0 := by omega
  have n10 : ¬ V0 = U0 := by omega
  have nn0 : V0 ≠ P0 := by omega
  have nn1 : V0 ≠ X0 := by omega
  have nn2 : V0 ≠ B0 := by omega
  have nn4 : U0 ≠ P0 := by omega
  have nn5 : U0 ≠ X0 := by omega
  have nn6 : U0 ≠ B0 := by omega
  have BR := Lib.hid (Below.refl w.heap.size w)
  have lv := World.block_lt_of_cell? _ _ hx0.vv
  have lu := World.block_lt_of_cell? _ _ hx0.uu
  clear h hf hm hok hok2 hNb hj hp hx0 hMM hLL
  obtain ⟨⟨⟨t0, t1, t2⟩, _⟩, x0, b0, v0, u00, vf, uf⟩ := HX.out
  unfold mac at HMF HST
  go_enter Tryd.func38, Tryd.ntmps38
  go_wp2
  go_region_held3 (fun w' => w'.cell? ⟨P0, 0, none⟩ = some (.int .i64 b) ∧ w'.cell? ⟨P0, 1, none⟩ = some (.int .i64 p) ∧ w'.cell? ⟨P0, 2, none⟩ = some (.slice a n c) ∧ w'.cell? ⟨X0, 0, none⟩ = some (.int .i64 x) ∧ w'.cell? ⟨B0, 0, none⟩ = some (.slice u0 N c2)) (go_keep) (first
    | (go_at_call 39; refine (HMF.out _ (by first | exact BR.out | exact BR.out.drew)).mono ?_; rintro e w1 ⟨rfl, k1⟩; have K1 : Hid (Below w.heap.size w w1) := (by first | exact k1 | exact sstep (Below.refl _ _).drew k1); have HX1 := Lib.hid (HX.out.on K1.out); obtain ⟨⟨⟨c0, c1, c2'⟩, _⟩, c3', c4, c6, c7, c8, c9⟩ := HX1.out)
    | (go_at_call 40; refine (HST.out _ (by first | exact K1.out | exact K1.out.drew)).mono ?_; rintro e w2 ⟨v, V', u, rfl, hm, hr, hap, k2⟩; obtain ⟨G, cG, hv⟩ := hm.some hN0; obtain ⟨aU, cU, hu, _, _⟩ := hr.form; subst hv hu; have K2 : Hid (Below w.heap.size w w2) := (by first | exact sstep K1.out k2 | exact sstep (sstep K1.out (Below.refl _ _).drew) k2); have HX2 := Lib.hid (HX.out.on K2.out); obtain ⟨⟨⟨d0, d1, d2⟩, _⟩, d3, d4, d6, d7, d8, d9⟩ := HX2.out; have HM := Lib.hid (hm.lower (base' := w.heap.size) (by first | exact K1.out.size | exact K1.out.drew.size)); have HR := Lib.hid (hr.lower (base' := w.heap.size) (by first | exact K1.out.size | exact K1.out.drew.size)); have HA := Lib.hid hap; clear hm hr hap k2))
  all_goals
    have on2 := (Only.set (S := fun k => k = V0 ∨ k = U0) w2 ⟨V0, 0, none⟩ (.slice (some ⟨G, 0, none⟩) N cG) (Or.inl rfl)).trans (Only.set (S := fun k => k = V0 ∨ k = U0) (w2.setCell ⟨V0, 0, none⟩ (.slice (some ⟨G, 0, none⟩) N cG)) ⟨U0, 0, none⟩ (.slice aU LL.length cU) (Or.inr rfl)) (fun _ _ h => h)
    have hc1 : ((w2.setCell ⟨V0, 0, none⟩ (.slice (some ⟨G, 0, none⟩) N cG)).setCell ⟨U0, 0, none⟩ (.slice aU LL.length cU)).cell? ⟨V0, 0, none⟩ = some (.slice (some ⟨G, 0, none⟩) N cG) := by
      rw [World.cell?_setCell_far _ _ _ _ (fun e => n5 e)]
      simp [go_sem, d6]
    have hc2 : ((w2.setCell ⟨V0, 0, none⟩ (.slice (some ⟨G, 0, none⟩) N cG)).setCell ⟨U0, 0, none⟩ (.slice aU LL.length cU)).cell? ⟨U0, 0, none⟩ = some (.slice aU LL.length cU) := by
      have d8' : (w2.setCell ⟨V0, 0, none⟩ (.slice (some ⟨G, 0, none⟩) N cG)).cell? ⟨U0, 0, none⟩ = some (.slice none 0 0) := by
        rw [World.cell?_setCell_far _ _ _ _ (fun e => n10 e)]
        exact d7
      simp [go_sem, d8']
    have Q1 := Lib.hid (HM.out.only on2 (fun k hk hs => by have := (HM.out.lt hk).1; omega))
    have Q2 := Lib.hid (HR.out.only on2 (fun k hk hs => by have := (HR.out.lt k hk).1; omega))
    have Q3 := Lib.hid (Only.trans (S := fun k => k = V0 ∨ k = U0) (Only.new K2.out) on2 (fun _ _ h => h))
    have Q4 := Lib.hid hc1
    have Q5 := Lib.hid hc2
    clear on2 hc1 hc2
    go_wp2
    go_end0
    exact ⟨rfl, _, V', _, Q1.out, Q2.out, HA.out, Q4.out, Q5.out, Q3.out⟩

set_option maxHeartbeats 4000000 in
set_option maxRecDepth 100000 in
theorem repair1_no (w : World) (J : Addr) (hj : Jam w J) (b p : Int) (a : Option Addr) (n c : Nat) (S : Nat → ByteArray) (h : Strs w a n S) (hf : SFits n S) (hn : n ≤ 1048576) (x : Int) (base : Nat) (u0 : Option Addr) (N c2 : Nat) (V : Nat → Value) (MM : Nat → List (Int × ByteArray)) (hm : Mat w base (.slice u0 N c2) N V MM) (hN : N ≤ 1048576) (hl : (M.flat MM N).length ≤ 1048576) (hf2 : Fits (M.flat MM N).length (nI (M.flat MM N)) (nC (M.flat MM N))) (hbad : binsAll b p n S N MM x = false) (P0 X0 B0 V0 U0 : Nat)
    (hx0 : RBox w b p a n c x (.slice u0 N c2) P0 X0 B0 V0 U0 (.slice none 0 0) (.slice none 0 0)) :
    Calls Tryd.prog 38 #[.pointer (some ⟨P0, 0, none⟩), .pointer (some ⟨X0, 0, none⟩), .pointer (some ⟨B0, 0, none⟩), .pointer (some ⟨V0, 0, none⟩), .pointer (some ⟨U0, 0, none⟩)] w
      fun e w' => e = JamEnd J ∧ Below w.heap.size w w' := by
  have HX := Lib.hid hx0
  have BR := Lib.hid (Below.refl w.heap.size w)
  obtain ⟨⟨⟨t0, t1, t2⟩, _⟩, x0, b0, v0, u00, vf, uf⟩ := HX.out
  by_cases hmf : M.plan b p n S = true ∧ 0 ≤ x ∧ x < p
  · obtain ⟨s1, s2, s3, s4⟩ := M.plan_shape hmf.1
    have hbo : binsOk b N MM = false := by
      unfold binsAll at hbad
      rw [hmf.1, decide_eq_true (show 0 ≤ x ∧ x ≤ p - 1 by omega), Bool.true_and, Bool.and_true] at hbad
      exact hbad
    have HMF := Lib.hid (fun W (hW : Below w.heap.size w W) => machineFor_yes W b p a n c S (h.on hW) hf hn hmf.1 x hmf.2)
    have HST := Lib.hid (fun W (hW : Below w.heap.size w W) => impl_repair_no W b p x (.slice a n c) (by omega) s2 J (hj.on hW) base _ N V MM (hm.on hW) hN hl hf2 hbo)
    clear h hf hm hf2 hx0 hj hbad hmf hbo
    unfold mac at HMF HST
    go_enter Tryd.func38, Tryd.ntmps38
    go_wp2
    refine wp_region_held_drew (by kernel_rfl) (S := fun w' => Below w.heap.size w w') (by exact BR.out.drew) (fun hS => ?_)
    refine wpAnyH_take (i := 0) (v := .agg #[.int .i64 b, .int .i64 p, .slice a n c]) rfl (by kernel_rfl) (by kernel_rfl) (by kernel_rfl) (fun c a' w' h => panic_put (P := Tryd.prog) (fn := Tryd.f38) (R := fun e w' => e = JamEnd J ∧ Below w.heap.size w w') h) (Or.inl ⟨by rfl, ?_⟩) hS ?_
    · intro w' hw'
      obtain ⟨⟨⟨c0, c1, c2'⟩, _⟩, c3', c4, c5, c6, c7, c8⟩ := HX.out.on hw'
      go_simp
    simp only [Act.put, List.setIfInBounds_toArray]
    refine wpAnyH_take (i := 1) (v := .int .i64 x) rfl (by kernel_rfl) (by kernel_rfl) (by kernel_rfl) (fun c a' w' h => panic_put (P := Tryd.prog) (fn := Tryd.f38) (R := fun e w' => e = JamEnd J ∧ Below w.heap.size w w') h) (Or.inl ⟨by rfl, ?_⟩) hS ?_
    · intro w' hw'
      obtain ⟨⟨⟨c0, c1, c2'⟩, _⟩, c3', c4, c5, c6, c7, c8⟩ := HX.out.on hw'
      go_simp
    simp only [Act.put]
    refine wpAnyH_take (i := 3) (v := .slice u0 N c2) rfl (by kernel_rfl) (by kernel_rfl) (by kernel_rfl) (fun c a' w' h => panic_put (P := Tryd.prog) (fn := Tryd.f38) (R := fun e w' => e = JamEnd J ∧ Below w.heap.size w w') h) (Or.inl ⟨by rfl, ?_⟩) hS ?_
    · intro w' hw'
      obtain ⟨⟨⟨c0, c1, c2'⟩, _⟩, c3', c4, c5, c6, c7, c8⟩ := HX.out.on hw'
      go_simp
    simp only [Act.put]
    refine wpAnyH_ready (rs := [2]) (by kernel_rfl) (by simp) ?_
    refine AllReadyH.cons rfl (fun K hK => ?_) AllReadyH.nil
    go_simp
    refine (HMF.out _ BR.out.drew).mono ?_
    rintro e w1 ⟨rfl, k1⟩
    have K1 : Hid (Below w.heap.size w w1) := sstep BR.out.drew k1
    clear k1
    refine hK.out _ _ K1.out (fun hS1 => ?_)
    refine wpAnyH_ready (rs := [4]) (by kernel_rfl) (by simp) ?_
    refine AllReadyH.cons rfl (fun K hK => ?_) AllReadyH.nil
    go_simp
    refine (HST.out _ K1.out).mono ?_
    rintro e w2 ⟨rfl, k2⟩
    exact ⟨rfl, rfl, sstep K1.out k2⟩
  · have HMF := Lib.hid (fun W (hW : Below w.heap.size w W) => machineFor_no W J (hj.on hW) b p a n c S (h.on hW) hf hn x hmf)
    clear h hf hm hf2 hx0 hj hbad hmf
    go_enter Tryd.func38, Tryd.ntmps38
    go_wp2
    refine wp_region_held_drew (by kernel_rfl) (S := fun w' => Below w.heap.size w w') (by exact BR.out.drew) (fun hS => ?_)
    refine wpAnyH_take (i := 0) (v := .agg #[.int .i64 b, .int .i64 p, .slice a n c]) rfl (by kernel_rfl) (by kernel_rfl) (by kernel_rfl) (fun c a' w' h => panic_put (P := Tryd.prog) (fn := Tryd.f38) (R := fun e w' => e = JamEnd J ∧ Below w.heap.size w w') h) (Or.inl ⟨by rfl, ?_⟩) hS ?_
    · intro w' hw'
      obtain ⟨⟨⟨c0, c1, c2'⟩, _⟩, c3', c4, c5, c6, c7, c8⟩ := HX.out.on hw'
      go_simp
    simp only [Act.put, List.setIfInBounds_toArray]
    refine wpAnyH_take (i := 1) (v := .int .i64 x) rfl (by kernel_rfl) (by kernel_rfl) (by kernel_rfl) (fun c a' w' h => panic_put (P := Tryd.prog) (fn := Tryd.f38) (R := fun e w' => e = JamEnd J ∧ Below w.heap.size w w') h) (Or.inl ⟨by rfl, ?_⟩) hS ?_
    · intro w' hw'
      obtain ⟨⟨⟨c0, c1, c2'⟩, _⟩, c3', c4, c5, c6, c7, c8⟩ := HX.out.on hw'
      go_simp
    simp only [Act.put]
    refine wpAnyH_take (i := 3) (v := .slice u0 N c2) rfl (by kernel_rfl) (by kernel_rfl) (by kernel_rfl) (fun c a' w' h => panic_put (P := Tryd.prog) (fn := Tryd.f38) (R := fun e w' => e = JamEnd J ∧ Below w.heap.size w w') h) (Or.inl ⟨by rfl, ?_⟩) hS ?_
    · intro w' hw'
      obtain ⟨⟨⟨c0, c1, c2'⟩, _⟩, c3', c4, c5, c6, c7, c8⟩ := HX.out.on hw'
      go_simp
    simp only [Act.put]
    refine wpAnyH_ready (rs := [2]) (by kernel_rfl) (by simp) ?_
    refine AllReadyH.cons rfl (fun K hK => ?_) AllReadyH.nil
    go_simp
    refine (HMF.out _ BR.out.drew).mono ?_
    rintro e w1 ⟨rfl, k1⟩
    exact ⟨rfl, rfl, sstep BR.out.drew k1⟩

theorem run_repair1 (cap : Array Value) (W : World) : (callFunc 38 cap).run Tryd.prog W = .ok (.enter 38 cap) W :=
  run_enter Tryd.func38 (by kernel_rfl) (by kernel_rfl) cap W
/-- What RepairBins answers: how many bins, and the letters without a rank. -/
def repN (b p : Int) (n : Nat) (S : Nat → ByteArray) (N : Nat) (MM : Nat → List (Int × ByteArray)) (x : Int) : Nat := if binsAll b p n S N MM x = true then N else 0
def repR (b p : Int) (n : Nat) (S : Nat → ByteArray) (N : Nat) (MM : Nat → List (Int × ByteArray)) (x : Int) : List (Int × ByteArray) := if binsAll b p n S N MM x = true then repL b n S x.toNat MM N else []

set_option maxHeartbeats 4000000 in
set_option maxRecDepth 100000 in
theorem impl_RepairBins (w : World) (J : Addr) (hj : Jam w J) (b p : Int) (a : Option Addr) (n c : Nat) (S : Nat → ByteArray) (h : Strs w a n S) (hf : SFits n S) (hn : n ≤ 1048576) (base : Nat) (v : Value) (N : Nat) (V : Nat → Value) (MM : Nat → List (Int × ByteArray)) (hm : Mat w base v N V MM) (hN : N ≤ 1048576) (hl : (M.flat MM N).length ≤ 1048576) (hf2 : Fits (M.flat MM N).length (nI (M.flat MM N)) (nC (M.flat MM N))) (x : Int) :
    Calls Tryd.prog 12 #[.agg #[.int .i64 b, .int .i64 p, .slice a n c], v, .int .i64 x] w
      (PassRes w (binsAll b p n S N MM x) (repN b p n S N MM x) (repM b n S x.toNat MM N) (repR b p n S N MM x)) := by
  obtain ⟨u0, c2, hv⟩ : ∃ u c, v = .slice u N c := by
    rcases hm.form with ⟨rfl, rfl⟩ | ⟨g, c, rfl, _⟩
    · exact ⟨_, _, rfl⟩
    · exact ⟨_, _, rfl⟩
  subst hv
  have hmf : ∀ (fn : Fn) (first cap : Array Value) (w : World), (Instr.makeFunc fn first cap).run Tryd.prog w = .ok (.func fn first cap) w := fun _ _ _ _ => rfl
  obtain ⟨w6, hw6⟩ : ∃ w6, ((((w.alloc (.cells #[.int .i64 b, .int .i64 p, .slice a n c] 32)).alloc (.cells #[.slice u0 N c2] 28)).alloc (.cells #[.int .i64 x] 3)).alloc (.cells #[.slice none 0 0] 28)).alloc (.cells #[.slice none 0 0] 29) = w6 := ⟨_, rfl⟩
  have B6 : Hid (Below w.heap.size w w6) := by rw [← hw6]; show Below _ _ _; go_grown
  have hz6 : w6.heap.size = w.heap.size + 5 := by rw [← hw6]; simp
  have FB : Hid (∀ W, Below w6.heap.size w6 W → RBox W b p a n c x (.slice u0 N c2) w.heap.size (w.heap.size + 2) (w.heap.size + 1) (w.heap.size + 3) (w.heap.size + 4) (.slice none 0 0) (.slice none 0 0)) := fun W hW => by
    refine RBox.on ?_ hW
    rw [← hw6]
    refine ⟨((((tri_made w (.int .i64 b) (.int .i64 p) (.slice a n c) 32).alloc _).alloc _).alloc _).alloc _, ?_, ?_, ?_, ?_, ?_, ?_⟩ <;> simp [go_sem]
  have HJ6 := Lib.hid (hj.on B6.out)
  unfold repN repR
  have HH := Lib.hid (h.on B6.out)
  have HM := Lib.hid (hm.on B6.out)
  cases hok : binsAll b p n S N MM x
  rotate_left
  · rw [if_pos rfl, if_pos rfl]
    have hk := hok
    unfold binsAll at hk
    simp only [Bool.and_eq_true, decide_eq_true_eq] at hk
    obtain ⟨⟨hp, hbo⟩, hx0, hx1⟩ := hk
    obtain ⟨y, rfl⟩ := Int.eq_ofNat_of_zero_le hx0
    rw [Int.toNat_natCast]
    have HR := Lib.hid (runs_well w6 J HJ6.out 38 #[.pointer (some ⟨w.heap.size, 0, none⟩), .pointer (some ⟨w.heap.size + 2, 0, none⟩), .pointer (some ⟨w.heap.size + 1, 0, none⟩), .pointer (some ⟨w.heap.size + 3, 0, none⟩), .pointer (some ⟨w.heap.size + 4, 0, none⟩)]
      (fun W w1 => FDone (W.alloc (.cells #[.nilIface] 90)) (w.heap.size + 3) (w.heap.size + 4) N (repM b n S y MM N) (repL b n S y MM N) w1) (run_repair1 _)
      (fun W hW => by
        have hW2 : Below w6.heap.size w6 (W.alloc (.cells #[.nilIface] 90)) := hW.alloc hW.size _
        exact repair1_yes _ b p a n c S (HH.out.on hW2) hf hn y (by omega) hp J (HJ6.out.on hW2) base u0 N c2 V MM (HM.out.on hW2) hbo _ _ _ _ _ (by omega) (FB.out _ hW2))
      (fun W w1 hW hr => by
        obtain ⟨v, V', u, _, _, _, _, _, ho⟩ := hr
        have hs := hW.size
        have hbk := ho.block W.heap.size (by simp) (by omega)
        refine ⟨(World.cell?_of_block hbk).trans (by simp), (World.frozen?_of_block hbk).trans (by simp [go_sem]), ?_⟩
        have hj2 := (HJ6.out.on hW).on (below_alloc0 W (.cells #[.nilIface] 90))
        have hl := HJ6.out.lt
        exact (World.cell?_of_block (ho.block _ hj2.lt (show ¬ (0 = w.heap.size + 3 ∨ 0 = w.heap.size + 4) from by have := hj.lt; omega))).trans hj2))
    obtain ⟨RM, hMM⟩ : ∃ RM, repM b n S y MM N = RM := ⟨_, rfl⟩
    obtain ⟨LL, hLL⟩ : ∃ LL, repL b n S y MM N = LL := ⟨_, rfl⟩
    rw [hMM, hLL] at HR
    rw [hMM, hLL]
    have HW6 := Lib.hid hw6
    clear h hm hj hw6 hMM hLL FB HH HM hp hbo hok hx0 hx1
    go_enter Tryd.func12, Tryd.ntmps12
    go_wp2_with fail
    rw [HW6.out]
    refine HR.out.mono ?_
    rintro e w7 ⟨rfl, W, wa, hW, ⟨v, V', u, hM, hRo, hA, hv, hu, ho⟩, on⟩
    have hsW := hW.size
    have hszA : (W.alloc (.cells #[.nilIface] 90)).heap.size = W.heap.size + 1 := by simp
    rw [hszA] at hM hRo
    have v7 : w7.cell? ⟨w.heap.size + 3, 0, none⟩ = some v := (World.cell?_of_block (on.block (w.heap.size + 3) (World.block_lt_of_cell? _ _ hv) (by omega))).trans hv
    have u7 : w7.cell? ⟨w.heap.size + 4, 0, none⟩ = some u := (World.cell?_of_block (on.block (w.heap.size + 4) (World.block_lt_of_cell? _ _ hu) (by omega))).trans hu
    have M7 := Lib.hid (hM.only on (fun k hk hs => by have := (hM.lt hk).1; omega))
    have R7 := Lib.hid (hRo.only on (fun k hk hs => by have := (hRo.lt k hk).1; omega))
    have A7 := Lib.hid hA
    have hoz := ho.size
    rw [hszA] at hoz
    have B7 : Hid (Below w.heap.size w w7) := ((B6.out.trans (hW.mono (by omega))).trans ((below_alloc0 W (.cells #[.nilIface] 90)).mono (by omega))).trans ((ho.below (B := w.heap.size) (fun k hk _ hs => by omega) (by rw [hszA]; omega)).trans (on.below (B := w.heap.size) (fun k hk _ hs => by omega) (by omega)))
    clear hM hRo hA hv hu ho on
    go_wp2
    go_quiet (fail)
    go_wp2
    go_ret3
    exact ⟨v, V', u, rfl, M7.out.lower (by omega), R7.out.lower (by omega), A7.out, by first | exact B7.out | exact below_drewN0 B7.out _⟩
  · rw [if_neg (by decide), if_neg (by decide)]
    have HR := Lib.hid (runs_jam w6 J HJ6.out 38 #[.pointer (some ⟨w.heap.size, 0, none⟩), .pointer (some ⟨w.heap.size + 2, 0, none⟩), .pointer (some ⟨w.heap.size + 1, 0, none⟩), .pointer (some ⟨w.heap.size + 3, 0, none⟩), .pointer (some ⟨w.heap.size + 4, 0, none⟩)]
      (fun W w1 => Below (W.alloc (.cells #[.nilIface] 90)).heap.size (W.alloc (.cells #[.nilIface] 90)) w1) (run_repair1 _)
      (fun W hW => by
        have hW2 : Below w6.heap.size w6 (W.alloc (.cells #[.nilIface] 90)) := hW.alloc hW.size _
        exact repair1_no _ J (HJ6.out.on hW2) b p a n c S (HH.out.on hW2) hf hn x base u0 N c2 V MM (HM.out.on hW2) hN hl hf2 hok _ _ _ _ _ (FB.out _ hW2))
      (fun W w1 hW hr => by
        have hbk := hr.block W.heap.size (by simp)
        exact ⟨(World.cell?_of_block hbk).trans (by simp), (World.frozen?_of_block hbk).trans (by simp [go_sem]), ((HJ6.out.on hW).on (below_alloc0 W (.cells #[.nilIface] 90))).on hr⟩))
    have HW6 := Lib.hid hw6
    have HFB := Lib.hid FB
    clear h hm hj hw6 FB HH HM hok
    go_enter Tryd.func12, Tryd.ntmps12
    go_wp2_with fail
    rw [HW6.out]
    refine HR.out.mono ?_
    rintro e w7 ⟨rfl, W, wa, hW, hr, on⟩
    have hsW := hW.size
    have hszA : (W.alloc (.cells #[.nilIface] 90)).heap.size = W.heap.size + 1 := by simp
    have hwa : Below w6.heap.size w6 wa := (hW.alloc hsW (.cells #[.nilIface] 90)).trans (hr.mono (by rw [hszA]; omega))
    have fb := HFB.out wa hwa
    have v7 : w7.cell? ⟨w.heap.size + 3, 0, none⟩ = some (.slice none 0 0) := (World.cell?_of_block (on.block (w.heap.size + 3) (World.block_lt_of_cell? _ _ fb.vv) (by omega))).trans fb.vv
    have u7 : w7.cell? ⟨w.heap.size + 4, 0, none⟩ = some (.slice none 0 0) := (World.cell?_of_block (on.block (w.heap.size + 4) (World.block_lt_of_cell? _ _ fb.uu) (by omega))).trans fb.uu
    have hzw := hwa.size
    have B7 : Hid (Below w.heap.size w w7) := (B6.out.trans (hwa.mono (by omega))).trans (on.below (B := w.heap.size) (fun k hk _ hs => by omega) (by omega))
    clear hr on fb hwa hW
    go_wp2
    go_quiet (fail)
    go_wp2
    go_ret3
    exact ⟨_, fun _ => .slice none 0 0, _, rfl, Mat.nil _ _ _ _, Row.nil _ _, (fun g e => by cases e), by first | exact B7.out | exact below_drewN0 B7.out _⟩
end Go.Proofs.YtmjgblhihpbbdaaDoor
