/-
  FinishPasses of the program.
-/
import Derived.Test.YtnaghfppeejaoaaDoorFin
import Derived.Test.YtnaghfppeejaoaaDoorMSp
import Derived.Test.YtnaghfppeejaoaaDoorPass
import Derived.Test.YtnaghfppeejaoaaDoorRadA
namespace Go.Proofs.YtnaghfppeejaoaaDoor
open Go.RowKit
open Go.PlainAid (bt get_bt bt_nonneg bt_le)
set_option linter.unusedVariables false

theorem run_fin1 (cap : Array Value) (W : World) : (callFunc 67 cap).run Tryd.prog W = .ok (.enter 67 cap) W :=
  run_enter Tryd.func67 (by kernel_rfl) (by kernel_rfl) cap W
/-- What FinishPasses answers. -/
def finAns (b p : Int) (n : Nat) (S : Nat → ByteArray) (N : Nat) (MM : Nat → List (Int × ByteArray)) (x : Int) : List (Int × ByteArray) := if binsAll b p n S N MM x = true then finL b p n S x.toNat (M.flat MM N) else []

set_option maxHeartbeats 4000000 in
set_option maxRecDepth 100000 in
theorem fin1_yes (w : World) (b p : Int) (a : Option Addr) (n c : Nat) (S : Nat → ByteArray) (h : Strs w a n S) (hf : SFits n S) (hn : n ≤ 1048576) (hp : M.plan b p n S = true) (x : Nat) (hx : (x : Int) < p) (J : Addr) (hj : Jam w J) (base : Nat) (u0 : Option Addr) (N c2 : Nat) (V : Nat → Value) (MM : Nat → List (Int × ByteArray)) (hm : Mat w base (.slice u0 N c2) N V MM) (hN : N ≤ 1048576) (hok : binsOk b N MM = true) (P0 X0 B0 V0 : Nat) (hord : P0 < V0 ∧ X0 < V0 ∧ B0 < V0)
    (hx0 : WBox w b p a n c x (.slice u0 N c2) P0 X0 B0 V0 (.slice none 0 0)) :
    Calls Tryd.prog 67 #[.pointer (some ⟨P0, 0, none⟩), .pointer (some ⟨X0, 0, none⟩), .pointer (some ⟨B0, 0, none⟩), .pointer (some ⟨V0, 0, none⟩)] w
      fun e w' => e = .returned (.tuple #[]) ∧ LDone w V0 (finL b p n S x (M.flat MM N)) w' := by
  obtain ⟨s1, s2, s3, s4⟩ := M.plan_shape hp
  have hok2 := hok
  unfold binsOk at hok2
  rw [Bool.and_eq_true] at hok2
  have h60 := ((batchL_list _).1 hok2.2).2.2
  have HX := Lib.hid hx0
  have HMF := Lib.hid (fun W (hW : Below w.heap.size w W) => machineFor_yes W b p a n c S (h.on hW) hf hn hp x ⟨by omega, hx⟩)
  have HST := Lib.hid (fun W (hW : Below w.heap.size w W) => impl_behind_yes W b p a n c S (h.on hW) hf hn hp x hx J (hj.on hW) base _ N V MM (hm.on hW) hok)
  obtain ⟨LL, hLL⟩ : ∃ LL, finL b p n S x (M.flat MM N) = LL := ⟨_, rfl⟩
  rw [hLL] at HST ⊢
  have nn1 : V0 ≠ P0 := by omega
  have nn2 : V0 ≠ X0 := by omega
  have nn3 : V0 ≠ B0 := by omega
  have nn4 : P0 ≠ V0 := by omega
  have nn5 : X0 ≠ V0 := by omega
  have nn6 : B0 ≠ V0 := by omega
  have BR := Lib.hid (Below.refl w.heap.size w)
  have lv := World.block_lt_of_cell? _ _ hx0.vv
  clear h hf hp hm hok hok2 h60 hx0 hLL hj
  obtain ⟨⟨⟨t0, t1, t2⟩, _⟩, x0, b0, v0, vf⟩ := HX.out
  unfold mac at HMF HST
  go_enter Tryd.func67, Tryd.ntmps67
  go_wp2
  go_region_held3 (fun w' => w'.cell? ⟨P0, 0, none⟩ = some (.int .i64 b) ∧ w'.cell? ⟨P0, 1, none⟩ = some (.int .i64 p) ∧ w'.cell? ⟨P0, 2, none⟩ = some (.slice a n c) ∧ w'.cell? ⟨X0, 0, none⟩ = some (.int .i64 x) ∧ w'.cell? ⟨B0, 0, none⟩ = some (.slice u0 N c2)) (go_keep) (first
    | (go_at_call 47; refine (HMF.out _ (by first | exact BR.out | exact BR.out.drew)).mono ?_; rintro e w1 ⟨rfl, k1⟩; have K1 : Hid (Below w.heap.size w w1) := (by first | exact k1 | exact sstep (Below.refl _ _).drew k1); have HX1 := Lib.hid (HX.out.on K1.out); obtain ⟨⟨⟨c0, c1, c2'⟩, _⟩, c3', c4, c5, c6⟩ := HX1.out)
    | (go_at_call 68; refine (HST.out _ (by first | exact K1.out | exact K1.out.drew)).mono ?_; rintro e w2 ⟨u, rfl, hr, k2⟩; obtain ⟨aU, cU, hu, _, _⟩ := hr.form; subst hu; have K2 : Hid (Below w.heap.size w w2) := (by first | exact sstep K1.out k2 | exact sstep (sstep K1.out (Below.refl _ _).drew) k2); have HX2 := Lib.hid (HX.out.on K2.out); obtain ⟨⟨⟨d0, d1, d2⟩, _⟩, d3, d4, d5, d6⟩ := HX2.out; have HR := Lib.hid (hr.lower (base' := w.heap.size) (by first | exact K1.out.size | exact K1.out.drew.size)); clear hr k2))
  all_goals
    have Q := Lib.hid (LDone.mk' HR.out K2.out d5 lv)
    go_wp2
    go_end0
    exact ⟨rfl, Q.out⟩

set_option maxHeartbeats 4000000 in
set_option maxRecDepth 100000 in
theorem fin1_no (w : World) (J : Addr) (hj : Jam w J) (b p : Int) (a : Option Addr) (n c : Nat) (S : Nat → ByteArray) (h : Strs w a n S) (hf : SFits n S) (hn : n ≤ 1048576) (x : Int) (base : Nat) (u0 : Option Addr) (N c2 : Nat) (V : Nat → Value) (MM : Nat → List (Int × ByteArray)) (hm : Mat w base (.slice u0 N c2) N V MM) (hN : N ≤ 1048576) (hl : (M.flat MM N).length ≤ 1048576) (hf2 : Fits (M.flat MM N).length (nI (M.flat MM N)) (nC (M.flat MM N))) (hbad : binsAll b p n S N MM x = false) (P0 X0 B0 V0 : Nat)
    (hx0 : WBox w b p a n c x (.slice u0 N c2) P0 X0 B0 V0 (.slice none 0 0)) :
    Calls Tryd.prog 67 #[.pointer (some ⟨P0, 0, none⟩), .pointer (some ⟨X0, 0, none⟩), .pointer (some ⟨B0, 0, none⟩), .pointer (some ⟨V0, 0, none⟩)] w
      fun e w' => e = JamEnd J ∧ Below w.heap.size w w' := by
  have HX := Lib.hid hx0
  have BR := Lib.hid (Below.refl w.heap.size w)
  obtain ⟨⟨⟨t0, t1, t2⟩, _⟩, x0, b0, v0, vf⟩ := HX.out
  by_cases hmf : M.plan b p n S = true ∧ 0 ≤ x ∧ x < p
  · obtain ⟨s1, s2, s3, s4⟩ := M.plan_shape hmf.1
    have hbo : binsOk b N MM = false := by
      unfold binsAll at hbad
      rw [hmf.1, decide_eq_true (show 0 ≤ x ∧ x ≤ p - 1 by omega), Bool.true_and, Bool.and_true] at hbad
      exact hbad
    have HMF := Lib.hid (fun W (hW : Below w.heap.size w W) => machineFor_yes W b p a n c S (h.on hW) hf hn hmf.1 x hmf.2)
    have HST := Lib.hid (fun W (hW : Below w.heap.size w W) => impl_behind_no W b p x (.slice a n c) (by omega) s2 J (hj.on hW) base _ N V MM (hm.on hW) hN hl hf2 hbo)
    clear h hf hm hf2 hx0 hj hbad hmf hbo
    unfold mac at HMF HST
    go_enter Tryd.func67, Tryd.ntmps67
    go_wp2
    refine wp_region_held_drew (by kernel_rfl) (S := fun w' => Below w.heap.size w w') (by exact BR.out.drew) (fun hS => ?_)
    refine wpAnyH_take (i := 0) (v := .agg #[.int .i64 b, .int .i64 p, .slice a n c]) rfl (by kernel_rfl) (by kernel_rfl) (by kernel_rfl) (fun c a' w' h => panic_put (P := Tryd.prog) (fn := Tryd.f67) (R := fun e w' => e = JamEnd J ∧ Below w.heap.size w w') h) (Or.inl ⟨by rfl, ?_⟩) hS ?_
    · intro w' hw'
      obtain ⟨⟨⟨c0, c1, c2'⟩, _⟩, c3', c4, c5, c6⟩ := HX.out.on hw'
      go_simp
    simp only [Act.put, List.setIfInBounds_toArray]
    refine wpAnyH_take (i := 1) (v := .int .i64 x) rfl (by kernel_rfl) (by kernel_rfl) (by kernel_rfl) (fun c a' w' h => panic_put (P := Tryd.prog) (fn := Tryd.f67) (R := fun e w' => e = JamEnd J ∧ Below w.heap.size w w') h) (Or.inl ⟨by rfl, ?_⟩) hS ?_
    · intro w' hw'
      obtain ⟨⟨⟨c0, c1, c2'⟩, _⟩, c3', c4, c5, c6⟩ := HX.out.on hw'
      go_simp
    simp only [Act.put]
    refine wpAnyH_take (i := 3) (v := .slice u0 N c2) rfl (by kernel_rfl) (by kernel_rfl) (by kernel_rfl) (fun c a' w' h => panic_put (P := Tryd.prog) (fn := Tryd.f67) (R := fun e w' => e = JamEnd J ∧ Below w.heap.size w w') h) (Or.inl ⟨by rfl, ?_⟩) hS ?_
    · intro w' hw'
      obtain ⟨⟨⟨c0, c1, c2'⟩, _⟩, c3', c4, c5, c6⟩ := HX.out.on hw'
      go_simp
    simp only [Act.put]
    refine wpAnyH_ready (rs := [2]) (by kernel_rfl) (by simp) ?_
    refine AllReadyH.cons rfl (fun K hK => ?_) AllReadyH.nil
    go_simp
    refine (HMF.out _ BR.out.drew).mono ?_
    rintro e w1 ⟨rfl, k1⟩
    have K1 : Hid (Below w.heap.size w w1) := sstep BR.out.drew k1
    clear k1
    refine hK.out _ _ K1.out (fun hS1 => ?_)
    refine wpAnyH_ready (rs := [4]) (by kernel_rfl) (by simp) ?_
    refine AllReadyH.cons rfl (fun K hK => ?_) AllReadyH.nil
    go_simp
    refine (HST.out _ K1.out).mono ?_
    rintro e w2 ⟨rfl, k2⟩
    exact ⟨rfl, rfl, sstep K1.out k2⟩
  · have HMF := Lib.hid (fun W (hW : Below w.heap.size w W) => machineFor_no W J (hj.on hW) b p a n c S (h.on hW) hf hn x hmf)
    clear h hf hm hf2 hx0 hj hbad hmf
    go_enter Tryd.func67, Tryd.ntmps67
    go_wp2
    refine wp_region_held_drew (by kernel_rfl) (S := fun w' => Below w.heap.size w w') (by exact BR.out.drew) (fun hS => ?_)
    refine wpAnyH_take (i := 0) (v := .agg #[.int .i64 b, .int .i64 p, .slice a n c]) rfl (by kernel_rfl) (by kernel_rfl) (by kernel_rfl) (fun c a' w' h => panic_put (P := Tryd.prog) (fn := Tryd.f67) (R := fun e w' => e = JamEnd J ∧ Below w.heap.size w w') h) (Or.inl ⟨by rfl, ?_⟩) hS ?_
    · intro w' hw'
      obtain ⟨⟨⟨c0, c1, c2'⟩, _⟩, c3', c4, c5, c6⟩ := HX.out.on hw'
      go_simp
    simp only [Act.put, List.setIfInBounds_toArray]
    refine wpAnyH_take (i := 1) (v := .int .i64 x) rfl (by kernel_rfl) (by kernel_rfl) (by kernel_rfl) (fun c a' w' h => panic_put (P := Tryd.prog) (fn := Tryd.f67) (R := fun e w' => e = JamEnd J ∧ Below w.heap.size w w') h) (Or.inl ⟨by rfl, ?_⟩) hS ?_
    · intro w' hw'
      obtain ⟨⟨⟨c0, c1, c2'⟩, _⟩, c3', c4, c5, c6⟩ := HX.out.on hw'
      go_simp
    simp only [Act.put]
    refine wpAnyH_take (i := 3) (v := .slice u0 N c2) rfl (by kernel_rfl) (by kernel_rfl) (by kernel_rfl) (fun c a' w' h => panic_put (P := Tryd.prog) (fn := Tryd.f67) (R := fun e w' => e = JamEnd J ∧ Below w.heap.size w w') h) (Or.inl ⟨by rfl, ?_⟩) hS ?_
    · intro w' hw'
      obtain ⟨⟨⟨c0, c1, c2'⟩, _⟩, c3', c4, c5, c6⟩ := HX.out.on hw'
      go_simp
    simp only [Act.put]
    refine wpAnyH_ready (rs := [2]) (by kernel_rfl) (by simp) ?_
    refine AllReadyH.cons rfl (fun K hK => ?_) AllReadyH.nil
    go_simp
    refine (HMF.out _ BR.out.drew).mono ?_
    rintro e w1 ⟨rfl, k1⟩
    exact ⟨rfl, rfl, sstep BR.out.drew k1⟩

set_option maxHeartbeats 4000000 in
set_option maxRecDepth 100000 in
theorem impl_FinishPasses (w : World) (J : Addr) (hj : Jam w J) (b p : Int) (a : Option Addr) (n c : Nat) (S : Nat → ByteArray) (h : Strs w a n S) (hf : SFits n S) (hn : n ≤ 1048576) (base : Nat) (v : Value) (N : Nat) (V : Nat → Value) (MM : Nat → List (Int × ByteArray)) (hm : Mat w base v N V MM) (hN : N ≤ 1048576) (hl : (M.flat MM N).length ≤ 1048576) (hf2 : Fits (M.flat MM N).length (nI (M.flat MM N)) (nC (M.flat MM N))) (x : Int) :
    Calls Tryd.prog 29 #[.agg #[.int .i64 b, .int .i64 p, .slice a n c], v, .int .i64 x] w (RowRes w (binsAll b p n S N MM x) (finAns b p n S N MM x)) := by
  obtain ⟨u0, c2, hv⟩ : ∃ u c, v = .slice u N c := by
    rcases hm.form with ⟨rfl, rfl⟩ | ⟨g, c, rfl, _⟩
    · exact ⟨_, _, rfl⟩
    · exact ⟨_, _, rfl⟩
  subst hv
  have hmf : ∀ (fn : Fn) (first cap : Array Value) (w : World), (Instr.makeFunc fn first cap).run Tryd.prog w = .ok (.func fn first cap) w := fun _ _ _ _ => rfl
  obtain ⟨w6, hw6⟩ : ∃ w6, (((w.alloc (.cells #[.int .i64 b, .int .i64 p, .slice a n c] 25)).alloc (.cells #[.slice u0 N c2] 30)).alloc (.cells #[.int .i64 x] 3)).alloc (.cells #[.slice none 0 0] 26) = w6 := ⟨_, rfl⟩
  have B6 : Hid (Below w.heap.size w w6) := by rw [← hw6]; show Below _ _ _; go_grown
  have hz6 : w6.heap.size = w.heap.size + 4 := by rw [← hw6]; simp
  have FB : Hid (∀ W, Below w6.heap.size w6 W → WBox W b p a n c x (.slice u0 N c2) w.heap.size (w.heap.size + 2) (w.heap.size + 1) (w.heap.size + 3) (.slice none 0 0)) := fun W hW => by
    refine WBox.on ?_ hW
    rw [← hw6]
    refine ⟨(((tri_made w (.int .i64 b) (.int .i64 p) (.slice a n c) 25).alloc _).alloc _).alloc _, ?_, ?_, ?_, ?_⟩ <;> simp [go_sem]
  have HJ6 := Lib.hid (hj.on B6.out)
  have HH := Lib.hid (h.on B6.out)
  have HM := Lib.hid (hm.on B6.out)
  unfold finAns
  cases hok : binsAll b p n S N MM x
  · rw [if_neg (by decide)]
    have HR := Lib.hid (runs_jam w6 J HJ6.out 67 #[.pointer (some ⟨w.heap.size, 0, none⟩), .pointer (some ⟨w.heap.size + 2, 0, none⟩), .pointer (some ⟨w.heap.size + 1, 0, none⟩), .pointer (some ⟨w.heap.size + 3, 0, none⟩)]
      (fun W w1 => Below (W.alloc (.cells #[.nilIface] 103)).heap.size (W.alloc (.cells #[.nilIface] 103)) w1) (run_fin1 _)
      (fun W hW => by
        have hW2 : Below w6.heap.size w6 (W.alloc (.cells #[.nilIface] 103)) := hW.alloc hW.size _
        exact fin1_no _ J (HJ6.out.on hW2) b p a n c S (HH.out.on hW2) hf hn x base u0 N c2 V MM (HM.out.on hW2) hN hl hf2 hok _ _ _ _ (FB.out _ hW2))
      (fun W w1 hW hr => by
        have hbk := hr.block W.heap.size (by simp)
        exact ⟨(World.cell?_of_block hbk).trans (by simp), (World.frozen?_of_block hbk).trans (by simp [go_sem]), ((HJ6.out.on hW).on (below_alloc0 W (.cells #[.nilIface] 103))).on hr⟩))
    have HW6 := Lib.hid hw6
    have HFB := Lib.hid FB
    clear h hm hj hw6 FB HH HM hok
    go_enter Tryd.func29, Tryd.ntmps29
    go_wp2_with fail
    rw [HW6.out]
    refine HR.out.mono ?_
    rintro e w7 ⟨rfl, W, wa, hW, hr, on⟩
    have hsW := hW.size
    have hszA : (W.alloc (.cells #[.nilIface] 103)).heap.size = W.heap.size + 1 := by simp
    have hwa : Below w6.heap.size w6 wa := (hW.alloc hsW (.cells #[.nilIface] 103)).trans (hr.mono (by rw [hszA]; omega))
    have fb := HFB.out wa hwa
    have v7 : w7.cell? ⟨w.heap.size + 3, 0, none⟩ = some (.slice none 0 0) := (World.cell?_of_block (on.block (w.heap.size + 3) (World.block_lt_of_cell? _ _ fb.vv) (by omega))).trans fb.vv
    have hzw := hwa.size
    have B7 : Hid (Below w.heap.size w w7) := (B6.out.trans (hwa.mono (by omega))).trans (on.below (B := w.heap.size) (fun k hk _ hs => by omega) (by omega))
    clear hr on fb hwa hW
    go_wp2
    go_ret2
    exact ⟨_, rfl, Row.nil _ _, by first | exact B7.out | exact below_drewN0 B7.out _⟩
  · rw [if_pos rfl]
    have hk := hok
    unfold binsAll at hk
    simp only [Bool.and_eq_true, decide_eq_true_eq] at hk
    obtain ⟨⟨hp, hbo⟩, hx0, hx1⟩ := hk
    obtain ⟨y, rfl⟩ := Int.eq_ofNat_of_zero_le hx0
    rw [Int.toNat_natCast]
    have HR := Lib.hid (runs_well w6 J HJ6.out 67 #[.pointer (some ⟨w.heap.size, 0, none⟩), .pointer (some ⟨w.heap.size + 2, 0, none⟩), .pointer (some ⟨w.heap.size + 1, 0, none⟩), .pointer (some ⟨w.heap.size + 3, 0, none⟩)]
      (fun W w1 => LDone (W.alloc (.cells #[.nilIface] 103)) (w.heap.size + 3) (finL b p n S y (M.flat MM N)) w1) (run_fin1 _)
      (fun W hW => by
        have hW2 : Below w6.heap.size w6 (W.alloc (.cells #[.nilIface] 103)) := hW.alloc hW.size _
        exact fin1_yes _ b p a n c S (HH.out.on hW2) hf hn hp y (by omega) J (HJ6.out.on hW2) base u0 N c2 V MM (HM.out.on hW2) hN hbo _ _ _ _ (by omega) (FB.out _ hW2))
      (fun W w1 hW hr => by
        obtain ⟨u, _, _, ho⟩ := hr
        have hs := hW.size
        have hbk := ho.block W.heap.size (by simp) (by omega)
        refine ⟨(World.cell?_of_block hbk).trans (by simp), (World.frozen?_of_block hbk).trans (by simp [go_sem]), ?_⟩
        have hj2 := (HJ6.out.on hW).on (below_alloc0 W (.cells #[.nilIface] 103))
        exact (World.cell?_of_block (ho.block _ hj2.lt (show ¬ (0 = w.heap.size + 3) from by have := hj.lt; omega))).trans hj2))
    obtain ⟨LL, hLL⟩ : ∃ LL, finL b p n S y (M.flat MM N) = LL := ⟨_, rfl⟩
    rw [hLL] at HR
    rw [hLL]
    have HW6 := Lib.hid hw6
    clear h hm hj hw6 hLL FB HH HM hp hbo hok hx0 hx1
    go_enter Tryd.func29, Tryd.ntmps29
    go_wp2_with fail
    rw [HW6.out]
    refine HR.out.mono ?_
    rintro e w7 ⟨rfl, W, wa, hW, ⟨u, hRo, hu, ho⟩, on⟩
    have hsW := hW.size
    have hszA : (W.alloc (.cells #[.nilIface] 103)).heap.size = W.heap.size + 1 := by simp
    rw [hszA] at hRo
    have u7 : w7.cell? ⟨w.heap.size + 3, 0, none⟩ = some u := (World.cell?_of_block (on.block (w.heap.size + 3) (World.block_lt_of_cell? _ _ hu) (by omega))).trans hu
    have R7 := Lib.hid (hRo.only on (fun k hk hs => by have := (hRo.lt k hk).1; omega))
    have hoz := ho.size
    rw [hszA] at hoz
    have B7 : Hid (Below w.heap.size w w7) := ((B6.out.trans (hW.mono (by omega))).trans ((below_alloc0 W (.cells #[.nilIface] 103)).mono (by omega))).trans ((ho.below (B := w.heap.size) (fun k hk _ hs => by omega) (by rw [hszA]; omega)).trans (on.below (B := w.heap.size) (fun k hk _ hs => by omega) (by omega)))
    clear hRo hu ho on
    go_wp2
    go_ret2
    exact ⟨u, rfl, R7.out.lower (by omega), by first | exact B7.out | exact below_drewN0 B7.out _⟩
end Go.Proofs.YtnaghfppeejaoaaDoor

/-
  Finishing behind an ordinary pass: what is left of the passes.
-/
namespace Go.Proofs.YtnaghfppeejaoaaDoor

theorem passL_add (b : Int) (n : Nat) (S : Nat → ByteArray) (f : Nat) (L : List (Int × ByteArray)) (i : Nat) : ∀ k, passL b n S f L (i + k) = passL b n S (f + i) (passL b n S f L i) k
  | 0 => rfl
  | k + 1 => by
    show M.flat (stepB b n S (passL b n S f L (i + k)) (f + (i + k))) b.toNat = M.flat (stepB b n S (passL b n S (f + i) (passL b n S f L i) k) (f + i + k)) b.toNat
    rw [passL_add b n S f L i k, Nat.add_assoc]
/-- The bins of an ordinary pass are finished to the round. -/
theorem fin_passes {B q n : Nat} {S : Nat → ByteArray} {L : List (Int × ByteArray)} {j : Nat} (hj : j < q) (hp : M.plan (B : Int) (q : Int) n S = true) (hb : BatchL (passL (B : Int) n S 0 L (j + 1))) (hs : passL (B : Int) n S 0 L (j + 1) = M.flat (stepB (B : Int) n S (passL (B : Int) n S 0 L j) j) B) :
    binsAll (B : Int) (q : Int) n S B (stepB (B : Int) n S (passL (B : Int) n S 0 L j) j) (j : Int) = true ∧ finAns (B : Int) (q : Int) n S B (stepB (B : Int) n S (passL (B : Int) n S 0 L j) j) (j : Int) = passL (B : Int) n S 0 L q := by
  have h1 : binsAll (B : Int) (q : Int) n S B (stepB (B : Int) n S (passL (B : Int) n S 0 L j) j) (j : Int) = true := by
    unfold binsAll binsOk
    rw [← hs, (batchL_list _).2 hb, hp, decide_eq_true (rfl : (B : Int) = (B : Int)), decide_eq_true (show (0 : Int) ≤ (j : Int) ∧ (j : Int) ≤ (q : Int) - 1 by omega)]
    rfl
  refine ⟨h1, ?_⟩
  unfold finAns finL
  rw [if_pos h1, ← hs, Int.toNat_natCast, Int.toNat_natCast]
  have := passL_add (B : Int) n S 0 L (j + 1) (q - (j + 1))
  rw [show j + 1 + (q - (j + 1)) = q by omega, Nat.zero_add] at this
  exact this.symm
end Go.Proofs.YtnaghfppeejaoaaDoor
