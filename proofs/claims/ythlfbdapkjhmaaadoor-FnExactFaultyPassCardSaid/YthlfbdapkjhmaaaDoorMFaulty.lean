/-
  What FaultyPass of the program returns.
-/
import Derived.Test.YthlfbdapkjhmaaaDoorMTop
namespace Go.Proofs.YthlfbdapkjhmaaaDoor
open Go.RowKit
open Go.PlainAid (bt get_bt bt_nonneg bt_le)
set_option linter.unusedVariables false

theorem run_enter {P : Program} {f : FuncId} {fn : Func} (hf : P.funcs[f]? = some fn) (hn : (fn.name == "runtime.NumGoroutine") = false) (hb : fn.body.isSome = true) (cap : Array Value) (W : World) : (callFunc f cap).run P W = .ok (.enter f cap) W := by
  have h1 : fn.name ≠ "runtime.NumGoroutine" := by simpa using hn
  obtain ⟨c, hc⟩ := Option.isSome_iff_exists.1 hb
  simp [callFunc, hf, h1, hc]
theorem run_faulty1 (cap : Array Value) (W : World) : (callFunc 50 cap).run Tryd.prog W = .ok (.enter 50 cap) W :=
  run_enter Tryd.func50 (by kernel_rfl) (by kernel_rfl) cap W

/-- There is a faulty pass. -/
noncomputable def faultyOk (b p : Int) (n : Nat) (S : Nat → ByteArray) (m : Nat) (I' : Nat → Int) (C : Nat → ByteArray) (x : Int) (m3 : Nat) (I B : Nat → Int) : Bool :=
  @decide (M.plan b p n S = true ∧ (0 ≤ x ∧ x < p) ∧ M.batch m I' C = true ∧ M.mis b p n S m3 I B = true) (Classical.propDecidable _)
noncomputable def faultyN (b p : Int) (n : Nat) (S : Nat → ByteArray) (m : Nat) (I' : Nat → Int) (C : Nat → ByteArray) (x : Int) (m3 : Nat) (I B : Nat → Int) : Nat := if faultyOk b p n S m I' C x m3 I B = true then b.toNat else 0
noncomputable def faultyL (b p : Int) (n : Nat) (S : Nat → ByteArray) (m : Nat) (I' : Nat → Int) (C : Nat → ByteArray) (x : Int) (m3 : Nat) (I B : Nat → Int) : List (Int × ByteArray) := if faultyOk b p n S m I' C x m3 I B = true then M.restTo (fkey b n S C x.toNat I' m3 I B) I' C m else []

set_option maxHeartbeats 4000000 in
set_option maxRecDepth 100000 in
theorem impl_FaultyPass (w : World) (J : Addr) (hj : Jam w J) (b p : Int) (a : Option Addr) (n c : Nat) (S : Nat → ByteArray) (h : Strs w a n S) (hf : SFits n S) (hn : n ≤ 1048576) (a2 : Option Addr) (m c2 : Nat) (I' : Nat → Int) (C : Nat → ByteArray) (h2 : Lts w a2 m I' C) (hf2 : Fits m I' C) (x : Int)
    (a3 : Option Addr) (m3 c3 : Nat) (I B : Nat → Int) (h3 : Mss w a3 m3 I B) (hf3 : MFits m3 I B) :
    Calls Tryd.prog 16 #[.agg #[.int .i64 b, .int .i64 p, .slice a n c], .slice a2 m c2, .int .i64 x, .slice a3 m3 c3] w
      (PassRes w (faultyOk b p n S m I' C x m3 I B) (faultyN b p n S m I' C x m3 I B) (M.binTo (fkey b n S C x.toNat I' m3 I B) I' C m) (faultyL b p n S m I' C x m3 I B)) := by
  have hmf : ∀ (fn : Fn) (first cap : Array Value) (w : World), (Instr.makeFunc fn first cap).run Tryd.prog w = .ok (.func fn first cap) w := fun _ _ _ _ => rfl
  obtain ⟨w6, hw6⟩ : ∃ w6, (((((w.alloc (.cells #[.int .i64 b, .int .i64 p, .slice a n c] 34)).alloc (.cells #[.slice a2 m c2] 31)).alloc (.cells #[.int .i64 x] 3)).alloc (.cells #[.slice a3 m3 c3] 37)).alloc (.cells #[.slice none 0 0] 30)).alloc (.cells #[.slice none 0 0] 31) = w6 := ⟨_, rfl⟩
  have B6 : Hid (Below w.heap.size w w6) := by rw [← hw6]; show Below _ _ _; go_grown
  have hz6 : w6.heap.size = w.heap.size + 6 := by rw [← hw6]; simp
  have FB : Hid (∀ W, Below w6.heap.size w6 W → FBox W b p a n c x a2 m c2 a3 m3 c3 w.heap.size (w.heap.size + 2) (w.heap.size + 1) (w.heap.size + 3) (w.heap.size + 4) (w.heap.size + 5) (.slice none 0 0) (.slice none 0 0)) := fun W hW => by
    refine FBox.on ?_ hW
    rw [← hw6]
    refine ⟨(((((tri_made w (.int .i64 b) (.int .i64 p) (.slice a n c) 34).alloc _).alloc _).alloc _).alloc _).alloc _, ?_, ?_, ?_, ?_, ?_, ?_, ?_⟩ <;> simp [go_sem]
  have HJ6 := Lib.hid (hj.on B6.out)
  unfold faultyOk faultyN faultyL faultyOk
  have HH := Lib.hid (h.on B6.out)
  have HH2 := Lib.hid (h2.on B6.out)
  have HH3 := Lib.hid (h3.on B6.out)
  by_cases hok : M.plan b p n S = true ∧ (0 ≤ x ∧ x < p) ∧ M.batch m I' C = true ∧ M.mis b p n S m3 I B = true
  · rw [@decide_eq_true _ (Classical.propDecidable _) hok, if_pos rfl, if_pos rfl]
    obtain ⟨hp, hx, hb, hmi⟩ := hok
    obtain ⟨y, rfl⟩ := Int.eq_ofNat_of_zero_le hx.1
    rw [Int.toNat_natCast]
    obtain ⟨s1, s2, _⟩ := M.plan_shape hp
    have HR := Lib.hid (runs_well w6 J HJ6.out 50 #[.pointer (some ⟨w.heap.size, 0, none⟩), .pointer (some ⟨w.heap.size + 2, 0, none⟩), .pointer (some ⟨w.heap.size + 1, 0, none⟩), .pointer (some ⟨w.heap.size + 3, 0, none⟩), .pointer (some ⟨w.heap.size + 4, 0, none⟩), .pointer (some ⟨w.heap.size + 5, 0, none⟩)]
      (fun W w1 => FDone (W.alloc (.cells #[.nilIface] 97)) (w.heap.size + 4) (w.heap.size + 5) b.toNat (M.binTo (fkey b n S C y I' m3 I B) I' C m) (M.restTo (fkey b n S C y I' m3 I B) I' C m) w1) (run_faulty1 _)
      (fun W hW => by
        have hW2 : Below w6.heap.size w6 (W.alloc (.cells #[.nilIface] 97)) := hW.alloc hW.size _
        exact faulty1_yes _ b p a n c S (HH.out.on hW2) hf hn y hx.2 a2 m c2 I' C (HH2.out.on hW2) hf2 a3 m3 c3 I B (HH3.out.on hW2) hf3 hb hmi _ _ _ _ _ _ (by omega) (FB.out _ hW2))
      (fun W w1 hW hr => by
        obtain ⟨v, V, u, _, _, _, _, _, ho⟩ := hr
        have hs := hW.size
        have hbk := ho.block W.heap.size (by simp) (by omega)
        refine ⟨(World.cell?_of_block hbk).trans (by simp), (World.frozen?_of_block hbk).trans (by simp [go_sem]), ?_⟩
        have hj2 := (HJ6.out.on hW).on (below_alloc0 W (.cells #[.nilIface] 97))
        have hl := HJ6.out.lt
        exact (World.cell?_of_block (ho.block _ hj2.lt (show ¬ (0 = w.heap.size + 4 ∨ 0 = w.heap.size + 5) from by have := hj.lt; omega))).trans hj2))
    obtain ⟨N, hN⟩ : ∃ N, b.toNat = N := ⟨_, rfl⟩
    obtain ⟨MM, hMM⟩ : ∃ MM, M.binTo (fkey b n S C y I' m3 I B) I' C m = MM := ⟨_, rfl⟩
    obtain ⟨LL, hLL⟩ : ∃ LL, M.restTo (fkey b n S C y I' m3 I B) I' C m = LL := ⟨_, rfl⟩
    rw [hN, hMM, hLL] at HR
    rw [hN, hMM, hLL]
    have HW6 := Lib.hid hw6
    clear h h2 h3 hj hw6 hN hMM hLL FB HH HH2 HH3 hp hx hb hmi
    go_enter Tryd.func16, Tryd.ntmps16
    go_wp2_with fail
    rw [HW6.out]
    refine HR.out.mono ?_
    rintro e w7 ⟨rfl, W, wa, hW, ⟨v, V, u, hM, hRo, hA, hv, hu, ho⟩, on⟩
    have hsW := hW.size
    have hszA : (W.alloc (.cells #[.nilIface] 97)).heap.size = W.heap.size + 1 := by simp
    rw [hszA] at hM hRo
    have v7 : w7.cell? ⟨w.heap.size + 4, 0, none⟩ = some v := (World.cell?_of_block (on.block (w.heap.size + 4) (World.block_lt_of_cell? _ _ hv) (by omega))).trans hv
    have u7 : w7.cell? ⟨w.heap.size + 5, 0, none⟩ = some u := (World.cell?_of_block (on.block (w.heap.size + 5) (World.block_lt_of_cell? _ _ hu) (by omega))).trans hu
    have M7 := Lib.hid (hM.only on (fun k hk hs => by have := (hM.lt hk).1; omega))
    have R7 := Lib.hid (hRo.only on (fun k hk hs => by have := (hRo.lt k hk).1; omega))
    have A7 := Lib.hid hA
    have hoz := ho.size
    rw [hszA] at hoz
    have B7 : Hid (Below w.heap.size w w7) := ((B6.out.trans (hW.mono (by omega))).trans ((below_alloc0 W (.cells #[.nilIface] 97)).mono (by omega))).trans ((ho.below (B := w.heap.size) (fun k hk _ hs => by omega) (by rw [hszA]; omega)).trans (on.below (B := w.heap.size) (fun k hk _ hs => by omega) (by omega)))
    clear hM hRo hA hv hu ho on
    go_wp2
    go_quiet (fail)
    go_wp2
    go_ret3
    exact ⟨v, V, u, rfl, M7.out.lower (by omega), R7.out.lower (by omega), A7.out, by first | exact B7.out | exact below_drewN0 B7.out _⟩
  · rw [@decide_eq_false _ (Classical.propDecidable _) hok, if_neg (by decide), if_neg (by decide)]
    have HR := Lib.hid (runs_jam w6 J HJ6.out 50 #[.pointer (some ⟨w.heap.size, 0, none⟩), .pointer (some ⟨w.heap.size + 2, 0, none⟩), .pointer (some ⟨w.heap.size + 1, 0, none⟩), .pointer (some ⟨w.heap.size + 3, 0, none⟩), .pointer (some ⟨w.heap.size + 4, 0, none⟩), .pointer (some ⟨w.heap.size + 5, 0, none⟩)]
      (fun W w1 => Below (W.alloc (.cells #[.nilIface] 97)).heap.size (W.alloc (.cells #[.nilIface] 97)) w1) (run_faulty1 _)
      (fun W hW => by
        have hW2 : Below w6.heap.size w6 (W.alloc (.cells #[.nilIface] 97)) := hW.alloc hW.size _
        exact faulty1_no _ J (HJ6.out.on hW2) b p a n c S (HH.out.on hW2) hf hn x a2 m c2 I' C (HH2.out.on hW2) hf2 a3 m3 c3 I B (HH3.out.on hW2) hf3 hok _ _ _ _ _ _ (FB.out _ hW2))
      (fun W w1 hW hr => by
        have hbk := hr.block W.heap.size (by simp)
        exact ⟨(World.cell?_of_block hbk).trans (by simp), (World.frozen?_of_block hbk).trans (by simp [go_sem]), ((HJ6.out.on hW).on (below_alloc0 W (.cells #[.nilIface] 97))).on hr⟩))
    have HW6 := Lib.hid hw6
    have HFB := Lib.hid FB
    clear h h2 h3 hj hw6 FB HH HH2 HH3 hok
    go_enter Tryd.func16, Tryd.ntmps16
    go_wp2_with fail
    rw [HW6.out]
    refine HR.out.mono ?_
    rintro e w7 ⟨rfl, W, wa, hW, hr, on⟩
    have hsW := hW.size
    have hszA : (W.alloc (.cells #[.nilIface] 97)).heap.size = W.heap.size + 1 := by simp
    have hwa : Below w6.heap.size w6 wa := (hW.alloc hsW (.cells #[.nilIface] 97)).trans (hr.mono (by rw [hszA]; omega))
    have fb := HFB.out wa hwa
    have v7 : w7.cell? ⟨w.heap.size + 4, 0, none⟩ = some (.slice none 0 0) := (World.cell?_of_block (on.block (w.heap.size + 4) (World.block_lt_of_cell? _ _ fb.vv) (by omega))).trans fb.vv
    have u7 : w7.cell? ⟨w.heap.size + 5, 0, none⟩ = some (.slice none 0 0) := (World.cell?_of_block (on.block (w.heap.size + 5) (World.block_lt_of_cell? _ _ fb.uu) (by omega))).trans fb.uu
    have hzw := hwa.size
    have B7 : Hid (Below w.heap.size w w7) := (B6.out.trans (hwa.mono (by omega))).trans (on.below (B := w.heap.size) (fun k hk _ hs => by omega) (by omega))
    clear hr on fb hwa hW
    go_wp2
    go_quiet (fail)
    go_wp2
    go_ret3
    exact ⟨_, fun _ => .slice none 0 0, _, rfl, Mat.nil _ _ _ _, Row.nil _ _, (fun g e => by cases e), by first | exact B7.out | exact below_drewN0 B7.out _⟩
end Go.Proofs.YthlfbdapkjhmaaaDoor
