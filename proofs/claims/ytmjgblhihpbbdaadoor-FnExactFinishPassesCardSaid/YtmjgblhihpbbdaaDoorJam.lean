/-
  The jam: the program's error for whatever is not valid, how work ends in it, and how it is told.
-/
import Derived.Test.YtmjgblhihpbbdaaDoorStr
import Derived.Deep.Quiet
import Derived.WalkKit
import Derived.LaidEql
import Derived.Stop.Asserts
import Derived.RowKitTokens
import Derived.Defers
import Derived.Recover
import Derived.Laws.Pointers
import Derived.Below
import Derived.Lib.Hide
import Derived.Handy
import Derived.WalkSmall
import Derived.Deep.RegionWith
namespace Go.Proofs.YtmjgblhihpbbdaaDoor
open Go.RowKit Go.Extern.Stop Go.Stop Go.Extern

/-- The jam, as a value. -/
def JV (J : Addr) : Value := .iface 140 (.pointer (some J))
/-- The variable holds it. -/
def Jam (w : World) (J : Addr) : Prop := w.cell? ⟨0, 0, none⟩ = some (JV J)
theorem Jam.on {w w' : World} {J : Addr} (h : Jam w J) (hb : Below w.heap.size w w') : Jam w' J := by
  have hl := World.block_lt_of_cell? _ _ h
  unfold Jam
  rw [hb.cell (p := ⟨0, 0, none⟩) hl]
  exact h
theorem Jam.lt {w : World} {J : Addr} (h : Jam w J) : 0 < w.heap.size := World.block_lt_of_cell? _ _ h
/-- A panic with it. -/
def JamEnd (J : Addr) : Ending := .panicked [{ v := JV J, recovered := false }]

theorem is_TypeOf (v : Value) (w : World) : (Extern.ReflectliteType.typeOf #[.iface 140 v]).run Tryd.prog w = .ok (.iface 129 (.agg #[.pointer (some ⟨Tryd.prog.globals.size, 140, none⟩)])) w := by kernel_rfl
theorem is_Comparable (w : World) : ((Extern.ReflectliteType.method fun t => do Extern.Rtype.noPackHeld "Comparable" t; (fun a => Value.bool a.comparable) <$> typeInfo t) #[.agg #[.pointer (some ⟨Tryd.prog.globals.size, 140, none⟩)]]).run Tryd.prog w = .ok (.bool true) w := by kernel_rfl
theorem is_MethodComparable (v : Value) (w : World) : (Go.method 115 129 v "Comparable").run Tryd.prog w = .ok (126, v) w := by kernel_rfl
/-- How many package-level variables there are. -/
theorem globs : Tryd.prog.globals.size = 1 := by kernel_rfl
theorem is_Comp : (Tryd.prog.info? 140).map (·.comparable) = some true := by kernel_rfl
theorem is_Size : (Tryd.prog.info? 167).map (·.size) = some 1 := by kernel_rfl

set_option maxRecDepth 100000 in
/-- errors.Is of an error and itself. -/
theorem is_same (a : Addr) (w : World) :
    Calls Tryd.prog 64 #[.iface 140 (.pointer (some a)), .iface 140 (.pointer (some a))] w fun e w' => e = .returned (.bool true) ∧ w' = w := by
  obtain ⟨i, hi, hcmp⟩ := Option.map_eq_some_iff.1 is_Comp
  obtain ⟨j, hj, hjs⟩ := Option.map_eq_some_iff.1 is_Size
  have h8 := @run_callFunc_extern Tryd.prog 87 _ Extern.ReflectliteType.typeOf Tryd.func87 (by kernel_rfl) (by kernel_rfl) (by kernel_rfl) (by kernel_rfl)
  have h32 := @run_callFunc_extern Tryd.prog 126 _ (Extern.ReflectliteType.method fun t => do Extern.Rtype.noPackHeld "Comparable" t; pure (.bool (← typeInfo t).comparable)) Tryd.func126 (by kernel_rfl) (by kernel_rfl) (by kernel_rfl) (by kernel_rfl)
  have tT := is_TypeOf
  have cT := is_Comparable
  have mR := is_MethodComparable
  simp only [globs] at tT cT
  have heq := run_eql_iface_ptr_same (P := Tryd.prog) w a Tryd.underlying90 Tryd.underlying140 hi hcmp hj
  go_enter Tryd.func64, Tryd.ntmps64
  go_wp2
  refine wp_loop_rounds 1 ?_
  rw [rounds_succ]
  go_wp2
  go_ret
  exact ⟨rfl, rfl⟩

set_option maxRecDepth 100000 in
/-- errors.Is of no error. -/
theorem is_nil (b : Addr) (w : World) :
    Calls Tryd.prog 64 #[.nilIface, .iface 140 (.pointer (some b))] w fun e w' => e = .returned (.bool false) ∧ w' = w := by
  have hn := run_eql_iface_nil_left (P := Tryd.prog) w 140 (.pointer (some b)) Tryd.underlying90
  go_enter Tryd.func64, Tryd.ntmps64
  go_wp2
  go_ret
  exact ⟨rfl, rfl⟩

theorem insist_yes (w : World) : Calls Tryd.prog 66 #[.bool true] w fun e w' => e = .returned (.tuple #[]) ∧ w = w' := by
  go_enter Tryd.func66, Tryd.ntmps66
  go_wp2
  go_end0
  exact ⟨rfl, rfl⟩
theorem insist_no (w : World) (J : Addr) (h : Jam w J) : Calls Tryd.prog 66 #[.bool false] w fun e w' => e = JamEnd J ∧ w = w' := by
  have h0 := h
  unfold Jam JV at h0
  clear h
  go_enter Tryd.func66, Tryd.ntmps66
  go_wp2
  exact ⟨rfl, rfl, rfl⟩

set_option maxRecDepth 100000 in
/-- The literal that attempt defers, where the work has ended in a panic. -/
theorem told_panic (p : Addr) (x : Value) (J : Addr) (u : TypeId) (pv : Value) (older : List PanicEntry) (w : World) (hj : Jam w J) (hc : w.cell? p = some x) (hz : w.frozen? p = false) :
    CallsD Tryd.prog 89 #[.pointer (some p)] (.panicking ({ v := .iface u pv, recovered := false } :: older)) w fun e u' w' =>
      e = .returned (.tuple #[]) ∧ u' = .panicking ({ v := .iface u pv, recovered := true } :: older) ∧ w' = w.setCell p (JV J) := by
  unfold Jam at hj
  refine callsD_of_wpS Tryd.func89 rfl fun c₀ cs hu => ?_
  apply wpS_seq
  apply wpS_region
  simp [wpOpsS, go_sem, recoverD, hu, Tryd.ntmps89, Exit.thenS]
  refine wpS_cond (t := true) (by simp [Act.eval, Array.replicate]) ?_
  simp only [if_true]
  apply wpS_region
  simp [wpOpsS, go_sem, hj, hc, hz, JV, bodyPostS, results, Tryd.results89]

set_option maxRecDepth 100000 in
/-- .. where it has ended well. -/
theorem told_well (p : Addr) (w : World) :
    CallsD Tryd.prog 89 #[.pointer (some p)] .returning w fun e u' w' => e = .returned (.tuple #[]) ∧ u' = .returning ∧ w' = w := by
  refine callsD_of_wpS Tryd.func89 rfl fun c₀ cs hu => ?_
  apply wpS_seq
  apply wpS_region
  simp [wpOpsS, go_sem, recoverD, hu, Tryd.ntmps89, Exit.thenS]
  refine wpS_cond (t := false) (by simp [Act.eval, Array.replicate]) ?_
  simp only [Bool.false_eq_true, if_false]
  refine wpS_of_wp (wp_skip ?_)
  cases c₀
  simp_all [bodyPostS, results, Tryd.results89]

set_option maxRecDepth 100000 in
/-- Work that ends well: no error. -/
theorem attempt_well (w : World) (g : Nat) (cap : Array Value) (R : World → Prop) (hrun : ∀ W : World, (callFunc g cap).run Tryd.prog W = .ok (.enter g cap) W)
    (h : Calls Tryd.prog g cap (w.alloc (.cells #[.nilIface] 90)) fun e w1 => e = .returned (.tuple #[]) ∧ R w1)
    (hR : ∀ w1, R w1 → w1.cell? ⟨w.heap.size, 0, none⟩ = some .nilIface ∧ w1.frozen? ⟨w.heap.size, 0, none⟩ = false) :
    Calls Tryd.prog 65 #[.func (.func g) #[] cap] w fun e w' => e = .returned .nilIface ∧ ∃ w1, R w1 ∧ w' = w1.setCell ⟨w.heap.size, 0, none⟩ .nilIface := by
  have hmf : ∀ (fn : Fn) (first cap : Array Value) (w : World), (Instr.makeFunc fn first cap).run Tryd.prog w = .ok (.func fn first cap) w := fun _ _ _ _ => rfl
  go_enter_defers Tryd.func65, Tryd.ntmps65
  go_wp2
  refine h.mono ?_
  rintro e w1 ⟨rfl, hr⟩
  obtain ⟨c0, z0⟩ := hR w1 hr
  have HR := Lib.hid hr
  clear hr hR h hrun
  go_wp2
  refine leaves_cons (f := 89) (args := #[.pointer (some ⟨w.heap.size, 0, none⟩)]) (by simp) (by simp [go_sem]) ?_
  refine (told_well ⟨w.heap.size, 0, none⟩ _).mono ?_
  rintro e u' w'' ⟨rfl, rfl, rfl⟩
  simp [Leaves, settle, results, Tryd.results65, go_sem, c0]
  exact ⟨w1, HR.out, rfl⟩

set_option maxRecDepth 100000 in
/-- Work that ends in the jam: the jam as an error. -/
theorem attempt_jam (w : World) (J : Addr) (g : Nat) (cap : Array Value) (R : World → Prop) (hrun : ∀ W : World, (callFunc g cap).run Tryd.prog W = .ok (.enter g cap) W)
    (h : Calls Tryd.prog g cap (w.alloc (.cells #[.nilIface] 90)) fun e w1 => e = JamEnd J ∧ R w1)
    (hR : ∀ w1, R w1 → w1.cell? ⟨w.heap.size, 0, none⟩ = some .nilIface ∧ w1.frozen? ⟨w.heap.size, 0, none⟩ = false ∧ Jam w1 J) :
    Calls Tryd.prog 65 #[.func (.func g) #[] cap] w fun e w' => e = .returned (JV J) ∧ ∃ w1, R w1 ∧ w' = w1.setCell ⟨w.heap.size, 0, none⟩ (JV J) := by
  have hmf : ∀ (fn : Fn) (first cap : Array Value) (w : World), (Instr.makeFunc fn first cap).run Tryd.prog w = .ok (.func fn first cap) w := fun _ _ _ _ => rfl
  go_enter_defers Tryd.func65, Tryd.ntmps65
  go_wp2
  refine h.mono ?_
  rintro e w1 ⟨rfl, hr⟩
  obtain ⟨c0, z0, hj⟩ := hR w1 hr
  have HR := Lib.hid hr
  clear hr hR h hrun
  unfold JamEnd
  go_wp2
  refine leaves_cons (f := 89) (args := #[.pointer (some ⟨w.heap.size, 0, none⟩)]) (by simp) (by simp [go_sem]) ?_
  refine (told_panic ⟨w.heap.size, 0, none⟩ _ J _ _ [] _ hj c0 z0).mono ?_
  rintro e u' w'' ⟨rfl, rfl, rfl⟩
  simp [Leaves, settle, results, Tryd.results65, go_sem, c0]
  exact ⟨w1, HR.out, rfl⟩

theorem Only.drew {w w' : World} {S : Nat → Prop} (h : Only w w' S) : Only w w'.drew S := ⟨h.os, h.tape, h.output, h.size, h.block⟩
/-- What work leaves: whether it ended well, and the world behind it but for a block of attempt's own. -/
def RunsRes (w : World) (R : World → World → Prop) (b : Bool) (e : Ending) (w' : World) : Prop :=
  e = .returned (.bool b) ∧ ∃ W w1, Below w.heap.size w W ∧ R W w1 ∧ Only w1 w' (fun k => k = W.heap.size)

set_option maxHeartbeats 1000000 in
set_option maxRecDepth 100000 in
theorem runs_well (w : World) (J : Addr) (hj : Jam w J) (g : Nat) (cap : Array Value) (R : World → World → Prop) (hrun : ∀ W : World, (callFunc g cap).run Tryd.prog W = .ok (.enter g cap) W)
    (h : ∀ W, Below w.heap.size w W → Calls Tryd.prog g cap (W.alloc (.cells #[.nilIface] 90)) fun e w1 => e = .returned (.tuple #[]) ∧ R W w1)
    (hR : ∀ W w1, Below w.heap.size w W → R W w1 → w1.cell? ⟨W.heap.size, 0, none⟩ = some .nilIface ∧ w1.frozen? ⟨W.heap.size, 0, none⟩ = false ∧ Jam w1 J) :
    Calls Tryd.prog 37 #[.func (.func g) #[] cap] w (RunsRes w R true) := by
  have HA : Hid (∀ W, Below w.heap.size w W → Calls Tryd.prog 65 #[.func (.func g) #[] cap] W fun e w' => e = .returned .nilIface ∧ Hid (∃ w1, R W w1 ∧ Only w1 w' (fun k => k = W.heap.size)) ∧ Below W.heap.size W W ∧ w'.cell? ⟨0, 0, none⟩ = some (.iface 140 (.pointer (some J)))) := fun W hW => by
    refine (attempt_well W g cap (R W) hrun (h W hW) (fun w1 hr => ⟨(hR W w1 hW hr).1, (hR W w1 hW hr).2.1⟩)).mono ?_
    rintro e w' ⟨he, w1, hr, rfl⟩
    have hj1 := (hR W w1 hW hr).2.2
    have hl := (hj.on hW).lt
    refine ⟨he, ⟨w1, hr, Only.set _ _ _ rfl⟩, Below.refl _ _, ?_⟩
    exact (World.cell?_of_block ((Only.set (S := fun k => k = W.heap.size) w1 ⟨W.heap.size, 0, none⟩ _ rfl).block _ hj1.lt (Nat.ne_of_lt hl))).trans hj1
  have hj0 : w.cell? ⟨0, 0, none⟩ = some (.iface 140 (.pointer (some J))) := hj
  have HB := Lib.hid (Below.refl w.heap.size w)
  clear h hR hrun hj
  go_enter Tryd.func37, Tryd.ntmps37
  go_wp2
  go_region_with (first
    | (go_at_call 65; refine (HA.out _ (by first | exact HB.out | exact HB.out.drew)).mono ?_; rintro e w2 ⟨rfl, ho, _, j2⟩)
    | (go_at_call 64; refine (is_nil _ _).mono ?_; rintro e w3 ⟨rfl, rfl⟩))
  all_goals
    obtain ⟨wa, hr, on⟩ := ho.out
    go_wp2
    go_ret
    exact ⟨rfl, _, wa, (by first | exact HB.out | exact HB.out.drew), hr, (by first | exact on | exact on.drew)⟩

set_option maxHeartbeats 1000000 in
set_option maxRecDepth 100000 in
theorem runs_jam (w : World) (J : Addr) (hj : Jam w J) (g : Nat) (cap : Array Value) (R : World → World → Prop) (hrun : ∀ W : World, (callFunc g cap).run Tryd.prog W = .ok (.enter g cap) W)
    (h : ∀ W, Below w.heap.size w W → Calls Tryd.prog g cap (W.alloc (.cells #[.nilIface] 90)) fun e w1 => e = JamEnd J ∧ R W w1)
    (hR : ∀ W w1, Below w.heap.size w W → R W w1 → w1.cell? ⟨W.heap.size, 0, none⟩ = some .nilIface ∧ w1.frozen? ⟨W.heap.size, 0, none⟩ = false ∧ Jam w1 J) :
    Calls Tryd.prog 37 #[.func (.func g) #[] cap] w (RunsRes w R false) := by
  have HA : Hid (∀ W, Below w.heap.size w W → Calls Tryd.prog 65 #[.func (.func g) #[] cap] W fun e w' => e = .returned (JV J) ∧ Hid (∃ w1, R W w1 ∧ Only w1 w' (fun k => k = W.heap.size)) ∧ Below W.heap.size W W ∧ w'.cell? ⟨0, 0, none⟩ = some (.iface 140 (.pointer (some J)))) := fun W hW => by
    refine (attempt_jam W J g cap (R W) hrun (h W hW) (fun w1 hr => hR W w1 hW hr)).mono ?_
    rintro e w' ⟨he, w1, hr, rfl⟩
    have hj1 := (hR W w1 hW hr).2.2
    have hl := (hj.on hW).lt
    refine ⟨he, ⟨w1, hr, Only.set _ _ _ rfl⟩, Below.refl _ _, ?_⟩
    exact (World.cell?_of_block ((Only.set (S := fun k => k = W.heap.size) w1 ⟨W.heap.size, 0, none⟩ _ rfl).block _ hj1.lt (Nat.ne_of_lt hl))).trans hj1
  have hj0 : w.cell? ⟨0, 0, none⟩ = some (.iface 140 (.pointer (some J))) := hj
  have HB := Lib.hid (Below.refl w.heap.size w)
  clear h hR hrun hj
  go_enter Tryd.func37, Tryd.ntmps37
  go_wp2
  go_region_with (first
    | (go_at_call 65; refine (HA.out _ (by first | exact HB.out | exact HB.out.drew)).mono ?_; rintro e w2 ⟨rfl, ho, _, j2⟩)
    | (go_at_call 64; refine (is_same _ _).mono ?_; rintro e w3 ⟨rfl, rfl⟩))
  all_goals
    obtain ⟨wa, hr, on⟩ := ho.out
    go_wp2
    go_ret
    exact ⟨rfl, _, wa, (by first | exact HB.out | exact HB.out.drew), hr, (by first | exact on | exact on.drew)⟩
end Go.Proofs.YtmjgblhihpbbdaaDoor
