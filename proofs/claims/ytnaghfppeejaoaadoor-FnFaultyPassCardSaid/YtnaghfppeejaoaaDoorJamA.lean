/-
  The jam: the program's error for whatever is not valid, how work ends in it, and how it is told.
-/
import Derived.Test.YtnaghfppeejaoaaDoorStr
import Derived.Deep.Quiet
import Derived.WalkKit
import Derived.LaidEql
import Derived.Stop.Asserts
import Derived.RowKitTokens
import Derived.Defers
import Derived.Recover
import Derived.Laws.Pointers
import Derived.Below
import Derived.Lib.Hide
import Derived.Handy
import Derived.WalkSmall
import Derived.Deep.RegionWith
import Derived.Test.YtnaghfppeejaoaaDoorRun
namespace Go.Proofs.YtnaghfppeejaoaaDoor
open Go.RowKit Go.Extern.Stop Go.Stop Go.Extern

/-- The jam, as a value. -/
def JV (J : Addr) : Value := .iface 147 (.pointer (some J))
/-- The variable holds it. -/
def Jam (w : World) (J : Addr) : Prop := w.cell? ⟨0, 0, none⟩ = some (JV J)
theorem Jam.on {w w' : World} {J : Addr} (h : Jam w J) (hb : Below w.heap.size w w') : Jam w' J := by
  have hl := World.block_lt_of_cell? _ _ h
  unfold Jam
  rw [hb.cell (p := ⟨0, 0, none⟩) hl]
  exact h
theorem Jam.lt {w : World} {J : Addr} (h : Jam w J) : 0 < w.heap.size := World.block_lt_of_cell? _ _ h
/-- A panic with it. -/
def JamEnd (J : Addr) : Ending := .panicked [{ v := JV J, recovered := false }]

theorem is_TypeOf (v : Value) (w : World) : (Extern.ReflectliteType.typeOf #[.iface 147 v]).run Tryd.prog w = .ok (.iface 135 (.agg #[.pointer (some ⟨Tryd.prog.globals.size, 147, none⟩)])) w := by kernel_rfl
theorem is_Comparable (w : World) : ((Extern.ReflectliteType.method fun t => do Extern.Rtype.noPackHeld "Comparable" t; (fun a => Value.bool a.comparable) <$> typeInfo t) #[.agg #[.pointer (some ⟨Tryd.prog.globals.size, 147, none⟩)]]).run Tryd.prog w = .ok (.bool true) w := by kernel_rfl
theorem is_MethodComparable (v : Value) (w : World) : (Go.method 130 135 v "Comparable").run Tryd.prog w = .ok (150, v) w := by kernel_rfl
/-- How many package-level variables there are. -/
theorem globs : Tryd.prog.globals.size = 1 := by kernel_rfl
theorem is_Comp : (Tryd.prog.info? 147).map (·.comparable) = some true := by kernel_rfl
theorem is_Size : (Tryd.prog.info? 174).map (·.size) = some 1 := by kernel_rfl

set_option maxRecDepth 100000 in
/-- errors.Is of an error and itself. -/
theorem is_same (a : Addr) (w : World) :
    Calls Tryd.prog 91 #[.iface 147 (.pointer (some a)), .iface 147 (.pointer (some a))] w fun e w' => e = .returned (.bool true) ∧ w' = w := by
  obtain ⟨i, hi, hcmp⟩ := Option.map_eq_some_iff.1 is_Comp
  obtain ⟨j, hj, hjs⟩ := Option.map_eq_some_iff.1 is_Size
  have h8 := @run_callFunc_extern Tryd.prog 120 _ Extern.ReflectliteType.typeOf Tryd.func120 (by kernel_rfl) (by kernel_rfl) (by kernel_rfl) (by kernel_rfl)
  have h32 := @run_callFunc_extern Tryd.prog 150 _ (Extern.ReflectliteType.method fun t => do Extern.Rtype.noPackHeld "Comparable" t; pure (.bool (← typeInfo t).comparable)) Tryd.func150 (by kernel_rfl) (by kernel_rfl) (by kernel_rfl) (by kernel_rfl)
  have tT := is_TypeOf
  have cT := is_Comparable
  have mR := is_MethodComparable
  simp only [globs] at tT cT
  have heq := run_eql_iface_ptr_same (P := Tryd.prog) w a Tryd.underlying103 Tryd.underlying147 hi hcmp hj
  go_enter Tryd.func91, Tryd.ntmps91
  go_wp2
  refine wp_loop_rounds 1 ?_
  rw [rounds_succ]
  go_wp2
  go_ret
  exact ⟨rfl, rfl⟩

set_option maxRecDepth 100000 in
/-- errors.Is of no error. -/
theorem is_nil (b : Addr) (w : World) :
    Calls Tryd.prog 91 #[.nilIface, .iface 147 (.pointer (some b))] w fun e w' => e = .returned (.bool false) ∧ w' = w := by
  have hn := run_eql_iface_nil_left (P := Tryd.prog) w 147 (.pointer (some b)) Tryd.underlying103
  go_enter Tryd.func91, Tryd.ntmps91
  go_wp2
  go_ret
  exact ⟨rfl, rfl⟩

theorem insist_yes (w : World) : Calls Tryd.prog 93 #[.bool true] w fun e w' => e = .returned (.tuple #[]) ∧ w = w' := by
  go_enter Tryd.func93, Tryd.ntmps93
  go_wp2
  go_end0
  exact ⟨rfl, rfl⟩
theorem insist_no (w : World) (J : Addr) (h : Jam w J) : Calls Tryd.prog 93 #[.bool false] w fun e w' => e = JamEnd J ∧ w = w' := by
  have h0 := h
  unfold Jam JV at h0
  clear h
  go_enter Tryd.func93, Tryd.ntmps93
  go_wp2
  exact ⟨rfl, rfl, rfl⟩

set_option maxRecDepth 100000 in
/-- The literal that attempt defers, where the work has ended in a panic. -/
theorem told_panic (p : Addr) (x : Value) (J : Addr) (u : TypeId) (pv : Value) (older : List PanicEntry) (w : World) (hj : Jam w J) (hc : w.cell? p = some x) (hz : w.frozen? p = false) :
    CallsD Tryd.prog 122 #[.pointer (some p)] (.panicking ({ v := .iface u pv, recovered := false } :: older)) w fun e u' w' =>
      e = .returned (.tuple #[]) ∧ u' = .panicking ({ v := .iface u pv, recovered := true } :: older) ∧ w' = w.setCell p (JV J) := by
  unfold Jam at hj
  refine callsD_of_wpS Tryd.func122 rfl fun c₀ cs hu => ?_
  apply wpS_seq
  apply wpS_region
  simp [wpOpsS, go_sem, recoverD, hu, Tryd.ntmps122, Exit.thenS]
  refine wpS_cond (t := true) (by simp [Act.eval, Array.replicate]) ?_
  simp only [if_true]
  apply wpS_region
  simp [wpOpsS, go_sem, hj, hc, hz, JV, bodyPostS, results, Tryd.results122]

set_option maxRecDepth 100000 in
/-- .. where it has ended well. -/
theorem told_well (p : Addr) (w : World) :
    CallsD Tryd.prog 122 #[.pointer (some p)] .returning w fun e u' w' => e = .returned (.tuple #[]) ∧ u' = .returning ∧ w' = w := by
  refine callsD_of_wpS Tryd.func122 rfl fun c₀ cs hu => ?_
  apply wpS_seq
  apply wpS_region
  simp [wpOpsS, go_sem, recoverD, hu, Tryd.ntmps122, Exit.thenS]
  refine wpS_cond (t := false) (by simp [Act.eval, Array.replicate]) ?_
  simp only [Bool.false_eq_true, if_false]
  refine wpS_of_wp (wp_skip ?_)
  cases c₀
  simp_all [bodyPostS, results, Tryd.results122]

set_option maxRecDepth 100000 in
/-- Work that ends well: no error. -/
theorem attempt_well (w : World) (g : Nat) (cap : Array Value) (R : World → Prop) (hrun : ∀ W : World, (callFunc g cap).run Tryd.prog W = .ok (.enter g cap) W)
    (h : Calls Tryd.prog g cap (w.alloc (.cells #[.nilIface] 103)) fun e w1 => e = .returned (.tuple #[]) ∧ R w1)
    (hR : ∀ w1, R w1 → w1.cell? ⟨w.heap.size, 0, none⟩ = some .nilIface ∧ w1.frozen? ⟨w.heap.size, 0, none⟩ = false) :
    Calls Tryd.prog 92 #[.func (.func g) #[] cap] w fun e w' => e = .returned .nilIface ∧ ∃ w1, R w1 ∧ w' = w1.setCell ⟨w.heap.size, 0, none⟩ .nilIface := by
  have hmf : ∀ (fn : Fn) (first cap : Array Value) (w : World), (Instr.makeFunc fn first cap).run Tryd.prog w = .ok (.func fn first cap) w := fun _ _ _ _ => rfl
  go_enter_defers Tryd.func92, Tryd.ntmps92
  go_wp2
  refine h.mono ?_
  rintro e w1 ⟨rfl, hr⟩
  obtain ⟨c0, z0⟩ := hR w1 hr
  have HR := Lib.hid hr
  clear hr hR h hrun
  go_wp2
  refine leaves_cons (f := 122) (args := #[.pointer (some ⟨w.heap.size, 0, none⟩)]) (by simp) (by simp [go_sem]) ?_
  refine (told_well ⟨w.heap.size, 0, none⟩ _).mono ?_
  rintro e u' w'' ⟨rfl, rfl, rfl⟩
  simp [Leaves, settle, results, Tryd.results92, go_sem, c0]
  exact ⟨w1, HR.out, rfl⟩

set_option maxRecDepth 100000 in
/-- Work that ends in the jam: the jam as an error. -/
theorem attempt_jam (w : World) (J : Addr) (g : Nat) (cap : Array Value) (R : World → Prop) (hrun : ∀ W : World, (callFunc g cap).run Tryd.prog W = .ok (.enter g cap) W)
    (h : Calls Tryd.prog g cap (w.alloc (.cells #[.nilIface] 103)) fun e w1 => e = JamEnd J ∧ R w1)
    (hR : ∀ w1, R w1 → w1.cell? ⟨w.heap.size, 0, none⟩ = some .nilIface ∧ w1.frozen? ⟨w.heap.size, 0, none⟩ = false ∧ Jam w1 J) :
    Calls Tryd.prog 92 #[.func (.func g) #[] cap] w fun e w' => e = .returned (JV J) ∧ ∃ w1, R w1 ∧ w' = w1.setCell ⟨w.heap.size, 0, none⟩ (JV J) := by
  have hmf : ∀ (fn : Fn) (first cap : Array Value) (w : World), (Instr.makeFunc fn first cap).run Tryd.prog w = .ok (.func fn first cap) w := fun _ _ _ _ => rfl
  go_enter_defers Tryd.func92, Tryd.ntmps92
  go_wp2
  refine h.mono ?_
  rintro e w1 ⟨rfl, hr⟩
  obtain ⟨c0, z0, hj⟩ := hR w1 hr
  have HR := Lib.hid hr
  clear hr hR h hrun
  unfold JamEnd
  go_wp2
  refine leaves_cons (f := 122) (args := #[.pointer (some ⟨w.heap.size, 0, none⟩)]) (by simp) (by simp [go_sem]) ?_
  refine (told_panic ⟨w.heap.size, 0, none⟩ _ J _ _ [] _ hj c0 z0).mono ?_
  rintro e u' w'' ⟨rfl, rfl, rfl⟩
  simp [Leaves, settle, results, Tryd.results92, go_sem, c0]
  exact ⟨w1, HR.out, rfl⟩

theorem Only.drew {w w' : World} {S : Nat → Prop} (h : Only w w' S) : Only w w'.drew S := ⟨h.os, h.tape, h.output, h.size, h.block⟩
/-- What work leaves: whether it ended well, and the world behind it but for a block of attempt's own. -/
def RunsRes (w : World) (R : World → World → Prop) (b : Bool) (e : Ending) (w' : World) : Prop :=
  e = .returned (.bool b) ∧ ∃ W w1, Below w.heap.size w W ∧ R W w1 ∧ Only w1 w' (fun k => k = W.heap.size)

set_option maxHeartbeats 1000000 in
set_option maxRecDepth 100000 in
theorem runs_well (w : World) (J : Addr) (hj : Jam w J) (g : Nat) (cap : Array Value) (R : World → World → Prop) (hrun : ∀ W : World, (callFunc g cap).run Tryd.prog W = .ok (.enter g cap) W)
    (h : ∀ W, Below w.heap.size w W → Calls Tryd.prog g cap (W.alloc (.cells #[.nilIface] 103)) fun e w1 => e = .returned (.tuple #[]) ∧ R W w1)
    (hR : ∀ W w1, Below w.heap.size w W → R W w1 → w1.cell? ⟨W.heap.size, 0, none⟩ = some .nilIface ∧ w1.frozen? ⟨W.heap.size, 0, none⟩ = false ∧ Jam w1 J) :
    Calls Tryd.prog 45 #[.func (.func g) #[] cap] w (RunsRes w R true) := by
  have HA : Hid (∀ W, Below w.heap.size w W → Calls Tryd.prog 92 #[.func (.func g) #[] cap] W fun e w' => e = .returned .nilIface ∧ Hid (∃ w1, R W w1 ∧ Only w1 w' (fun k => k = W.heap.size)) ∧ Below W.heap.size W W ∧ w'.cell? ⟨0, 0, none⟩ = some (.iface 147 (.pointer (some J)))) := fun W hW => by
    refine (attempt_well W g cap (R W) hrun (h W hW) (fun w1 hr => ⟨(hR W w1 hW hr).1, (hR W w1 hW hr).2.1⟩)).mono ?_
    rintro e w' ⟨he, w1, hr, rfl⟩
    have hj1 := (hR W w1 hW hr).2.2
    have hl := (hj.on hW).lt
    refine ⟨he, ⟨w1, hr, Only.set _ _ _ rfl⟩, Below.refl _ _, ?_⟩
    exact (World.cell?_of_block ((Only.set (S := fun k => k = W.heap.size) w1 ⟨W.heap.size, 0, none⟩ _ rfl).block _ hj1.lt (Nat.ne_of_lt hl))).trans hj1
  have hj0 : w.cell? ⟨0, 0, none⟩ = some (.iface 147 (.pointer (some J))) := hj
  have HB := Lib.hid (Below.refl w.heap.size w)
  clear h hR hrun hj
  go_enter Tryd.func45, Tryd.ntmps45
  go_wp2
  go_region_with (first
    | (go_at_call 92; refine (HA.out _ (by first | exact HB.out | exact HB.out.drew)).mono ?_; rintro e w2 ⟨rfl, ho, _, j2⟩)
    | (go_at_call 91; refine (is_nil _ _).mono ?_; rintro e w3 ⟨rfl, rfl⟩))
  all_goals
    obtain ⟨wa, hr, on⟩ := ho.out
    go_wp2
    go_ret
    exact ⟨rfl, _, wa, (by first | exact HB.out | exact HB.out.drew), hr, (by first | exact on | exact on.drew)⟩

set_option maxHeartbeats 1000000 in
set_option maxRecDepth 100000 in
theorem runs_jam (w : World) (J : Addr) (hj : Jam w J) (g : Nat) (cap : Array Value) (R : World → World → Prop) (hrun : ∀ W : World, (callFunc g cap).run Tryd.prog W = .ok (.enter g cap) W)
    (h : ∀ W, Below w.heap.size w W → Calls Tryd.prog g cap (W.alloc (.cells #[.nilIface] 103)) fun e w1 => e = JamEnd J ∧ R W w1)
    (hR : ∀ W w1, Below w.heap.size w W → R W w1 → w1.cell? ⟨W.heap.size, 0, none⟩ = some .nilIface ∧ w1.frozen? ⟨W.heap.size, 0, none⟩ = false ∧ Jam w1 J) :
    Calls Tryd.prog 45 #[.func (.func g) #[] cap] w (RunsRes w R false) := by
  have HA : Hid (∀ W, Below w.heap.size w W → Calls Tryd.prog 92 #[.func (.func g) #[] cap] W fun e w' => e = .returned (JV J) ∧ Hid (∃ w1, R W w1 ∧ Only w1 w' (fun k => k = W.heap.size)) ∧ Below W.heap.size W W ∧ w'.cell? ⟨0, 0, none⟩ = some (.iface 147 (.pointer (some J)))) := fun W hW => by
    refine (attempt_jam W J g cap (R W) hrun (h W hW) (fun w1 hr => hR W w1 hW hr)).mono ?_
    rintro e w' ⟨he, w1, hr, rfl⟩
    have hj1 := (hR W w1 hW hr).2.2
    have hl := (hj.on hW).lt
    refine ⟨he, ⟨w1, hr, Only.set _ _ _ rfl⟩, Below.refl _ _, ?_⟩
    exact (World.cell?_of_block ((Only.set (S := fun k => k = W.heap.size) w1 ⟨W.heap.size, 0, none⟩ _ rfl).block _ hj1.lt (Nat.ne_of_lt hl))).trans hj1
  have hj0 : w.cell? ⟨0, 0, none⟩ = some (.iface 147 (.pointer (some J))) := hj
  have HB := Lib.hid (Below.refl w.heap.size w)
  clear h hR hrun hj
  go_enter Tryd.func45, Tryd.ntmps45
  go_wp2
  go_region_with (first
    | (go_at_call 92; refine (HA.out _ (by first | exact HB.out | exact HB.out.drew)).mono ?_; rintro e w2 ⟨rfl, ho, _, j2⟩)
    | (go_at_call 91; refine (is_same _ _).mono ?_; rintro e w3 ⟨rfl, rfl⟩))
  all_goals
    obtain ⟨wa, hr, on⟩ := ho.out
    go_wp2
    go_ret
    exact ⟨rfl, _, wa, (by first | exact HB.out | exact HB.out.drew), hr, (by first | exact on | exact on.drew)⟩
end Go.Proofs.YtnaghfppeejaoaaDoor

/-
  A machine of the program: which one there is for a pass, the bin where a letter belongs, and whether bins are those of the pass.
-/
namespace Go.Proofs.YtnaghfppeejaoaaDoor
open Go.RowKit
open Go.PlainAid (bt get_bt bt_nonneg bt_le)
set_option linter.unusedVariables false

/-- A machine as a value. -/
def mac (b p : Int) (s : Value) (x : Int) : Value := .agg #[.int .i64 b, .int .i64 p, s, .int .i64 x]
/-- The box of a machine. -/
def Mac (w : World) (g : Nat) (b p : Int) (s : Value) (x : Int) : Prop :=
  (w.cell? ⟨g, 0, none⟩ = some (.int .i64 b) ∧ w.cell? ⟨g, 1, none⟩ = some (.int .i64 p) ∧ w.cell? ⟨g, 2, none⟩ = some s ∧ w.cell? ⟨g, 3, none⟩ = some (.int .i64 x)) ∧
  w.frozen? ⟨g, 0, none⟩ = false ∧ w.frozen? ⟨g, 1, none⟩ = false ∧ w.frozen? ⟨g, 2, none⟩ = false ∧ w.frozen? ⟨g, 3, none⟩ = false
theorem mac_made (w : World) (b p : Int) (s : Value) (x : Int) (t : TypeId) : Mac (w.alloc (.cells #[.int .i64 b, .int .i64 p, s, .int .i64 x] t)) w.heap.size b p s x := by
  refine ⟨⟨?_, ?_, ?_, ?_⟩, ?_, ?_, ?_, ?_⟩ <;> simp [go_sem]
theorem Mac.lt {w : World} {g : Nat} {b p : Int} {s : Value} {x : Int} (h : Mac w g b p s x) : g < w.heap.size := World.block_lt_of_cell? _ _ h.1.1
theorem Mac.only {w w' : World} {g : Nat} {b p : Int} {s : Value} {x : Int} {S : Nat → Prop} (h : Mac w g b p s x) (ho : Only w w' S) (hn : ¬ S g) : Mac w' g b p s x := by
  have hb := ho.block g h.lt hn
  have k : ∀ i, w'.cell? ⟨g, i, none⟩ = w.cell? ⟨g, i, none⟩ := fun i => World.cell?_of_block hb
  have q : ∀ i, w'.frozen? ⟨g, i, none⟩ = w.frozen? ⟨g, i, none⟩ := fun i => World.frozen?_of_block hb
  obtain ⟨⟨h0, h1, h2, h3⟩, f0, f1, f2, f3⟩ := h
  exact ⟨⟨by rw [k]; exact h0, by rw [k]; exact h1, by rw [k]; exact h2, by rw [k]; exact h3⟩, by rw [q]; exact f0, by rw [q]; exact f1, by rw [q]; exact f2, by rw [q]; exact f3⟩
theorem Mac.on {w w' : World} {g : Nat} {b p : Int} {s : Value} {x : Int} (h : Mac w g b p s x) (hb : Below w.heap.size w w') : Mac w' g b p s x := h.only (Only.new (S := fun _ => False) hb) (fun e => e)

set_option maxHeartbeats 1000000 in
set_option maxRecDepth 100000 in
theorem machineFor_yes (w : World) (b p : Int) (a : Option Addr) (n c : Nat) (S : Nat → ByteArray) (h : Strs w a n S) (hf : SFits n S) (hn : n ≤ 1048576) (hp : M.plan b p n S = true) (x : Int) (hx : 0 ≤ x ∧ x < p) :
    Calls Tryd.prog 47 #[.agg #[.int .i64 b, .int .i64 p, .slice a n c], .int .i64 x] w fun e w' => e = .returned (mac b p (.slice a n c) x) ∧ Below w.heap.size w w' := by
  obtain ⟨s1, s2, s3, s4⟩ := M.plan_shape hp
  have b0 := below_alloc0 w (.cells #[.int .i64 b, .int .i64 p, .slice a n c] 25)
  have b1 := sstep b0 (below_alloc0 _ (.cells #[.int .i64 0, .int .i64 0, .slice none 0 0, .int .i64 0] 67))
  have HL := Lib.hid (h.on b1)
  have bx := Lib.hid ((tri_made w (.int .i64 b) (.int .i64 p) (.slice a n c) 25).alloc (.cells #[.int .i64 0, .int .i64 0, .slice none 0 0, .int .i64 0] 67))
  have mx0 := mac_made (w.alloc (.cells #[.int .i64 b, .int .i64 p, .slice a n c] 25)) 0 0 (.slice none 0 0) 0 67
  rw [World.size_alloc] at mx0
  have mx := Lib.hid mx0
  clear mx0
  have B0 := Lib.hid b1
  have HF := Lib.hid hf
  have HP := Lib.hid hp
  have hd := Lib.hid (decide_eq_true hx)
  clear h hf hp b0 b1
  obtain ⟨⟨t0, t1, t2⟩, _⟩ := bx.out
  go_enter Tryd.func47, Tryd.ntmps47
  go_wp2_with fail
  refine (impl_PlanValid _ b p a n c S HL.out HF.out hn).mono ?_
  rw [HP.out]
  rintro e w1 ⟨rfl, hb1⟩
  have bx1 := Lib.hid (bx.out.on hb1)
  have mx1 := Lib.hid (mx.out.on hb1)
  have B1 := Lib.hid (sstep B0.out hb1)
  clear t0 t1 t2 bx mx B0 hb1
  obtain ⟨⟨t0, t1, t2⟩, _⟩ := bx1.out
  go_wp2_with fail
  refine (impl_hasPass _ b p _ x s3 s4).mono ?_
  rw [hd.out]
  rintro e w2 ⟨rfl, hb2⟩
  have bx2 := Lib.hid (bx1.out.on hb2)
  have mx2 := Lib.hid (mx1.out.on hb2)
  have B2 := Lib.hid (sstep B1.out hb2)
  clear t0 t1 t2 bx1 mx1 B1 hb2
  go_wp2_with fail
  refine (insist_yes _).mono ?_
  rintro e w3 ⟨rfl, rfl⟩
  obtain ⟨⟨t0, t1, t2⟩, _⟩ := bx2.out
  obtain ⟨⟨u0, u1, u2, u3⟩, v0, v1, v2, v3⟩ := mx2.out
  go_wp2
  exact bodyPost_ret (v := mac b p (.slice a n c) x) (by simp [mac, results, Tryd.results47, go_sem, u0, u1, u2, u3]) rfl ⟨rfl, (((B2.out.setCell (by simp) _).setCell (by simp) _).setCell (by simp) _).setCell (by simp) _⟩

set_option maxHeartbeats 1000000 in
set_option maxRecDepth 100000 in
theorem machineFor_no (w : World) (J : Addr) (hj : Jam w J) (b p : Int) (a : Option Addr) (n c : Nat) (S : Nat → ByteArray) (h : Strs w a n S) (hf : SFits n S) (hn : n ≤ 1048576) (x : Int) (hbad : ¬ (M.plan b p n S = true ∧ 0 ≤ x ∧ x < p)) :
    Calls Tryd.prog 47 #[.agg #[.int .i64 b, .int .i64 p, .slice a n c], .int .i64 x] w fun e w' => e = JamEnd J ∧ Below w.heap.size w w' := by
  have b0 := below_alloc0 w (.cells #[.int .i64 b, .int .i64 p, .slice a n c] 25)
  have b1 := sstep b0 (below_alloc0 _ (.cells #[.int .i64 0, .int .i64 0, .slice none 0 0, .int .i64 0] 67))
  have HL := Lib.hid (h.on b1)
  have HJ := Lib.hid (hj.on b1)
  have bx := Lib.hid ((tri_made w (.int .i64 b) (.int .i64 p) (.slice a n c) 25).alloc (.cells #[.int .i64 0, .int .i64 0, .slice none 0 0, .int .i64 0] 67))
  have B0 := Lib.hid b1
  have HF := Lib.hid hf
  clear h hf b0 b1 hj
  obtain ⟨⟨t0, t1, t2⟩, _⟩ := bx.out
  cases hp : M.plan b p n S
  · clear hbad
    go_enter Tryd.func47, Tryd.ntmps47
    go_wp2_with fail
    refine (impl_PlanValid _ b p a n c S HL.out HF.out hn).mono ?_
    rw [hp]
    rintro e w1 ⟨rfl, hb1⟩
    go_wp2_with fail
    refine (insist_no _ J (HJ.out.on hb1)).mono ?_
    rintro e w3 ⟨rfl, rfl⟩
    unfold JamEnd
    go_wp2
    exact ⟨rfl, rfl, sstep B0.out hb1⟩
  · obtain ⟨s1, s2, s3, s4⟩ := M.plan_shape hp
    have hd := Lib.hid (decide_eq_false (show ¬ (0 ≤ x ∧ x < p) from fun e => hbad ⟨hp, e⟩))
    have HP := Lib.hid hp
    clear hbad hp
    go_enter Tryd.func47, Tryd.ntmps47
    go_wp2_with fail
    refine (impl_PlanValid _ b p a n c S HL.out HF.out hn).mono ?_
    rw [HP.out]
    rintro e w1 ⟨rfl, hb1⟩
    have bx1 := Lib.hid (bx.out.on hb1)
    have B1 := Lib.hid (sstep B0.out hb1)
    have HJ1 := Lib.hid (HJ.out.on hb1)
    clear t0 t1 t2 bx B0 hb1
    obtain ⟨⟨t0, t1, t2⟩, _⟩ := bx1.out
    go_wp2_with fail
    refine (impl_hasPass _ b p _ x s3 s4).mono ?_
    rw [hd.out]
    rintro e w2 ⟨rfl, hb2⟩
    go_wp2_with fail
    refine (insist_no _ J (HJ1.out.on hb2)).mono ?_
    rintro e w3 ⟨rfl, rfl⟩
    unfold JamEnd
    go_wp2
    exact ⟨rfl, rfl, sstep B1.out hb2⟩

set_option maxHeartbeats 1000000 in
set_option maxRecDepth 100000 in
/-- The bin where a letter belongs. -/
theorem impl_binOf (w : World) (b p : Int) (a : Option Addr) (n c : Nat) (S : Nat → ByteArray) (h : Strs w a n S) (hn : n ≤ 1048576) (b0 : 2 ≤ b) (b1 : b ≤ 16) (x : Nat) (hx : x ≤ 3) (i : Int) (s : ByteArray) :
    Calls Tryd.prog 97 #[mac b p (.slice a n c) x, .agg #[.int .i64 i, .string s]] w fun e w' => e = .returned (.int .i64 (if M.rankTo S s n < 0 then -1 else M.rankBin b (M.rankTo S s n) x)) ∧ Below w.heap.size w w' := by
  have HL := Lib.hid (h.on (sstep (below_alloc0 w (.cells #[.int .i64 b, .int .i64 p, .slice a n c, .int .i64 x] 67)) (below_alloc0 _ (.cells #[.int .i64 i, .string s] 37))))
  have hr := M.rank_bd S s n
  have hS := Lib.hid (slices_Index · a n c S · hn s)
  obtain ⟨r, hr0⟩ : ∃ r, M.rankTo S s n = r := ⟨_, rfl⟩
  rw [hr0] at hr hS ⊢
  clear h hr0
  unfold mac
  by_cases h0 : r < 0
  · rw [if_pos h0]
    go_enter Tryd.func97, Tryd.ntmps97
    go_wp2_with fail
    refine (hS.out _ HL.out).mono ?_
    rintro e w1 ⟨rfl, rfl⟩
    go_wp2
    go_ret
    exact ⟨rfl, by go_grown⟩
  · rw [if_neg h0]
    have hR := Lib.hid (fun W => impl_rankBin W b p (.slice a n c) r x b0 b1 hx (by omega) (by omega))
    go_enter Tryd.func97, Tryd.ntmps97
    go_wp2_with fail
    refine (hS.out _ HL.out).mono ?_
    rintro e w1 ⟨rfl, rfl⟩
    go_wp2_with fail
    refine (hR.out _).mono ?_
    rintro e w2 ⟨rfl, hb2⟩
    go_wp2
    go_ret
    exact ⟨rfl, sstep (by go_grown) hb2⟩

/-- The bin by a key, or -1. -/
def binNo : Option Nat → Int
  | none => -1
  | some d => d
theorem binNo_key (b : Int) (n : Nat) (S C : Nat → ByteArray) (x k : Nat) (hb : 2 ≤ b) : (if M.rankTo S (C k) n < 0 then -1 else M.rankBin b (M.rankTo S (C k) n) x) = binNo (M.planKey b n S C x k) := by
  by_cases h : M.rankTo S (C k) n < 0
  · rw [if_pos h, M.planKey_none h]; rfl
  · rw [if_neg h, M.planKey_some (by omega)]
    have := M.rankBin_bd (b := b) (r := M.rankTo S (C k) n) (k := x) hb
    show _ = (((M.rankBin b (M.rankTo S (C k) n) x).toNat : Nat) : Int)
    omega

/-- Whether bins are those of a pass. -/
def binsOk (b : Int) (N : Nat) (MM : Nat → List (Int × ByteArray)) : Bool := decide ((N : Int) = b) && M.batch (M.flat MM N).length (nI (M.flat MM N)) (nC (M.flat MM N))

set_option maxHeartbeats 1000000 in
set_option maxRecDepth 100000 in
theorem impl_check (w : World) (J : Addr) (hj : Jam w J) (b p x : Int) (s : Value) (base : Nat) (v : Value) (N : Nat) (V : Nat → Value) (MM : Nat → List (Int × ByteArray)) (h : Mat w base v N V MM) (hN : N ≤ 1048576) (hl : (M.flat MM N).length ≤ 1048576) (hf : Fits (M.flat MM N).length (nI (M.flat MM N)) (nC (M.flat MM N))) (b1 : 0 ≤ b) (b2 : b ≤ 16) :
    Calls Tryd.prog 102 #[mac b p s x, v] w fun e w' => e = (if binsOk b N MM then .returned (.tuple #[]) else JamEnd J) ∧ Below w.heap.size w w' := by
  have b0 := below_alloc0 w (.cells #[.int .i64 b, .int .i64 p, s, .int .i64 x] 67)
  have HJ := Lib.hid (hj.on b0)
  have HM := Lib.hid (h.on b0)
  have B0 := Lib.hid b0
  have HF := Lib.hid hf
  obtain ⟨u, c, hv⟩ : ∃ u c, v = .slice u N c := by
    rcases h.form with ⟨rfl, rfl⟩ | ⟨g, c, rfl, _⟩
    · exact ⟨_, _, rfl⟩
    · exact ⟨_, _, rfl⟩
  subst hv
  clear h hj hf b0
  unfold mac
  by_cases hNb : (N : Int) = b
  · have hbq : ((N : Int) == b) = true := by simpa using hNb
    have hok : Hid (binsOk b N MM = M.batch (M.flat MM N).length (nI (M.flat MM N)) (nC (M.flat MM N))) := by unfold Hid binsOk; rw [decide_eq_true hNb, Bool.true_and]
    rw [hok.out]
    obtain ⟨L, hL⟩ : ∃ L, M.flat MM N = L := ⟨_, rfl⟩
    have HC : Hid (∀ W, Below w.heap.size w W → Mat W base (.slice u N c) N V MM → Calls Tryd.prog 66 #[.slice u N c] W (RowOut W L)) := fun W _ hW => by
      rw [← hL]
      exact slices_Concat W base _ N V MM hW hN hl
    rw [hL] at hl HF ⊢
    clear hL hNb hok
    cases hb : M.batch L.length (nI L) (nC L)
    all_goals
      have HB := Lib.hid hb
      clear hb
      go_enter Tryd.func102, Tryd.ntmps102
      go_wp2_with fail
      refine (HC.out _ B0.out HM.out).mono ?_
      rintro e w1 ⟨v1, rfl, r1, k1⟩
      obtain ⟨a1, c1, rfl, _, l1⟩ := r1.form
      go_wp2_with fail
      refine (impl_BatchValid _ a1 _ c1 _ _ l1 HF.out).mono ?_
      rw [HB.out]
      rintro e w2 ⟨rfl, k2⟩
      have HJ2 := Lib.hid ((HJ.out.on k1).on k2)
      have B2 := Lib.hid (sstep (sstep B0.out k1) k2)
      clear r1 l1 k1 k2
      go_wp2_with fail
    · refine (insist_no _ J HJ2.out).mono ?_
      rintro e w3 ⟨rfl, rfl⟩
      unfold JamEnd
      go_wp2
      exact ⟨rfl, rfl, B2.out⟩
    · refine (insist_yes _).mono ?_
      rintro e w3 ⟨rfl, rfl⟩
      go_wp2
      go_end0
      exact ⟨rfl, B2.out⟩
  · have hbq : ((N : Int) == b) = false := by simpa using hNb
    have hok : Hid (binsOk b N MM = false) := by unfold Hid binsOk; rw [decide_eq_false hNb, Bool.false_and]
    rw [hok.out]
    clear hNb hok
    go_enter Tryd.func102, Tryd.ntmps102
    go_wp2_with fail
    refine (insist_no _ J HJ.out).mono ?_
    rintro e w3 ⟨rfl, rfl⟩
    unfold JamEnd
    go_wp2
    exact ⟨rfl, rfl, B0.out⟩
end Go.Proofs.YtnaghfppeejaoaaDoor
