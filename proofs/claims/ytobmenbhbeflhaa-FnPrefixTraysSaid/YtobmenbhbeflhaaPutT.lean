/-
  A row of trays that are filled one after the other: what put leaves.
-/
import Derived.Test.YtobmenbhbeflhaaRoom
import Derived.StillTailTactics
namespace Go.Proofs.Ytobmenbhbeflhaa
open Go.RowKit
set_option linter.unusedVariables false

theorem as_letter (i : Int) (t : ByteArray) (w : World) : (Instr.typeAssert (.iface 31 (.agg #[.int .i64 i, .string t])) 72 31 true).run Try.prog w = .ok (.tuple #[.agg #[.int .i64 i, .string t], .bool true]) w := by kernel_rfl
theorem as_other (w : World) : (Instr.typeAssert (.iface 55 (.agg #[])) 72 31 true).run Try.prog w = .ok (.tuple #[.agg #[.int .i64 0, .string ⟨#[]⟩], .bool false]) w := by kernel_rfl
theorem as_divider (w : World) : (Instr.typeAssert (.iface 55 (.agg #[])) 72 55 true).run Try.prog w = .ok (.tuple #[.agg #[], .bool true]) w := by kernel_rfl

set_option maxHeartbeats 400000 in
theorem takes_letter (w : World) (i : Int) (t : ByteArray) (r : Int) :
    Calls Try.prog 70 #[.agg #[.int .i64 i, .string t], .int .i64 r] w fun e w' => e = .returned (.int .i64 1) ∧ Below w.heap.size w w' := by
  go_enter Try.func70, Try.ntmps70
  go_wp2
  go_ret
  exact ⟨rfl, by go_grown⟩
set_option maxHeartbeats 400000 in
theorem takes_divider (w : World) (r : Int) :
    Calls Try.prog 72 #[.agg #[], .int .i64 r] w fun e w' => e = .returned (.int .i64 r) ∧ Below w.heap.size w w' := by
  go_enter Try.func72, Try.ntmps72
  go_wp2
  go_ret
  exact ⟨rfl, by go_grown⟩
theorem ahead_letter (i : Int) (t : ByteArray) (w : World) : (nilAhead 204 31 (.agg #[.int .i64 i, .string t]) "loop.example/sortingoffice/impl.takes").run Try.prog w = .ok (some false) w := by kernel_rfl
theorem method_letter (i : Int) (t : ByteArray) (w : World) : (method 204 31 (.agg #[.int .i64 i, .string t]) "loop.example/sortingoffice/impl.takes").run Try.prog w = .ok (70, .agg #[.int .i64 i, .string t]) w := by kernel_rfl
theorem ahead_divider (w : World) : (nilAhead 204 55 (.agg #[]) "loop.example/sortingoffice/impl.takes").run Try.prog w = .ok (some false) w := by kernel_rfl
theorem method_divider (w : World) : (method 204 55 (.agg #[]) "loop.example/sortingoffice/impl.takes").run Try.prog w = .ok (72, .agg #[]) w := by kernel_rfl
/-- What is left when the room has been told. -/
theorem row_done {w w4 w5 : World} {T N0 m g c : Nat} {s r0 : Int} {v0 : Value} {V0 V : Nat → Value} {MM : Nat → List (Int × ByteArray)} (hA : Only w w4 (inT T v0 N0 V0)) (hM : Mat w4 (T + 1) (.slice (some ⟨g, 0, none⟩) (m + 1) c) (m + 1) V MM)
    (d0 : w4.cell? ⟨T, 0, none⟩ = some (.int .i64 s)) (d1 : w4.cell? ⟨T, 1, none⟩ = some (.slice (some ⟨g, 0, none⟩) (m + 1) c)) (d2 : w4.cell? ⟨T, 2, none⟩ = some (.int .i64 r0))
    (f0 : w4.frozen? ⟨T, 0, none⟩ = false) (f1 : w4.frozen? ⟨T, 1, none⟩ = false) (f2 : w4.frozen? ⟨T, 2, none⟩ = false) (hK : Below w4.heap.size w4 w5)
    (hG : ∀ k, inM (.slice (some ⟨g, 0, none⟩) (m + 1) c) (m + 1) V k → inM v0 N0 V0 k ∨ w.heap.size ≤ k) (r : Int) : Rowed w T s v0 N0 V0 (m + 1) MM r (.returned (.tuple #[])) (w5.setCell ⟨T, 2, none⟩ (.int .i64 r)) := by
  have hl4 : T < w4.heap.size := World.block_lt_of_cell? _ _ d2
  have hnT : ∀ k, inM (.slice (some ⟨g, 0, none⟩) (m + 1) c) (m + 1) V k → ¬ k = T := fun k hk e => by have := (hM.lt hk).1; omega
  have e0 := (hK.cell (p := ⟨T, 0, none⟩) hl4).trans d0
  have e1 := (hK.cell (p := ⟨T, 1, none⟩) hl4).trans d1
  have e2 := (hK.cell (p := ⟨T, 2, none⟩) hl4).trans d2
  have k0 := (hK.frozen (p := ⟨T, 0, none⟩) hl4).trans f0
  have k1 := (hK.frozen (p := ⟨T, 1, none⟩) hl4).trans f1
  have k2 := (hK.frozen (p := ⟨T, 2, none⟩) hl4).trans f2
  have hz := hK.size
  refine ⟨g, c, V, rfl, ⟨⟨by go_simp, by go_simp, by go_simp⟩, ⟨by go_simp, by go_simp, by go_simp⟩, ?_, by simp; omega⟩, ?_, hG⟩
  · exact (hM.on hK).only (Only.set _ ⟨T, 2, none⟩ _ (S := fun k => k = T) rfl) hnT
  · have A3 : Only w w5 (inT T v0 N0 V0) := hA.trans (Only.new (S := inT T v0 N0 V0) hK) (fun _ _ h => h)
    exact A3.trans (Only.set w5 ⟨T, 2, none⟩ _ (S := inT T v0 N0 V0) (Or.inl rfl)) (fun _ _ h => h)
set_option maxHeartbeats 4000000 in
theorem put_room (w : World) (T : Nat) (s : Int) (g c m : Nat) (V : Nat → Value) (MM : Nat → List (Int × ByteArray)) (room : Int) (h : TRow w T s (.slice (some ⟨g, 0, none⟩) (m + 1) c) (m + 1) V MM room) (hr : 1 ≤ room ∧ room ≤ 20) (hm : m ≤ 100) (hl : (MM m).length ≤ 1048576) (X c' : Nat) (i : Int) (t : ByteArray) (hX : w.cell? ⟨X, 0, none⟩ = some (.iface 31 (.agg #[.int .i64 i, .string t]))) :
    Calls Try.prog 25 #[.pointer (some ⟨T, 0, none⟩), .slice (some ⟨X, 0, none⟩) 1 c'] w (Rowed w T s (.slice (some ⟨g, 0, none⟩) (m + 1) c) (m + 1) V (m + 1) (upd MM m (MM m ++ [(i, t)])) (room - 1)) := by
  have HLM := Lib.hid hl
  clear hl
  have qA := as_letter
  have qB := as_other
  have qC := as_divider
  have qN := ahead_letter
  have qM := method_letter
  have qO := ahead_divider
  have qP := method_divider
  go_enter Try.func25, Try.ntmps25
  go_wp2
  refine wp_loop_rounds 2 ?_
  rw [rounds_succ]
  obtain ⟨W1, hW1⟩ : ∃ W1, w.alloc (.cells #[.int .i64 i, .string t] 31) = W1 := ⟨_, rfl⟩
  have k1 : Below w.heap.size w W1 := by rw [← hW1]; exact below_alloc0 w _
  have zb : w.heap.size < W1.heap.size := by rw [← hW1]; simp
  have b0' : W1.cell? ⟨w.heap.size, 0, none⟩ = some (.int .i64 i) := by rw [← hW1]; simp
  have b1' : W1.cell? ⟨w.heap.size, 1, none⟩ = some (.string t) := by rw [← hW1]; simp
  have HB0 := Lib.hid b0'
  have HB1 := Lib.hid b1'
  have H1 := Lib.hid (h.below k1)
  have HW1 := Lib.hid hW1
  obtain ⟨v0, hv0⟩ : ∃ v0, Value.slice (some ⟨g, 0, none⟩) (m + 1) c = v0 := ⟨_, rfl⟩
  obtain ⟨N0, hN0⟩ : ∃ N0, m + 1 = N0 := ⟨_, rfl⟩
  obtain ⟨V0, hV0⟩ : ∃ V0, V = V0 := ⟨_, rfl⟩
  have OA : Hid (Only w W1 (inT T v0 N0 V0)) := Only.new k1
  have HG : Hid (∀ k, inM (.slice (some ⟨g, 0, none⟩) (m + 1) c) (m + 1) V k → inM v0 N0 V0 k ∨ w.heap.size ≤ k) := fun k hk => Or.inl (by rw [← hv0, ← hN0, ← hV0]; exact hk)
  have HV0 : Hid (Rowed w T s (.slice (some ⟨g, 0, none⟩) (m + 1) c) (m + 1) V = Rowed w T s v0 N0 V0) := by rw [Hid, hv0, hN0, hV0]
  rw [HV0.out]
  clear h hW1 k1 hv0 hN0 hV0 b0' b1'
  go_wp2_with (go_at_call 37; rw [HW1.out]; refine (makeRoom_some W1 T s _ _ _ _ room H1.out (by omega)).mono ?_; rintro e w2 ⟨rfl, rfl⟩)
  have b0 := HB0.out
  have b1 := HB1.out
  have w1 : IntKind.i64.wrap (((m + 1 : Nat) : Int) - 1) = (m : Int) := by rw [IntWalk.i64_in _ (by omega)]; omega
  have w2 : IntKind.i64.wrap ((m : Int) + 1 - 1) = (m : Int) := by rw [IntWalk.i64_in _ (by omega)]; omega
  have w3 : IntKind.i64.wrap (m : Int) = (m : Int) := IntWalk.i64_in _ (by omega)
  have HTT : Hid (TRow W1.drew T s (.slice (some ⟨g, 0, none⟩) (m + 1) c) (m + 1) V MM room) := H1.out
  obtain ⟨⟨_, c1, _⟩, _, _, _⟩ := H1.out
  go_still_tail 11, (by kernel_rfl)
  change wpList _ _ _ _ _ W1.drew
  obtain ⟨wd, hwd⟩ : ∃ wd, W1.drew = wd := ⟨_, rfl⟩
  rw [hwd] at HTT ⊢
  have OD : Hid (Only W1 wd (inT T v0 N0 V0)) := Only.new (hwd ▸ ⟨rfl, rfl, rfl, Nat.le_refl _, fun _ _ => rfl⟩)
  have zd : W1.heap.size ≤ wd.heap.size := OD.out.size
  have HWD := Lib.hid hwd
  clear hwd c1 b0 b1
  obtain ⟨_, _, hm2, hl2⟩ := HTT.out
  have HM2 := Lib.hid hm2
  clear hm2
  go_wp2_with (go_at_call 38; refine (put_any wd (T + 1) g c (m + 1) V MM HM2.out (by omega) m (by omega) i t HLM.out).mono ?_; rintro e w4 ⟨x, rfl, m4, o4, x4⟩)
  obtain ⟨⟨a0, a1, a2⟩, ⟨a3, a4, a5⟩, _, _⟩ := HTT.out
  have hbT : w4.heap[T]? = wd.heap[T]? := o4.block T hl2 (fun e => by have := (HM2.out.lt e).1; omega)
  have d0 : w4.cell? ⟨T, 0, none⟩ = some (.int .i64 s) := (World.cell?_of_block (a := ⟨T, 0, none⟩) hbT).trans a0
  have d1 : w4.cell? ⟨T, 1, none⟩ = some (.slice (some ⟨g, 0, none⟩) (m + 1) c) := (World.cell?_of_block (a := ⟨T, 1, none⟩) hbT).trans a1
  have d2 : w4.cell? ⟨T, 2, none⟩ = some (.int .i64 room) := (World.cell?_of_block (a := ⟨T, 2, none⟩) hbT).trans a2
  have g0 : w4.frozen? ⟨T, 0, none⟩ = false := (World.frozen?_of_block (a := ⟨T, 0, none⟩) hbT).trans a3
  have g1 : w4.frozen? ⟨T, 1, none⟩ = false := (World.frozen?_of_block (a := ⟨T, 1, none⟩) hbT).trans a4
  have g2 : w4.frozen? ⟨T, 2, none⟩ = false := (World.frozen?_of_block (a := ⟨T, 2, none⟩) hbT).trans a5
  clear a0 a1 a2 a3 a4 a5 hbT
  have hl4 : T < w4.heap.size := World.block_lt_of_cell? _ _ d2
  have rm : IntKind.i64.wrap (room - 1) = room - 1 := IntWalk.i64_in _ (by omega)
  have M4 := Lib.hid m4
  have O4 := Lib.hid o4
  have X4 := Lib.hid x4
  have HD0 := Lib.hid d0
  have HD1 := Lib.hid d1
  have HD2 := Lib.hid d2
  have A1 : Only w wd (inT T v0 N0 V0) := OA.out.trans OD.out (fun _ _ h => h)
  have A2 : Hid (Only w w4 (inT T v0 N0 V0)) := A1.trans (T := inM (.slice (some ⟨g, 0, none⟩) (m + 1) c) (m + 1) V) O4.out (fun k hk h => by
    rcases HG.out k h with h | h
    · exact Or.inr h
    · omega)
  have HG2 : Hid (∀ k, inM (.slice (some ⟨g, 0, none⟩) (m + 1) c) (m + 1) (upd V m x) k → inM v0 N0 V0 k ∨ w.heap.size ≤ k) := fun k hk => by
    rcases inM_put (H := wd.heap.size) (show m < m + 1 by omega) X4.out hk with h | h
    · exact HG.out k h
    · have := OA.out.size; exact Or.inr (by omega)
  clear A1
  have HF0 := Lib.hid g0
  have HF1 := Lib.hid g1
  have HF2 := Lib.hid g2
  clear m4 o4 x4
  go_wp2
  go_region_with (go_at_call 70; refine (takes_letter _ _ _ _).mono ?_; rintro e w5 ⟨rfl, k5⟩; have kk : Below w4.heap.size w4 w5 := (by first | exact k5 | exact sstep (by go_grown) k5); have s2 : w5.cell? ⟨T, 2, none⟩ = some (.int .i64 room) := (kk.cell (p := ⟨T, 2, none⟩) hl4).trans d2; have s3 : w5.frozen? ⟨T, 2, none⟩ = false := (kk.frozen (p := ⟨T, 2, none⟩) hl4).trans g2; have KK := Lib.hid kk; clear k5 kk)
  all_goals
    clear s2 s3
    go_wp2
    rw [rounds_succ]
    go_wp2
    go_returns
    try rw [HRWD.out]
    exact row_done A2.out M4.out HD0.out HD1.out HD2.out HF0.out HF1.out HF2.out KK.out HG2.out _

set_option maxHeartbeats 4000000 in
theorem put_none (w : World) (T : Nat) (s : Int) (v0 : Value) (N0 : Nat) (V0 : Nat → Value) (MM : Nat → List (Int × ByteArray)) (h : TRow w T s v0 N0 V0 MM 0) (hs : 1 ≤ s ∧ s ≤ 20) (hn : N0 ≤ 100) (X c' : Nat) (i : Int) (t : ByteArray) (hX : w.cell? ⟨X, 0, none⟩ = some (.iface 31 (.agg #[.int .i64 i, .string t]))) :
    Calls Try.prog 25 #[.pointer (some ⟨T, 0, none⟩), .slice (some ⟨X, 0, none⟩) 1 c'] w (Rowed w T s v0 N0 V0 (N0 + 1) (upd MM N0 [(i, t)]) (s - 1)) := by
  have HRW := Lib.hid h
  have OW : Hid (Only w w (inT T v0 N0 V0)) := Only.refl _ _
  clear h
  have qA := as_letter
  have qB := as_other
  have qC := as_divider
  have qN := ahead_letter
  have qM := method_letter
  have qO := ahead_divider
  have qP := method_divider
  go_enter Try.func25, Try.ntmps25
  go_wp2
  refine wp_loop_rounds 2 ?_
  rw [rounds_succ]
  obtain ⟨W1, hW1⟩ : ∃ W1, w.alloc (.cells #[.int .i64 i, .string t] 31) = W1 := ⟨_, rfl⟩
  have k1 : Below w.heap.size w W1 := by rw [← hW1]; exact below_alloc0 w _
  have zb : w.heap.size < W1.heap.size := by rw [← hW1]; simp
  have b0' : W1.cell? ⟨w.heap.size, 0, none⟩ = some (.int .i64 i) := by rw [← hW1]; simp
  have b1' : W1.cell? ⟨w.heap.size, 1, none⟩ = some (.string t) := by rw [← hW1]; simp
  have HB0 := Lib.hid b0'
  have HB1 := Lib.hid b1'
  have H1 := Lib.hid (HRW.out.below k1)
  have HW1 := Lib.hid hW1
  have OA1 : Hid (Only w W1 (inT T v0 N0 V0)) := OW.out.trans (Only.new k1) (fun _ _ h => h)
  have zw := OW.out.size
  clear hW1 k1 b0' b1'
  go_wp2_with (go_at_call 37; rw [HW1.out]; refine (makeRoom_none W1 T s v0 N0 V0 MM H1.out (by omega)).mono ?_; rintro e w6 ⟨g, c, V6, rfl, t6, o6, x6⟩)
  obtain ⟨m, hm⟩ : ∃ m, N0 = m := ⟨_, rfl⟩
  have HN0 := Lib.hid hm
  obtain ⟨M6, hM6⟩ : ∃ M6, upd MM N0 [] = M6 := ⟨_, rfl⟩
  have HM6 := Lib.hid hM6
  rw [hM6] at t6
  rw [hm] at t6 x6
  have H6 := Lib.hid t6
  have OA : Hid (Only w w6 (inT T v0 N0 V0)) := OA1.out.trans o6 (fun _ _ h => h)
  have HG : Hid (∀ k, inM (.slice (some ⟨g, 0, none⟩) (m + 1) c) (m + 1) V6 k → inM v0 N0 V0 k ∨ w.heap.size ≤ k) := fun k hk => by
    rcases x6 k hk with h | h
    · exact Or.inl (by rw [hm]; exact h)
    · exact Or.inr (by omega)
  have HLM : Hid ((M6 m).length ≤ 1048576) := by rw [Hid, ← hM6, hm, upd_same]; exact Nat.zero_le _
  have HFIN : Hid (upd MM N0 [(i, t)] = upd M6 m (M6 m ++ [(i, t)])) := by
    rw [Hid, ← hM6, hm, upd_same]
    funext j
    unfold upd
    by_cases e : j = m
    · rw [if_pos e, if_pos e]; rfl
    · rw [if_neg e, if_neg e, if_neg e]
  have hbB : w6.heap[w.heap.size]? = W1.heap[w.heap.size]? := o6.block _ zb (fun e => by
    rcases e with e | e
    · have := HRW.out.2.2.2; omega
    · have := (HRW.out.2.2.1.lt e).2; omega)
  have b0 : w6.cell? ⟨w.heap.size, 0, none⟩ = some (.int .i64 i) := (World.cell?_of_block (a := ⟨w.heap.size, 0, none⟩) hbB).trans HB0.out
  have b1 : w6.cell? ⟨w.heap.size, 1, none⟩ = some (.string t) := (World.cell?_of_block (a := ⟨w.heap.size, 1, none⟩) hbB).trans HB1.out
  have hm1 : m ≤ 100 := by omega
  have HRWD : Hid (Rowed w T s v0 N0 V0 (N0 + 1) (upd MM N0 [(i, t)]) (s - 1) = Rowed w T s v0 N0 V0 (m + 1) (upd M6 m (M6 m ++ [(i, t)])) (s - 1)) := by rw [Hid, HFIN.out, hm]
  clear hm hM6 t6 o6 x6 hbB
  have w1 : IntKind.i64.wrap (((m + 1 : Nat) : Int) - 1) = (m : Int) := by rw [IntWalk.i64_in _ (by omega)]; omega
  have w2 : IntKind.i64.wrap ((m : Int) + 1 - 1) = (m : Int) := by rw [IntWalk.i64_in _ (by omega)]; omega
  have w3 : IntKind.i64.wrap (m : Int) = (m : Int) := IntWalk.i64_in _ (by omega)
  have HTT : Hid (TRow w6.drew T s (.slice (some ⟨g, 0, none⟩) (m + 1) c) (m + 1) V6 M6 s) := H6.out
  obtain ⟨⟨_, c1, _⟩, _, _, _⟩ := H6.out
  go_still_tail 11, (by kernel_rfl)
  change wpList _ _ _ _ _ w6.drew
  obtain ⟨wd, hwd⟩ : ∃ wd, w6.drew = wd := ⟨_, rfl⟩
  rw [hwd] at HTT ⊢
  have OD : Hid (Only w6 wd (inT T v0 N0 V0)) := Only.new (hwd ▸ ⟨rfl, rfl, rfl, Nat.le_refl _, fun _ _ => rfl⟩)
  have zd : w6.heap.size ≤ wd.heap.size := OD.out.size
  have HWD := Lib.hid hwd
  clear hwd c1 b0 b1
  obtain ⟨_, _, hm2, hl2⟩ := HTT.out
  have HM2 := Lib.hid hm2
  clear hm2
  go_wp2_with (go_at_call 38; refine (put_any wd (T + 1) g c (m + 1) V6 M6 HM2.out (by omega) m (by omega) i t HLM.out).mono ?_; rintro e w4 ⟨x, rfl, m4, o4, x4⟩)
  obtain ⟨⟨a0, a1, a2⟩, ⟨a3, a4, a5⟩, _, _⟩ := HTT.out
  have hbT : w4.heap[T]? = wd.heap[T]? := o4.block T hl2 (fun e => by have := (HM2.out.lt e).1; omega)
  have d0 : w4.cell? ⟨T, 0, none⟩ = some (.int .i64 s) := (World.cell?_of_block (a := ⟨T, 0, none⟩) hbT).trans a0
  have d1 : w4.cell? ⟨T, 1, none⟩ = some (.slice (some ⟨g, 0, none⟩) (m + 1) c) := (World.cell?_of_block (a := ⟨T, 1, none⟩) hbT).trans a1
  have d2 : w4.cell? ⟨T, 2, none⟩ = some (.int .i64 s) := (World.cell?_of_block (a := ⟨T, 2, none⟩) hbT).trans a2
  have g0 : w4.frozen? ⟨T, 0, none⟩ = false := (World.frozen?_of_block (a := ⟨T, 0, none⟩) hbT).trans a3
  have g1 : w4.frozen? ⟨T, 1, none⟩ = false := (World.frozen?_of_block (a := ⟨T, 1, none⟩) hbT).trans a4
  have g2 : w4.frozen? ⟨T, 2, none⟩ = false := (World.frozen?_of_block (a := ⟨T, 2, none⟩) hbT).trans a5
  clear a0 a1 a2 a3 a4 a5 hbT
  have hl4 : T < w4.heap.size := World.block_lt_of_cell? _ _ d2
  have rm : IntKind.i64.wrap (s - 1) = s - 1 := IntWalk.i64_in _ (by omega)
  have M4 := Lib.hid m4
  have O4 := Lib.hid o4
  have X4 := Lib.hid x4
  have HD0 := Lib.hid d0
  have HD1 := Lib.hid d1
  have HD2 := Lib.hid d2
  have A1 : Only w wd (inT T v0 N0 V0) := OA.out.trans OD.out (fun _ _ h => h)
  have A2 : Hid (Only w w4 (inT T v0 N0 V0)) := A1.trans (T := inM (.slice (some ⟨g, 0, none⟩) (m + 1) c) (m + 1) V6) O4.out (fun k hk h => by
    rcases HG.out k h with h | h
    · exact Or.inr h
    · omega)
  have HG2 : Hid (∀ k, inM (.slice (some ⟨g, 0, none⟩) (m + 1) c) (m + 1) (upd V6 m x) k → inM v0 N0 V0 k ∨ w.heap.size ≤ k) := fun k hk => by
    rcases inM_put (H := wd.heap.size) (show m < m + 1 by omega) X4.out hk with h | h
    · exact HG.out k h
    · have := OA.out.size; exact Or.inr (by omega)
  clear A1
  have HF0 := Lib.hid g0
  have HF1 := Lib.hid g1
  have HF2 := Lib.hid g2
  clear m4 o4 x4
  go_wp2
  go_region_with (go_at_call 70; refine (takes_letter _ _ _ _).mono ?_; rintro e w5 ⟨rfl, k5⟩; have kk : Below w4.heap.size w4 w5 := (by first | exact k5 | exact sstep (by go_grown) k5); have s2 : w5.cell? ⟨T, 2, none⟩ = some (.int .i64 s) := (kk.cell (p := ⟨T, 2, none⟩) hl4).trans d2; have s3 : w5.frozen? ⟨T, 2, none⟩ = false := (kk.frozen (p := ⟨T, 2, none⟩) hl4).trans g2; have KK := Lib.hid kk; clear k5 kk)
  all_goals
    clear s2 s3
    go_wp2
    rw [rounds_succ]
    go_wp2
    go_returns
    try rw [HRWD.out]
    exact row_done A2.out M4.out HD0.out HD1.out HD2.out HF0.out HF1.out HF2.out KK.out HG2.out _

end Go.Proofs.Ytobmenbhbeflhaa
