/-
  A row of trays that are filled one after the other: what makeRoom leaves.
-/
import Derived.Test.YtihbpalhbbingaaFillM
import Derived.Test.YtihbpalhbbingaaPut2
import Derived.Test.YtihbpalhbbingaaTryA
import Derived.StillTailTactics
import Derived.Test.YtihbpalhbbingaaFill2
namespace Go.Proofs.Ytihbpalhbbingaa
open Go.RowKit
set_option linter.unusedVariables false

/-- A row of trays in block T: its size, its trays, the room in the last one. -/
def TRow (w : World) (T : Nat) (s : Int) (v : Value) (N : Nat) (V : Nat → Value) (MM : Nat → List (Int × ByteArray)) (room : Int) : Prop :=
  (w.cell? ⟨T, 0, none⟩ = some (.int .i64 s) ∧ w.cell? ⟨T, 1, none⟩ = some v ∧ w.cell? ⟨T, 2, none⟩ = some (.int .i64 room)) ∧
  (w.frozen? ⟨T, 0, none⟩ = false ∧ w.frozen? ⟨T, 1, none⟩ = false ∧ w.frozen? ⟨T, 2, none⟩ = false) ∧ Mat w (T + 1) v N V MM ∧ T < w.heap.size
/-- The blocks of such a row. -/
def inT (T : Nat) (v : Value) (N : Nat) (V : Nat → Value) (k : Nat) : Prop := k = T ∨ inM v N V k
theorem TRow.below {w w' : World} {T N : Nat} {s room : Int} {v : Value} {V : Nat → Value} {MM : Nat → List (Int × ByteArray)} (h : TRow w T s v N V MM room) (hb : Below w.heap.size w w') : TRow w' T s v N V MM room := by
  obtain ⟨⟨a, b, c⟩, ⟨d, e, f⟩, m, l⟩ := h
  refine ⟨⟨(hb.cell (p := ⟨T, 0, none⟩) l).trans a, (hb.cell (p := ⟨T, 1, none⟩) l).trans b, (hb.cell (p := ⟨T, 2, none⟩) l).trans c⟩, ⟨(hb.frozen (p := ⟨T, 0, none⟩) l).trans d, (hb.frozen (p := ⟨T, 1, none⟩) l).trans e, (hb.frozen (p := ⟨T, 2, none⟩) l).trans f⟩, m.on hb, Nat.lt_of_lt_of_le l hb.size⟩
/-- From w to w' only the blocks of the row have turned, and there may be new ones; the row is one at w'. -/
def Rowed (w : World) (T : Nat) (s : Int) (v : Value) (N : Nat) (V : Nat → Value) (N' : Nat) (MM' : Nat → List (Int × ByteArray)) (room' : Int) (e : Ending) (w' : World) : Prop :=
  ∃ g c V', e = .returned (.tuple #[]) ∧ TRow w' T s (.slice (some ⟨g, 0, none⟩) N' c) N' V' MM' room' ∧ Only w w' (inT T v N V) ∧ (∀ k, inM (.slice (some ⟨g, 0, none⟩) N' c) N' V' k → inM v N V k ∨ w.heap.size ≤ k)

set_option maxHeartbeats 1000000 in
theorem makeRoom_some (w : World) (T : Nat) (s : Int) (v : Value) (N : Nat) (V : Nat → Value) (MM : Nat → List (Int × ByteArray)) (room : Int) (h : TRow w T s v N V MM room) (hr : room ≠ 0) :
    Calls Try.prog 67 #[.pointer (some ⟨T, 0, none⟩)] w fun e w' => e = .returned (.tuple #[]) ∧ w = w' := by
  obtain ⟨⟨c0, c1, c2⟩, _, _, _⟩ := h
  have q : (room == 0) = false := by rw [beq_eq_false_iff_ne]; exact hr
  clear hr
  go_enter Try.func67, Try.ntmps67
  go_wp2
  go_returns
  exact ⟨rfl, rfl⟩

set_option maxHeartbeats 1000000 in
theorem makeRoom_none (w : World) (T : Nat) (s : Int) (v : Value) (N : Nat) (V : Nat → Value) (MM : Nat → List (Int × ByteArray)) (h : TRow w T s v N V MM 0) (hN : N ≤ 1000) :
    Calls Try.prog 67 #[.pointer (some ⟨T, 0, none⟩)] w (Rowed w T s v N V (N + 1) (upd MM N []) s) := by
  have HT := Lib.hid h
  obtain ⟨⟨c0, c1, c2⟩, ⟨f0, f1, f2⟩, hm, hl⟩ := h
  have hm' := Lib.hid hm
  clear hm
  obtain ⟨i0, hi, hz0, hz1, hz3⟩ := info_parts info_row
  go_enter Try.func67, Try.ntmps67
  go_wp2_with (at_builtin; refine wpList_append_own_at _ rfl _ _ 71 rfl (T + 1) 25 i0 _ 1 24 Try.underlying71 hi hz0 hz1 hz3 rfl (by decide) v N (vcells V N) rfl (World.ownsRow.alloc hm'.out.1 _) ⟨w.heap.size, 0, none⟩ 1 1 [.slice none 0 0] rfl rfl (by intro j u hu; match j, hu with | 0, hu => (simp at hu; subst hu; simp [Addr.add])) (by intro u hu; simp at hu; subst hu; rfl) (by unfold maxLen; omega) (by omega) (by simp; omega) ?_)
  intro v2 w4 r2 gr2 hnn ho2
  have o34 : Only w w4 (fun q => v.ownBlock = some q) := (Only.new (S := fun q => v.ownBlock = some q) (below_alloc0 w _)).trans ((Only.of_grown gr2).mono (T := fun q => v.ownBlock = some q) (fun x _ e => e.symm)) (fun _ _ h => h)
  have P4 := hm'.out.push (Row.nil w (T + 1)) (Only.refl _ _) (fun k e => by cases e) r2 o34
  have hbT : w4.heap[T]? = w.heap[T]? := o34.block T hl (fun e => by have := (hm'.out.lt (Or.inl e)).1; omega)
  have d0 : w4.cell? ⟨T, 0, none⟩ = some (.int .i64 s) := (World.cell?_of_block (a := ⟨T, 0, none⟩) hbT).trans c0
  have d1 : w4.cell? ⟨T, 1, none⟩ = some v := (World.cell?_of_block (a := ⟨T, 1, none⟩) hbT).trans c1
  have d2 : w4.cell? ⟨T, 2, none⟩ = some (.int .i64 0) := (World.cell?_of_block (a := ⟨T, 2, none⟩) hbT).trans c2
  have g0 : w4.frozen? ⟨T, 0, none⟩ = false := (World.frozen?_of_block (a := ⟨T, 0, none⟩) hbT).trans f0
  have g1 : w4.frozen? ⟨T, 1, none⟩ = false := (World.frozen?_of_block (a := ⟨T, 1, none⟩) hbT).trans f1
  have g2 : w4.frozen? ⟨T, 2, none⟩ = false := (World.frozen?_of_block (a := ⟨T, 2, none⟩) hbT).trans f2
  rcases P4.form with ⟨_, e0⟩ | ⟨g9, e9, rfl, _, _, _⟩
  · exact absurd e0 (by omega)
  have P5 := Lib.hid P4
  have O34 := Lib.hid o34
  have z4 := o34.size
  have HX : Hid (∀ k, inM (.slice (some ⟨g9, 0, none⟩) (N + 1) e9) (N + 1) (upd V N (.slice none 0 0)) k → inM v N V k ∨ w.heap.size ≤ k) := fun k hk => by
    rcases hk with hk | ⟨i, hi, hk⟩
    · rcases ho2 with h | h
      · exact Or.inl (Or.inl (h ▸ hk))
      · have := h.symm.trans hk
        injection this with this
        exact Or.inr (by rw [← this]; simp)
    · by_cases e : i = N
      · subst e; rw [upd_same] at hk; cases hk
      · rw [upd_other _ _ e] at hk; exact Or.inl (Or.inr ⟨i, by omega, hk⟩)
  clear P4 o34 hbT r2 gr2 hnn ho2 c0 c1 c2 f0 f1 f2
  go_wp2
  go_returns
  have hnT : ∀ k, inM (.slice (some ⟨g9, 0, none⟩) (N + 1) e9) (N + 1) (upd V N (.slice none 0 0)) k → ¬ k = T := fun k hk e => by have := (P5.out.lt hk).1; omega
  refine ⟨g9, e9, _, rfl, ⟨⟨by go_simp, by go_simp, by go_simp⟩, ⟨by go_simp, by go_simp, by go_simp⟩, ?_, by simp; omega⟩, ?_, HX.out⟩
  · exact (P5.out.only (Only.set w4 ⟨T, 1, none⟩ _ (S := fun k => k = T) rfl) hnT).only (Only.set _ ⟨T, 2, none⟩ _ (S := fun k => k = T) rfl) hnT
  · exact ((O34.out.mono (T := inT T v N V) (fun x _ e => Or.inr (Or.inl e))).trans (Only.set w4 ⟨T, 1, none⟩ _ (S := inT T v N V) (Or.inl rfl)) (fun _ _ h => h)).trans (Only.set _ ⟨T, 2, none⟩ _ (S := inT T v N V) (Or.inl rfl)) (fun _ _ h => h)
end Go.Proofs.Ytihbpalhbbingaa

/-
  A row of trays that are filled one after the other: what put leaves.
-/
namespace Go.Proofs.Ytihbpalhbbingaa
open Go.RowKit
set_option linter.unusedVariables false

theorem as_letter (i : Int) (t : ByteArray) (w : World) : (Instr.typeAssert (.iface 50 (.agg #[.int .i64 i, .string t])) 84 50 true).run Try.prog w = .ok (.tuple #[.agg #[.int .i64 i, .string t], .bool true]) w := by kernel_rfl
theorem as_other (w : World) : (Instr.typeAssert (.iface 76 (.agg #[])) 84 50 true).run Try.prog w = .ok (.tuple #[.agg #[.int .i64 0, .string ⟨#[]⟩], .bool false]) w := by kernel_rfl
theorem as_divider (w : World) : (Instr.typeAssert (.iface 76 (.agg #[])) 84 76 true).run Try.prog w = .ok (.tuple #[.agg #[], .bool true]) w := by kernel_rfl

set_option maxHeartbeats 400000 in
theorem takes_letter (w : World) (i : Int) (t : ByteArray) (r : Int) :
    Calls Try.prog 87 #[.agg #[.int .i64 i, .string t], .int .i64 r] w fun e w' => e = .returned (.int .i64 1) ∧ Below w.heap.size w w' := by
  go_enter Try.func87, Try.ntmps87
  go_wp2
  go_ret
  exact ⟨rfl, by go_grown⟩
set_option maxHeartbeats 400000 in
theorem takes_divider (w : World) (r : Int) :
    Calls Try.prog 88 #[.agg #[], .int .i64 r] w fun e w' => e = .returned (.int .i64 r) ∧ Below w.heap.size w w' := by
  go_enter Try.func88, Try.ntmps88
  go_wp2
  go_ret
  exact ⟨rfl, by go_grown⟩
theorem ahead_letter (i : Int) (t : ByteArray) (w : World) : (nilAhead 207 50 (.agg #[.int .i64 i, .string t]) "loop.example/sortingoffice/impl.takes").run Try.prog w = .ok (some false) w := by kernel_rfl
theorem method_letter (i : Int) (t : ByteArray) (w : World) : (method 207 50 (.agg #[.int .i64 i, .string t]) "loop.example/sortingoffice/impl.takes").run Try.prog w = .ok (87, .agg #[.int .i64 i, .string t]) w := by kernel_rfl
theorem ahead_divider (w : World) : (nilAhead 207 76 (.agg #[]) "loop.example/sortingoffice/impl.takes").run Try.prog w = .ok (some false) w := by kernel_rfl
theorem method_divider (w : World) : (method 207 76 (.agg #[]) "loop.example/sortingoffice/impl.takes").run Try.prog w = .ok (88, .agg #[]) w := by kernel_rfl
/-- What is left when the room has been told. -/
theorem row_done {w w4 w5 : World} {T N0 m g c : Nat} {s r0 : Int} {v0 : Value} {V0 V : Nat → Value} {MM : Nat → List (Int × ByteArray)} (hA : Only w w4 (inT T v0 N0 V0)) (hM : Mat w4 (T + 1) (.slice (some ⟨g, 0, none⟩) (m + 1) c) (m + 1) V MM)
    (d0 : w4.cell? ⟨T, 0, none⟩ = some (.int .i64 s)) (d1 : w4.cell? ⟨T, 1, none⟩ = some (.slice (some ⟨g, 0, none⟩) (m + 1) c)) (d2 : w4.cell? ⟨T, 2, none⟩ = some (.int .i64 r0))
    (f0 : w4.frozen? ⟨T, 0, none⟩ = false) (f1 : w4.frozen? ⟨T, 1, none⟩ = false) (f2 : w4.frozen? ⟨T, 2, none⟩ = false) (hK : Below w4.heap.size w4 w5)
    (hG : ∀ k, inM (.slice (some ⟨g, 0, none⟩) (m + 1) c) (m + 1) V k → inM v0 N0 V0 k ∨ w.heap.size ≤ k) (r : Int) : Rowed w T s v0 N0 V0 (m + 1) MM r (.returned (.tuple #[])) (w5.setCell ⟨T, 2, none⟩ (.int .i64 r)) := by
  have hl4 : T < w4.heap.size := World.block_lt_of_cell? _ _ d2
  have hnT : ∀ k, inM (.slice (some ⟨g, 0, none⟩) (m + 1) c) (m + 1) V k → ¬ k = T := fun k hk e => by have := (hM.lt hk).1; omega
  have e0 := (hK.cell (p := ⟨T, 0, none⟩) hl4).trans d0
  have e1 := (hK.cell (p := ⟨T, 1, none⟩) hl4).trans d1
  have e2 := (hK.cell (p := ⟨T, 2, none⟩) hl4).trans d2
  have k0 := (hK.frozen (p := ⟨T, 0, none⟩) hl4).trans f0
  have k1 := (hK.frozen (p := ⟨T, 1, none⟩) hl4).trans f1
  have k2 := (hK.frozen (p := ⟨T, 2, none⟩) hl4).trans f2
  have hz := hK.size
  refine ⟨g, c, V, rfl, ⟨⟨by go_simp, by go_simp, by go_simp⟩, ⟨by go_simp, by go_simp, by go_simp⟩, ?_, by simp; omega⟩, ?_, hG⟩
  · exact (hM.on hK).only (Only.set _ ⟨T, 2, none⟩ _ (S := fun k => k = T) rfl) hnT
  · have A3 : Only w w5 (inT T v0 N0 V0) := hA.trans (Only.new (S := inT T v0 N0 V0) hK) (fun _ _ h => h)
    exact A3.trans (Only.set w5 ⟨T, 2, none⟩ _ (S := inT T v0 N0 V0) (Or.inl rfl)) (fun _ _ h => h)
set_option maxHeartbeats 4000000 in
theorem put_room (w : World) (T : Nat) (s : Int) (g c m : Nat) (V : Nat → Value) (MM : Nat → List (Int × ByteArray)) (room : Int) (h : TRow w T s (.slice (some ⟨g, 0, none⟩) (m + 1) c) (m + 1) V MM room) (hr : 1 ≤ room ∧ room ≤ 20) (hm : m ≤ 100) (hl : (MM m).length ≤ 1048576) (X c' : Nat) (i : Int) (t : ByteArray) (hX : w.cell? ⟨X, 0, none⟩ = some (.iface 50 (.agg #[.int .i64 i, .string t]))) :
    Calls Try.prog 61 #[.pointer (some ⟨T, 0, none⟩), .slice (some ⟨X, 0, none⟩) 1 c'] w (Rowed w T s (.slice (some ⟨g, 0, none⟩) (m + 1) c) (m + 1) V (m + 1) (upd MM m (MM m ++ [(i, t)])) (room - 1)) := by
  have HLM := Lib.hid hl
  clear hl
  have qA := as_letter
  have qB := as_other
  have qC := as_divider
  have qN := ahead_letter
  have qM := method_letter
  have qO := ahead_divider
  have qP := method_divider
  go_enter Try.func61, Try.ntmps61
  go_wp2
  refine wp_loop_rounds 2 ?_
  rw [rounds_succ]
  obtain ⟨W1, hW1⟩ : ∃ W1, w.alloc (.cells #[.int .i64 i, .string t] 50) = W1 := ⟨_, rfl⟩
  have k1 : Below w.heap.size w W1 := by rw [← hW1]; exact below_alloc0 w _
  have zb : w.heap.size < W1.heap.size := by rw [← hW1]; simp
  have b0' : W1.cell? ⟨w.heap.size, 0, none⟩ = some (.int .i64 i) := by rw [← hW1]; simp
  have b1' : W1.cell? ⟨w.heap.size, 1, none⟩ = some (.string t) := by rw [← hW1]; simp
  have HB0 := Lib.hid b0'
  have HB1 := Lib.hid b1'
  have H1 := Lib.hid (h.below k1)
  have HW1 := Lib.hid hW1
  obtain ⟨v0, hv0⟩ : ∃ v0, Value.slice (some ⟨g, 0, none⟩) (m + 1) c = v0 := ⟨_, rfl⟩
  obtain ⟨N0, hN0⟩ : ∃ N0, m + 1 = N0 := ⟨_, rfl⟩
  obtain ⟨V0, hV0⟩ : ∃ V0, V = V0 := ⟨_, rfl⟩
  have OA : Hid (Only w W1 (inT T v0 N0 V0)) := Only.new k1
  have HG : Hid (∀ k, inM (.slice (some ⟨g, 0, none⟩) (m + 1) c) (m + 1) V k → inM v0 N0 V0 k ∨ w.heap.size ≤ k) := fun k hk => Or.inl (by rw [← hv0, ← hN0, ← hV0]; exact hk)
  have HV0 : Hid (Rowed w T s (.slice (some ⟨g, 0, none⟩) (m + 1) c) (m + 1) V = Rowed w T s v0 N0 V0) := by rw [Hid, hv0, hN0, hV0]
  rw [HV0.out]
  clear h hW1 k1 hv0 hN0 hV0 b0' b1'
  go_wp2_with (go_at_call 67; rw [HW1.out]; refine (makeRoom_some W1 T s _ _ _ _ room H1.out (by omega)).mono ?_; rintro e w2 ⟨rfl, rfl⟩)
  have b0 := HB0.out
  have b1 := HB1.out
  have w1 : IntKind.i64.wrap (((m + 1 : Nat) : Int) - 1) = (m : Int) := by rw [IntWalk.i64_in _ (by omega)]; omega
  have w2 : IntKind.i64.wrap ((m : Int) + 1 - 1) = (m : Int) := by rw [IntWalk.i64_in _ (by omega)]; omega
  have w3 : IntKind.i64.wrap (m : Int) = (m : Int) := IntWalk.i64_in _ (by omega)
  have HTT : Hid (TRow W1.drew T s (.slice (some ⟨g, 0, none⟩) (m + 1) c) (m + 1) V MM room) := H1.out
  obtain ⟨⟨_, c1, _⟩, _, _, _⟩ := H1.out
  go_still_tail 11, (by kernel_rfl)
  change wpList _ _ _ _ _ W1.drew
  obtain ⟨wd, hwd⟩ : ∃ wd, W1.drew = wd := ⟨_, rfl⟩
  rw [hwd] at HTT ⊢
  have OD : Hid (Only W1 wd (inT T v0 N0 V0)) := Only.new (hwd ▸ ⟨rfl, rfl, rfl, Nat.le_refl _, fun _ _ => rfl⟩)
  have zd : W1.heap.size ≤ wd.heap.size := OD.out.size
  have HWD := Lib.hid hwd
  clear hwd c1 b0 b1
  obtain ⟨_, _, hm2, hl2⟩ := HTT.out
  have HM2 := Lib.hid hm2
  clear hm2
  go_wp2_with (go_at_call 68; refine (put_any wd (T + 1) g c (m + 1) V MM HM2.out (by omega) m (by omega) i t HLM.out).mono ?_; rintro e w4 ⟨x, rfl, m4, o4, x4⟩)
  obtain ⟨⟨a0, a1, a2⟩, ⟨a3, a4, a5⟩, _, _⟩ := HTT.out
  have hbT : w4.heap[T]? = wd.heap[T]? := o4.block T hl2 (fun e => by have := (HM2.out.lt e).1; omega)
  have d0 : w4.cell? ⟨T, 0, none⟩ = some (.int .i64 s) := (World.cell?_of_block (a := ⟨T, 0, none⟩) hbT).trans a0
  have d1 : w4.cell? ⟨T, 1, none⟩ = some (.slice (some ⟨g, 0, none⟩) (m + 1) c) := (World.cell?_of_block (a := ⟨T, 1, none⟩) hbT).trans a1
  have d2 : w4.cell? ⟨T, 2, none⟩ = some (.int .i64 room) := (World.cell?_of_block (a := ⟨T, 2, none⟩) hbT).trans a2
  have g0 : w4.frozen? ⟨T, 0, none⟩ = false := (World.frozen?_of_block (a := ⟨T, 0, none⟩) hbT).trans a3
  have g1 : w4.frozen? ⟨T, 1, none⟩ = false := (World.frozen?_of_block (a := ⟨T, 1, none⟩) hbT).trans a4
  have g2 : w4.frozen? ⟨T, 2, none⟩ = false := (World.frozen?_of_block (a := ⟨T, 2, none⟩) hbT).trans a5
  clear a0 a1 a2 a3 a4 a5 hbT
  have hl4 : T < w4.heap.size := World.block_lt_of_cell? _ _ d2
  have rm : IntKind.i64.wrap (room - 1) = room - 1 := IntWalk.i64_in _ (by omega)
  have M4 := Lib.hid m4
  have O4 := Lib.hid o4
  have X4 := Lib.hid x4
  have HD0 := Lib.hid d0
  have HD1 := Lib.hid d1
  have HD2 := Lib.hid d2
  have A1 : Only w wd (inT T v0 N0 V0) := OA.out.trans OD.out (fun _ _ h => h)
  have A2 : Hid (Only w w4 (inT T v0 N0 V0)) := A1.trans (T := inM (.slice (some ⟨g, 0, none⟩) (m + 1) c) (m + 1) V) O4.out (fun k hk h => by
    rcases HG.out k h with h | h
    · exact Or.inr h
    · omega)
  have HG2 : Hid (∀ k, inM (.slice (some ⟨g, 0, none⟩) (m + 1) c) (m + 1) (upd V m x) k → inM v0 N0 V0 k ∨ w.heap.size ≤ k) := fun k hk => by
    rcases inM_put (H := wd.heap.size) (show m < m + 1 by omega) X4.out hk with h | h
    · exact HG.out k h
    · have := OA.out.size; exact Or.inr (by omega)
  clear A1
  have HF0 := Lib.hid g0
  have HF1 := Lib.hid g1
  have HF2 := Lib.hid g2
  clear m4 o4 x4
  go_wp2
  go_region_with (go_at_call 87; refine (takes_letter _ _ _ _).mono ?_; rintro e w5 ⟨rfl, k5⟩; have kk : Below w4.heap.size w4 w5 := (by first | exact k5 | exact sstep (by go_grown) k5); have s2 : w5.cell? ⟨T, 2, none⟩ = some (.int .i64 room) := (kk.cell (p := ⟨T, 2, none⟩) hl4).trans d2; have s3 : w5.frozen? ⟨T, 2, none⟩ = false := (kk.frozen (p := ⟨T, 2, none⟩) hl4).trans g2; have KK := Lib.hid kk; clear k5 kk)
  all_goals
    clear s2 s3
    go_wp2
    rw [rounds_succ]
    go_wp2
    go_returns
    try rw [HRWD.out]
    exact row_done A2.out M4.out HD0.out HD1.out HD2.out HF0.out HF1.out HF2.out KK.out HG2.out _

set_option maxHeartbeats 4000000 in
theorem put_none (w : World) (T : Nat) (s : Int) (v0 : Value) (N0 : Nat) (V0 : Nat → Value) (MM : Nat → List (Int × ByteArray)) (h : TRow w T s v0 N0 V0 MM 0) (hs : 1 ≤ s ∧ s ≤ 20) (hn : N0 ≤ 100) (X c' : Nat) (i : Int) (t : ByteArray) (hX : w.cell? ⟨X, 0, none⟩ = some (.iface 50 (.agg #[.int .i64 i, .string t]))) :
    Calls Try.prog 61 #[.pointer (some ⟨T, 0, none⟩), .slice (some ⟨X, 0, none⟩) 1 c'] w (Rowed w T s v0 N0 V0 (N0 + 1) (upd MM N0 [(i, t)]) (s - 1)) := by
  have HRW := Lib.hid h
  have OW : Hid (Only w w (inT T v0 N0 V0)) := Only.refl _ _
  clear h
  have qA := as_letter
  have qB := as_other
  have qC := as_divider
  have qN := ahead_letter
  have qM := method_letter
  have qO := ahead_divider
  have qP := method_divider
  go_enter Try.func61, Try.ntmps61
  go_wp2
  refine wp_loop_rounds 2 ?_
  rw [rounds_succ]
  obtain ⟨W1, hW1⟩ : ∃ W1, w.alloc (.cells #[.int .i64 i, .string t] 50) = W1 := ⟨_, rfl⟩
  have k1 : Below w.heap.size w W1 := by rw [← hW1]; exact below_alloc0 w _
  have zb : w.heap.size < W1.heap.size := by rw [← hW1]; simp
  have b0' : W1.cell? ⟨w.heap.size, 0, none⟩ = some (.int .i64 i) := by rw [← hW1]; simp
  have b1' : W1.cell? ⟨w.heap.size, 1, none⟩ = some (.string t) := by rw [← hW1]; simp
  have HB0 := Lib.hid b0'
  have HB1 := Lib.hid b1'
  have H1 := Lib.hid (HRW.out.below k1)
  have HW1 := Lib.hid hW1
  have OA1 : Hid (Only w W1 (inT T v0 N0 V0)) := OW.out.trans (Only.new k1) (fun _ _ h => h)
  have zw := OW.out.size
  clear hW1 k1 b0' b1'
  go_wp2_with (go_at_call 67; rw [HW1.out]; refine (makeRoom_none W1 T s v0 N0 V0 MM H1.out (by omega)).mono ?_; rintro e w6 ⟨g, c, V6, rfl, t6, o6, x6⟩)
  obtain ⟨m, hm⟩ : ∃ m, N0 = m := ⟨_, rfl⟩
  have HN0 := Lib.hid hm
  obtain ⟨M6, hM6⟩ : ∃ M6, upd MM N0 [] = M6 := ⟨_, rfl⟩
  have HM6 := Lib.hid hM6
  rw [hM6] at t6
  rw [hm] at t6 x6
  have H6 := Lib.hid t6
  have OA : Hid (Only w w6 (inT T v0 N0 V0)) := OA1.out.trans o6 (fun _ _ h => h)
  have HG : Hid (∀ k, inM (.slice (some ⟨g, 0, none⟩) (m + 1) c) (m + 1) V6 k → inM v0 N0 V0 k ∨ w.heap.size ≤ k) := fun k hk => by
    rcases x6 k hk with h | h
    · exact Or.inl (by rw [hm]; exact h)
    · exact Or.inr (by omega)
  have HLM : Hid ((M6 m).length ≤ 1048576) := by rw [Hid, ← hM6, hm, upd_same]; exact Nat.zero_le _
  have HFIN : Hid (upd MM N0 [(i, t)] = upd M6 m (M6 m ++ [(i, t)])) := by
    rw [Hid, ← hM6, hm, upd_same]
    funext j
    unfold upd
    by_cases e : j = m
    · rw [if_pos e, if_pos e]; rfl
    · rw [if_neg e, if_neg e, if_neg e]
  have hbB : w6.heap[w.heap.size]? = W1.heap[w.heap.size]? := o6.block _ zb (fun e => by
    rcases e with e | e
    · have := HRW.out.2.2.2; omega
    · have := (HRW.out.2.2.1.lt e).2; omega)
  have b0 : w6.cell? ⟨w.heap.size, 0, none⟩ = some (.int .i64 i) := (World.cell?_of_block (a := ⟨w.heap.size, 0, none⟩) hbB).trans HB0.out
  have b1 : w6.cell? ⟨w.heap.size, 1, none⟩ = some (.string t) := (World.cell?_of_block (a := ⟨w.heap.size, 1, none⟩) hbB).trans HB1.out
  have hm1 : m ≤ 100 := by omega
  have HRWD : Hid (Rowed w T s v0 N0 V0 (N0 + 1) (upd MM N0 [(i, t)]) (s - 1) = Rowed w T s v0 N0 V0 (m + 1) (upd M6 m (M6 m ++ [(i, t)])) (s - 1)) := by rw [Hid, HFIN.out, hm]
  clear hm hM6 t6 o6 x6 hbB
  have w1 : IntKind.i64.wrap (((m + 1 : Nat) : Int) - 1) = (m : Int) := by rw [IntWalk.i64_in _ (by omega)]; omega
  have w2 : IntKind.i64.wrap ((m : Int) + 1 - 1) = (m : Int) := by rw [IntWalk.i64_in _ (by omega)]; omega
  have w3 : IntKind.i64.wrap (m : Int) = (m : Int) := IntWalk.i64_in _ (by omega)
  have HTT : Hid (TRow w6.drew T s (.slice (some ⟨g, 0, none⟩) (m + 1) c) (m + 1) V6 M6 s) := H6.out
  obtain ⟨⟨_, c1, _⟩, _, _, _⟩ := H6.out
  go_still_tail 11, (by kernel_rfl)
  change wpList _ _ _ _ _ w6.drew
  obtain ⟨wd, hwd⟩ : ∃ wd, w6.drew = wd := ⟨_, rfl⟩
  rw [hwd] at HTT ⊢
  have OD : Hid (Only w6 wd (inT T v0 N0 V0)) := Only.new (hwd ▸ ⟨rfl, rfl, rfl, Nat.le_refl _, fun _ _ => rfl⟩)
  have zd : w6.heap.size ≤ wd.heap.size := OD.out.size
  have HWD := Lib.hid hwd
  clear hwd c1 b0 b1
  obtain ⟨_, _, hm2, hl2⟩ := HTT.out
  have HM2 := Lib.hid hm2
  clear hm2
  go_wp2_with (go_at_call 68; refine (put_any wd (T + 1) g c (m + 1) V6 M6 HM2.out (by omega) m (by omega) i t HLM.out).mono ?_; rintro e w4 ⟨x, rfl, m4, o4, x4⟩)
  obtain ⟨⟨a0, a1, a2⟩, ⟨a3, a4, a5⟩, _, _⟩ := HTT.out
  have hbT : w4.heap[T]? = wd.heap[T]? := o4.block T hl2 (fun e => by have := (HM2.out.lt e).1; omega)
  have d0 : w4.cell? ⟨T, 0, none⟩ = some (.int .i64 s) := (World.cell?_of_block (a := ⟨T, 0, none⟩) hbT).trans a0
  have d1 : w4.cell? ⟨T, 1, none⟩ = some (.slice (some ⟨g, 0, none⟩) (m + 1) c) := (World.cell?_of_block (a := ⟨T, 1, none⟩) hbT).trans a1
  have d2 : w4.cell? ⟨T, 2, none⟩ = some (.int .i64 s) := (World.cell?_of_block (a := ⟨T, 2, none⟩) hbT).trans a2
  have g0 : w4.frozen? ⟨T, 0, none⟩ = false := (World.frozen?_of_block (a := ⟨T, 0, none⟩) hbT).trans a3
  have g1 : w4.frozen? ⟨T, 1, none⟩ = false := (World.frozen?_of_block (a := ⟨T, 1, none⟩) hbT).trans a4
  have g2 : w4.frozen? ⟨T, 2, none⟩ = false := (World.frozen?_of_block (a := ⟨T, 2, none⟩) hbT).trans a5
  clear a0 a1 a2 a3 a4 a5 hbT
  have hl4 : T < w4.heap.size := World.block_lt_of_cell? _ _ d2
  have rm : IntKind.i64.wrap (s - 1) = s - 1 := IntWalk.i64_in _ (by omega)
  have M4 := Lib.hid m4
  have O4 := Lib.hid o4
  have X4 := Lib.hid x4
  have HD0 := Lib.hid d0
  have HD1 := Lib.hid d1
  have HD2 := Lib.hid d2
  have A1 : Only w wd (inT T v0 N0 V0) := OA.out.trans OD.out (fun _ _ h => h)
  have A2 : Hid (Only w w4 (inT T v0 N0 V0)) := A1.trans (T := inM (.slice (some ⟨g, 0, none⟩) (m + 1) c) (m + 1) V6) O4.out (fun k hk h => by
    rcases HG.out k h with h | h
    · exact Or.inr h
    · omega)
  have HG2 : Hid (∀ k, inM (.slice (some ⟨g, 0, none⟩) (m + 1) c) (m + 1) (upd V6 m x) k → inM v0 N0 V0 k ∨ w.heap.size ≤ k) := fun k hk => by
    rcases inM_put (H := wd.heap.size) (show m < m + 1 by omega) X4.out hk with h | h
    · exact HG.out k h
    · have := OA.out.size; exact Or.inr (by omega)
  clear A1
  have HF0 := Lib.hid g0
  have HF1 := Lib.hid g1
  have HF2 := Lib.hid g2
  clear m4 o4 x4
  go_wp2
  go_region_with (go_at_call 87; refine (takes_letter _ _ _ _).mono ?_; rintro e w5 ⟨rfl, k5⟩; have kk : Below w4.heap.size w4 w5 := (by first | exact k5 | exact sstep (by go_grown) k5); have s2 : w5.cell? ⟨T, 2, none⟩ = some (.int .i64 s) := (kk.cell (p := ⟨T, 2, none⟩) hl4).trans d2; have s3 : w5.frozen? ⟨T, 2, none⟩ = false := (kk.frozen (p := ⟨T, 2, none⟩) hl4).trans g2; have KK := Lib.hid kk; clear k5 kk)
  all_goals
    clear s2 s3
    go_wp2
    rw [rounds_succ]
    go_wp2
    go_returns
    try rw [HRWD.out]
    exact row_done A2.out M4.out HD0.out HD1.out HD2.out HF0.out HF1.out HF2.out KK.out HG2.out _

end Go.Proofs.Ytihbpalhbbingaa

/-
  A row of trays that are filled one after the other: what put leaves behind a divider.
-/
namespace Go.Proofs.Ytihbpalhbbingaa
open Go.RowKit
set_option linter.unusedVariables false

theorem row_zero {w w5 : World} {T N0 : Nat} {s r0 : Int} {v0 : Value} {V0 : Nat → Value} {MM : Nat → List (Int × ByteArray)} (d0 : w.cell? ⟨T, 0, none⟩ = some (.int .i64 s)) (d1 : w.cell? ⟨T, 1, none⟩ = some v0) (d2 : w.cell? ⟨T, 2, none⟩ = some (.int .i64 r0))
    (f0 : w.frozen? ⟨T, 0, none⟩ = false) (f1 : w.frozen? ⟨T, 1, none⟩ = false) (f2 : w.frozen? ⟨T, 2, none⟩ = false) (hM : Mat w (T + 1) v0 N0 V0 MM) (hK : Below w.heap.size w w5) : TRow (w5.setCell ⟨T, 2, none⟩ (.int .i64 0)) T s v0 N0 V0 MM 0 := by
  have hl4 : T < w.heap.size := World.block_lt_of_cell? _ _ d2
  have e0 := (hK.cell (p := ⟨T, 0, none⟩) hl4).trans d0
  have e1 := (hK.cell (p := ⟨T, 1, none⟩) hl4).trans d1
  have e2 := (hK.cell (p := ⟨T, 2, none⟩) hl4).trans d2
  have k0 := (hK.frozen (p := ⟨T, 0, none⟩) hl4).trans f0
  have k1 := (hK.frozen (p := ⟨T, 1, none⟩) hl4).trans f1
  have k2 := (hK.frozen (p := ⟨T, 2, none⟩) hl4).trans f2
  have hz := hK.size
  exact ⟨⟨by go_simp, by go_simp, by go_simp⟩, ⟨by go_simp, by go_simp, by go_simp⟩, (hM.on hK).only (Only.set _ ⟨T, 2, none⟩ _ (S := fun k => k = T) rfl) (fun k hk e => by have := (hM.lt hk).1; omega), by simp; omega⟩
set_option maxHeartbeats 4000000 in
theorem put_divided (w : World) (T : Nat) (s : Int) (v0 : Value) (N0 : Nat) (V0 : Nat → Value) (MM : Nat → List (Int × ByteArray)) (room : Int) (h : TRow w T s v0 N0 V0 MM room) (hs : 1 ≤ s ∧ s ≤ 20) (hn : N0 ≤ 100) (X c' : Nat) (i : Int) (t : ByteArray) (hX0 : w.cell? ⟨X, 0, none⟩ = some (.iface 76 (.agg #[]))) (hX : w.cell? ⟨X, 1, none⟩ = some (.iface 50 (.agg #[.int .i64 i, .string t]))) (hXT : X ≠ T) :
    Calls Try.prog 61 #[.pointer (some ⟨T, 0, none⟩), .slice (some ⟨X, 0, none⟩) 2 c'] w (Rowed w T s v0 N0 V0 (N0 + 1) (upd MM N0 [(i, t)]) (s - 1)) := by
  have HRR := Lib.hid h
  obtain ⟨⟨y0, y1, y2⟩, ⟨y3, y4, y5⟩, ymat, ylt⟩ := h
  have HY := Lib.hid ymat
  have lX := World.block_lt_of_cell? _ _ hX
  have rr : IntKind.i64.wrap (room - room) = 0 := by rw [IntWalk.i64_in _ (by omega)]; omega
  clear ymat
  have qA := as_letter
  have qB := as_other
  have qC := as_divider
  have qN := ahead_letter
  have qM := method_letter
  have qO := ahead_divider
  have qP := method_divider
  go_enter Try.func61, Try.ntmps61
  go_wp2
  go_loopw [10] (fun kk wr => ∃ k : Nat, kk = .int .i64 k ∧ ((k = 0 ∧ w = wr) ∨ (k = 1 ∧ Hid (TRow wr T s v0 N0 V0 MM 0) ∧ Hid (Only w wr (fun x => x = T))) ∨ (k = 2 ∧ Hid (Rowed w T s v0 N0 V0 (N0 + 1) (upd MM N0 [(i, t)]) (s - 1) (.returned (.tuple #[])) wr)))) (fun kk _ => 2 - (intOf kk).toNat)
  case atStart => exact ⟨0, rfl, Or.inl ⟨rfl, rfl⟩⟩
  case round =>
    obtain ⟨k, rfl, hk⟩ := hrel
    rcases hk with ⟨rfl, rfl⟩ | ⟨rfl, HRW, OT⟩ | ⟨rfl, HFN⟩
    · obtain ⟨W1, hW1⟩ : ∃ W1, w.alloc (.cells #[] 76) = W1 := ⟨_, rfl⟩
      have k1 : Below w.heap.size w W1 := by rw [← hW1]; exact below_alloc0 w _
      have z2 := (k1.cell (p := ⟨T, 2, none⟩) ylt).trans y2
      have z5 := (k1.frozen (p := ⟨T, 2, none⟩) ylt).trans y5
      have lT1 : T < W1.heap.size := World.block_lt_of_cell? _ _ z2
      have HW1 := Lib.hid hW1
      have HK1 := Lib.hid k1
      have HY0 := Lib.hid y0
      have HY1 := Lib.hid y1
      have HY2 := Lib.hid y2
      have HY3 := Lib.hid y3
      have HY4 := Lib.hid y4
      have HY5 := Lib.hid y5
      clear hW1 k1 y0 y1 y2 y3 y4 y5
      go_wp2
      rw [HW1.out]
      go_region_with (go_at_call 88; refine (takes_divider _ _).mono ?_; rintro e w5 ⟨rfl, k5⟩; have kk : Below W1.heap.size W1 w5 := (by first | exact k5 | exact sstep (by go_grown) k5); have s2 : w5.cell? ⟨T, 2, none⟩ = some (.int .i64 room) := (kk.cell (p := ⟨T, 2, none⟩) lT1).trans z2; have s3 : w5.frozen? ⟨T, 2, none⟩ = false := (kk.frozen (p := ⟨T, 2, none⟩) lT1).trans z5; have KK := Lib.hid kk; clear k5 kk)
      all_goals
        clear s2 s3 z2 z5
        go_wp2
        go_roundw
        case rel => exact ⟨1, by go_num, Or.inr (Or.inl ⟨rfl, row_zero HY0.out HY1.out HY2.out HY3.out HY4.out HY5.out HY.out (sstep HK1.out KK.out), (Only.new (S := fun x => x = T) (sstep HK1.out KK.out)).trans (Only.set w5 ⟨T, 2, none⟩ _ (S := fun x => x = T) rfl) (fun _ _ h => h)⟩)⟩
        case measure => simp [intOf]
    · have OW : Hid (Only w wr (inT T v0 N0 V0)) := OT.out.mono (fun x _ h => Or.inl h)
      have hX := (World.cell?_of_block (a := ⟨X, 1, none⟩) (OT.out.block X lX hXT)).trans hX
      clear hX0
      obtain ⟨W1, hW1⟩ : ∃ W1, wr.alloc (.cells #[.int .i64 i, .string t] 50) = W1 := ⟨_, rfl⟩
      have k1 : Below wr.heap.size wr W1 := by rw [← hW1]; exact below_alloc0 wr _
      have zb : wr.heap.size < W1.heap.size := by rw [← hW1]; simp
      have b0' : W1.cell? ⟨wr.heap.size, 0, none⟩ = some (.int .i64 i) := by rw [← hW1]; simp
      have b1' : W1.cell? ⟨wr.heap.size, 1, none⟩ = some (.string t) := by rw [← hW1]; simp
      have HB0 := Lib.hid b0'
      have HB1 := Lib.hid b1'
      have H1 := Lib.hid (HRW.out.below k1)
      have HW1 := Lib.hid hW1
      have OA1 : Hid (Only w W1 (inT T v0 N0 V0)) := OW.out.trans (Only.new k1) (fun _ _ h => h)
      have zw := OW.out.size
      clear hW1 k1 b0' b1'
      go_wp2_with (go_at_call 67; rw [HW1.out]; refine (makeRoom_none W1 T s v0 N0 V0 MM H1.out (by omega)).mono ?_; rintro e w6 ⟨g, c, V6, rfl, t6, o6, x6⟩)
      obtain ⟨m, hm⟩ : ∃ m, N0 = m := ⟨_, rfl⟩
      have HN0 := Lib.hid hm
      obtain ⟨M6, hM6⟩ : ∃ M6, upd MM N0 [] = M6 := ⟨_, rfl⟩
      have HM6 := Lib.hid hM6
      rw [hM6] at t6
      rw [hm] at t6 x6
      have H6 := Lib.hid t6
      have OA : Hid (Only w w6 (inT T v0 N0 V0)) := OA1.out.trans o6 (fun _ _ h => h)
      have HG : Hid (∀ k, inM (.slice (some ⟨g, 0, none⟩) (m + 1) c) (m + 1) V6 k → inM v0 N0 V0 k ∨ w.heap.size ≤ k) := fun k hk => by
        rcases x6 k hk with h | h
        · exact Or.inl (by rw [hm]; exact h)
        · exact Or.inr (by omega)
      have HLM : Hid ((M6 m).length ≤ 1048576) := by rw [Hid, ← hM6, hm, upd_same]; exact Nat.zero_le _
      have HFIN : Hid (upd MM N0 [(i, t)] = upd M6 m (M6 m ++ [(i, t)])) := by
        rw [Hid, ← hM6, hm, upd_same]
        funext j
        unfold upd
        by_cases e : j = m
        · rw [if_pos e, if_pos e]; rfl
        · rw [if_neg e, if_neg e, if_neg e]
      have hbB : w6.heap[wr.heap.size]? = W1.heap[wr.heap.size]? := o6.block _ zb (fun e => by
        rcases e with e | e
        · have := HRW.out.2.2.2; omega
        · have := (HRW.out.2.2.1.lt e).2; omega)
      have b0 : w6.cell? ⟨wr.heap.size, 0, none⟩ = some (.int .i64 i) := (World.cell?_of_block (a := ⟨wr.heap.size, 0, none⟩) hbB).trans HB0.out
      have b1 : w6.cell? ⟨wr.heap.size, 1, none⟩ = some (.string t) := (World.cell?_of_block (a := ⟨wr.heap.size, 1, none⟩) hbB).trans HB1.out
      have hm1 : m ≤ 100 := by omega
      have HRWD : Hid (Rowed w T s v0 N0 V0 (N0 + 1) (upd MM N0 [(i, t)]) (s - 1) = Rowed w T s v0 N0 V0 (m + 1) (upd M6 m (M6 m ++ [(i, t)])) (s - 1)) := by rw [Hid, HFIN.out, hm]
      clear hm hM6 t6 o6 x6 hbB
      have w1 : IntKind.i64.wrap (((m + 1 : Nat) : Int) - 1) = (m : Int) := by rw [IntWalk.i64_in _ (by omega)]; omega
      have w2 : IntKind.i64.wrap ((m : Int) + 1 - 1) = (m : Int) := by rw [IntWalk.i64_in _ (by omega)]; omega
      have w3 : IntKind.i64.wrap (m : Int) = (m : Int) := IntWalk.i64_in _ (by omega)
      have HTT : Hid (TRow w6.drew T s (.slice (some ⟨g, 0, none⟩) (m + 1) c) (m + 1) V6 M6 s) := H6.out
      obtain ⟨⟨_, c1, _⟩, _, _, _⟩ := H6.out
      go_still_tail 11, (by kernel_rfl)
      change wpList _ _ _ _ _ w6.drew
      obtain ⟨wd, hwd⟩ : ∃ wd, w6.drew = wd := ⟨_, rfl⟩
      rw [hwd] at HTT ⊢
      have OD : Hid (Only w6 wd (inT T v0 N0 V0)) := Only.new (hwd ▸ ⟨rfl, rfl, rfl, Nat.le_refl _, fun _ _ => rfl⟩)
      have zd : w6.heap.size ≤ wd.heap.size := OD.out.size
      have HWD := Lib.hid hwd
      clear hwd c1 b0 b1
      obtain ⟨_, _, hm2, hl2⟩ := HTT.out
      have HM2 := Lib.hid hm2
      clear hm2
      go_wp2_with (go_at_call 68; refine (put_any wd (T + 1) g c (m + 1) V6 M6 HM2.out (by omega) m (by omega) i t HLM.out).mono ?_; rintro e w4 ⟨x, rfl, m4, o4, x4⟩)
      obtain ⟨⟨a0, a1, a2⟩, ⟨a3, a4, a5⟩, _, _⟩ := HTT.out
      have hbT : w4.heap[T]? = wd.heap[T]? := o4.block T hl2 (fun e => by have := (HM2.out.lt e).1; omega)
      have d0 : w4.cell? ⟨T, 0, none⟩ = some (.int .i64 s) := (World.cell?_of_block (a := ⟨T, 0, none⟩) hbT).trans a0
      have d1 : w4.cell? ⟨T, 1, none⟩ = some (.slice (some ⟨g, 0, none⟩) (m + 1) c) := (World.cell?_of_block (a := ⟨T, 1, none⟩) hbT).trans a1
      have d2 : w4.cell? ⟨T, 2, none⟩ = some (.int .i64 s) := (World.cell?_of_block (a := ⟨T, 2, none⟩) hbT).trans a2
      have g0 : w4.frozen? ⟨T, 0, none⟩ = false := (World.frozen?_of_block (a := ⟨T, 0, none⟩) hbT).trans a3
      have g1 : w4.frozen? ⟨T, 1, none⟩ = false := (World.frozen?_of_block (a := ⟨T, 1, none⟩) hbT).trans a4
      have g2 : w4.frozen? ⟨T, 2, none⟩ = false := (World.frozen?_of_block (a := ⟨T, 2, none⟩) hbT).trans a5
      clear a0 a1 a2 a3 a4 a5 hbT
      have hl4 : T < w4.heap.size := World.block_lt_of_cell? _ _ d2
      have rm : IntKind.i64.wrap (s - 1) = s - 1 := IntWalk.i64_in _ (by omega)
      have M4 := Lib.hid m4
      have O4 := Lib.hid o4
      have X4 := Lib.hid x4
      have HD0 := Lib.hid d0
      have HD1 := Lib.hid d1
      have HD2 := Lib.hid d2
      have A1 : Only w wd (inT T v0 N0 V0) := OA.out.trans OD.out (fun _ _ h => h)
      have A2 : Hid (Only w w4 (inT T v0 N0 V0)) := A1.trans (T := inM (.slice (some ⟨g, 0, none⟩) (m + 1) c) (m + 1) V6) O4.out (fun k hk h => by
        rcases HG.out k h with h | h
        · exact Or.inr h
        · omega)
      have HG2 : Hid (∀ k, inM (.slice (some ⟨g, 0, none⟩) (m + 1) c) (m + 1) (upd V6 m x) k → inM v0 N0 V0 k ∨ w.heap.size ≤ k) := fun k hk => by
        rcases inM_put (H := wd.heap.size) (show m < m + 1 by omega) X4.out hk with h | h
        · exact HG.out k h
        · have := OA.out.size; exact Or.inr (by omega)
      clear A1
      have HF0 := Lib.hid g0
      have HF1 := Lib.hid g1
      have HF2 := Lib.hid g2
      clear m4 o4 x4
      go_wp2
      go_region_with (go_at_call 87; refine (takes_letter _ _ _ _).mono ?_; rintro e w5 ⟨rfl, k5⟩; have kk : Below w4.heap.size w4 w5 := (by first | exact k5 | exact sstep (by go_grown) k5); have s2 : w5.cell? ⟨T, 2, none⟩ = some (.int .i64 s) := (kk.cell (p := ⟨T, 2, none⟩) hl4).trans d2; have s3 : w5.frozen? ⟨T, 2, none⟩ = false := (kk.frozen (p := ⟨T, 2, none⟩) hl4).trans g2; have KK := Lib.hid kk; clear k5 kk)
      all_goals
        clear s2 s3
        go_wp2
        go_roundw
        case rel => exact ⟨2, by go_num, Or.inr (Or.inr ⟨rfl, by rw [HRWD.out]; exact row_done A2.out M4.out HD0.out HD1.out HD2.out HF0.out HF1.out HF2.out KK.out HG2.out _⟩)⟩
        case measure => simp [intOf]
    · go_wp2
      go_returns
      exact HFN.out
end Go.Proofs.Ytihbpalhbbingaa

/-
  What FillByPrefix, FillTrays and RepackTrays of the program return.
-/
namespace Go.Proofs.Ytihbpalhbbingaa
open Go.RowKit
open Go.PlainAid (bt get_bt bt_nonneg bt_le)
set_option linter.unusedVariables false

/-- The room that is left in the last tray. -/
def roomOf (s : Int) (N : Nat) (MM : Nat → List (Int × ByteArray)) : Int := if N = 0 then 0 else s - ((MM (N - 1)).length : Int)
theorem roomOf_zero (s : Int) (MM : Nat → List (Int × ByteArray)) : roomOf s 0 MM = 0 := if_pos rfl
theorem roomOf_succ (s : Int) (m : Nat) (MM : Nat → List (Int × ByteArray)) : roomOf s (m + 1) MM = s - ((MM m).length : Int) := if_neg (by omega)
theorem row_made (w : World) (s : Int) (V : Nat → Value) (MM : Nat → List (Int × ByteArray)) : TRow (w.alloc (.cells #[.int .i64 s, .slice none 0 0, .int .i64 0] 73)) w.heap.size s (.slice none 0 0) 0 V MM 0 :=
  ⟨⟨by simp, by simp, by simp⟩, ⟨by simp, by simp, by simp⟩, Mat.nil _ _ _ _, by simp⟩

set_option maxHeartbeats 4000000 in
set_option maxRecDepth 100000 in
theorem impl_FillByPrefix (w : World) (a : Option Addr) (n c : Nat) (I : Nat → Int) (C : Nat → ByteArray) (h : Lts w a n I C) (hf : Fits n I C) (s d : Int) :
    Calls Try.prog 46 #[.slice a n c, .int .i64 s, .int .i64 d] w (TraysRes w (fillOk n I C s d) (fillN n I C s d) (fM I C s d.toNat n)) := by
  have HL := Lib.hid h
  have HF := Lib.hid hf
  clear h hf
  cases hb : M.batch n I C
  · have HO := Lib.hid (fillOk_1 (s := s) (d := d) hb)
    have HN := Lib.hid (fillN_no HO.out)
    have HB := Lib.hid hb
    rw [HO.out]
    clear hb
    go_enter Try.func46, Try.ntmps46
    go_wp2_with (first | (go_at_call 19; refine (impl_BatchValid _ _ _ _ _ _ HL.out HF.out).mono ?_; rw [HB.out]; rintro e w1 ⟨rfl, b1⟩; have HB1 := Lib.hid b1; have HL1 := Lib.hid (HL.out.on b1); clear b1))
    go_ret2
    exact ⟨.slice none 0 0, fun _ => .slice none 0 0, rfl, by rw [HN.out]; exact Mat.nil _ _ _ _, HB1.out⟩
  · have HB := Lib.hid hb
    by_cases hs : 1 ≤ s ∧ s ≤ 20
    · have D1 := Lib.hid (decide_eq_true hs)
      by_cases hd : 0 ≤ d ∧ d ≤ 7
      · have D2 := Lib.hid (decide_eq_true hd)
        have HO := Lib.hid (fillOk_4 (s := s) (d := d) hb (show sizeOk s = true from D1.out) hd)
        have HN := Lib.hid (fillN_yes HO.out)
        rw [HO.out]
        obtain ⟨d, rfl⟩ : ∃ e : Nat, d = e := ⟨d.toNat, by omega⟩
        have hd7 : d ≤ 7 := by omega
        obtain ⟨s1, s20⟩ := hs
        obtain ⟨hn, hcode⟩ := M.batch_yes hb
        have HSZ := Lib.hid (fun i (hi : i < n) => (M.code_yes (hcode i hi).1).2)
        have HFN := Lib.hid (fN_le I C s d)
        have HFL := Lib.hid (fM_len I C s d)
        have HLE := Lib.hid (fill_len I C s d s1)
        clear hb hd hcode
        go_enter Try.func46, Try.ntmps46
        go_wp2_with (first | (go_at_call 19; refine (impl_BatchValid _ _ _ _ _ _ HL.out HF.out).mono ?_; rw [HB.out]; rintro e w1 ⟨rfl, b1⟩; have HB1 := Lib.hid b1; have HL1 := Lib.hid (HL.out.on b1); clear b1) | (go_at_call 41; refine (impl_traySize _ _).mono ?_; rw [D1.out]; rintro e w2 ⟨rfl, rfl⟩) | (go_at_call 60; refine (impl_within _ _ _).mono ?_; rw [D2.out]; rintro e w3 ⟨rfl, rfl⟩))
        have hrow0 := Lib.hid (row_made w1 s (fun _ => .slice none 0 0) (fM I C s d 0))
        go_loopw [28] (fun i wr => ∃ (k : Nat) (v : Value) (V : Nat → Value), k ≤ n ∧ i = .int .i64 k ∧ Hid (TRow wr w1.heap.size s v (fN I C s d k) V (fM I C s d k) (roomOf s (fN I C s d k) (fM I C s d k))) ∧ Hid (Below w1.heap.size w1 wr)) (fun i _ => n - (intOf i).toNat)
        case atStart => exact ⟨0, _, _, Nat.zero_le _, rfl, hrow0.out, below_alloc0 _ _⟩
        case round =>
          obtain ⟨k, v, V, hk, rfl, hrow, hb⟩ := hrel
          by_cases hlt : k < n
          · obtain ⟨N, hN⟩ : ∃ N, fN I C s d k = N := ⟨_, rfl⟩
            have hNk : N ≤ k := by have := HFN.out k; omega
            obtain ⟨MM, hMM⟩ : ∃ MM, fM I C s d k = MM := ⟨_, rfl⟩
            rw [hN, hMM] at hrow
            have HNN := Lib.hid hN
            have HMM := Lib.hid hMM
            have hml := HFL.out k
            have hle := HLE.out k
            rw [hN, hMM] at hml hle
            have HML := Lib.hid hml
            have HLEK := Lib.hid hle
            obtain ⟨b, o, rfl, c0, c1⟩ := (HL1.out.on hb.out) k hlt
            have hsz := HSZ.out k hlt
            obtain ⟨Wx, hWx⟩ : ∃ Wx, wr.alloc (.cells #[.int .i64 (I k), .string (C k)] 50) = Wx := ⟨_, rfl⟩
            have KX : Hid (Below wr.heap.size wr Wx) := by rw [Hid, ← hWx]; exact below_alloc0 wr _
            have bx0 : Wx.cell? ⟨wr.heap.size, 0, none⟩ = some (.int .i64 (I k)) := by rw [← hWx]; simp
            have bx1 : Wx.cell? ⟨wr.heap.size, 1, none⟩ = some (.string (C k)) := by rw [← hWx]; simp
            have HWX := Lib.hid hWx
            have hz := hb.out.size
            clear hN hMM hml hle hWx
            have dd0 : (0 : Int) ≤ (d : Int) := by omega
            have dd3 : ((d : Int)).toNat = d := rfl
            have kn : (k : Int) < (n : Int) := by omega
            by_cases hk0 : k = 0
            · have hN0 : N = 0 := by omega
              have HC : Hid (cutAt C s d k (fN I C s d k) (fM I C s d k) = true) := by rw [Hid, HNN.out, hN0]; exact cut_none
              have d0 : decide ((0 : Int) < (k : Int)) = false := decide_eq_false (by omega)
              have d1 : decide (0 < k) = false := decide_eq_false (by omega)
              have hroom : Hid (roomOf s N MM = 0) := by rw [Hid, hN0, roomOf_zero]
              rw [hroom.out] at hrow
              have HK0 := Lib.hid hk0
              clear hk0 hN0
              go_wp2
              rw [HWX.out]
              go_quiet (fail)
              obtain ⟨wq, hwq⟩ : ∃ wq, Wx.drewN nq = wq := ⟨_, rfl⟩
              have kq : Below wr.heap.size wr wq := hwq ▸ (show Below wr.heap.size wr (Wx.drewN nq) from sstep KX.out ⟨rfl, rfl, rfl, Nat.le_refl _, fun _ _ => rfl⟩)
              have q0 : wq.cell? ⟨wr.heap.size, 0, none⟩ = some (.int .i64 (I (k))) := hwq ▸ bx0
              have q1 : wq.cell? ⟨wr.heap.size, 1, none⟩ = some (.string (C (k))) := hwq ▸ bx1
              rw [hwq]
              have HRQ := Lib.hid (hrow.out.below kq)
              have HBQ := Lib.hid (sstep hb.out kq)
              have HRA := Lib.hid (HRQ.out.below (below_alloc0 wq (.cells #[(.iface 50 (.agg #[.int .i64 (I (k)), .string (C (k))]))] 84)))
              clear hwq kq bx0 bx1 c0 c1
              have HF1 := Lib.hid ((fill_cut HC.out).1.trans (by rw [HNN.out]))
              have HF2 : Hid (fM I C s d (k + 1) = upd MM (N) [(I (k), C (k))]) := by rw [Hid, (fill_cut HC.out).2, HNN.out, HMM.out]
              have HRM : Hid (roomOf s (N + 1) (upd MM (N) [(I (k), C (k))]) = s - 1) := by rw [Hid, roomOf_succ, upd_same]; rfl
              go_wp2_with (go_at_call 61; refine (put_none _ _ s v N V MM HRA.out ⟨s1, s20⟩ (by omega) _ _ (I k) (C k) (by simp)).mono ?_; rintro e w5 ⟨g5, c5, V5, rfl, t5, o5, x5⟩)
              have T5 := Lib.hid t5
              have B5 : Hid (Below w1.heap.size w1 w5) := (sstep HBQ.out (below_alloc0 wq _)).trans (o5.below (B := w1.heap.size) (fun q hq _ e => by
                rcases e with e | e
                · omega
                · have := (HRQ.out.2.2.1.lt e).1; omega) (by have := HBQ.out.size; simp; omega))
              clear t5 o5 x5
              go_roundw
              case rel => exact ⟨k + 1, _, V5, by omega, by go_num, by rw [Hid, HF1.out, HF2.out, HRM.out]; exact T5.out, B5⟩
              case measure => simp [intOf]; omega
            · obtain ⟨j, rfl⟩ : ∃ j, k = j + 1 := ⟨k - 1, by omega⟩
              obtain ⟨m, rfl⟩ : ∃ m, N = m + 1 := ⟨N - 1, by have := fN_pos I C s d j; have := HNN.out; omega⟩
              obtain ⟨_, _, e1, p0, p1⟩ := (HL1.out.on (sstep hb.out KX.out)) j (by omega)
              cases e1
              have hsz2 := HSZ.out j (by omega)
              have w3 : IntKind.i64.wrap (((j + 1 : Nat) : Int) - 1) = (j : Int) := by rw [IntWalk.i64_in _ (by omega)]; omega
              have w4 : IntKind.i64.wrap ((j : Int) + 1 - 1) = (j : Int) := by rw [IntWalk.i64_in _ (by omega)]; omega
              have d0 : decide ((0 : Int) < ((j + 1 : Nat) : Int)) = true := decide_eq_true (by omega)
              have d1 : decide ((0 : Int) < (j : Int) + 1) = true := decide_eq_true (by omega)
              have dd1 : (d : Int) ≤ ((C (j + 1)).size : Int) := by omega
              have dd2 : (d : Int) ≤ ((C j).size : Int) := by omega
              have jn : (j : Int) + 1 < (n : Int) := by omega
              have jn2 : (j : Int) < (n : Int) := by omega
              obtain ⟨hl1, hl2⟩ := HLEK.out m (by omega)
              have hroom : Hid (roomOf s (m + 1) MM = s - ((MM m).length : Int)) := roomOf_succ s m MM
              rw [hroom.out] at hrow
              obtain ⟨lm, hlm⟩ : ∃ lm, (MM m).length = lm := ⟨_, rfl⟩
              have hcut : Hid (cutAt C s d (j + 1) (fN I C s d (j + 1)) (fM I C s d (j + 1)) = (decide ((lm : Int) = s) || decide ((C (j + 1)).extract 0 d ≠ (C j).extract 0 d))) := by
                rw [Hid, HNN.out, HMM.out, cut_some (by omega)]
                show (decide (((MM m).length : Int) = s) || _) = _
                rw [hlm]; rfl
              rw [hlm] at hrow hl1 hl2
              have HLM := Lib.hid hlm
              obtain ⟨P1, hP1⟩ : ∃ P1, (C (j + 1)).extract 0 d = P1 := ⟨_, rfl⟩
              obtain ⟨P2, hP2⟩ : ∃ P2, (C j).extract 0 d = P2 := ⟨_, rfl⟩
              rw [hP1, hP2] at hcut
              clear hlm
              by_cases hc2 : P1 = P2
              · have e5 : (P1.toList == P2.toList) = true := by rw [M.list_eq]; exact decide_eq_true hc2
                by_cases hc1 : (lm : Int) = s
                · have HC : Hid (cutAt C s d (j + 1) (fN I C s d (j + 1)) (fM I C s d (j + 1)) = true) := by rw [Hid, hcut.out, decide_eq_true hc1]; rfl
                  rw [show s - (lm : Int) = 0 by omega] at hrow
                  clear hc1 hc2
                  go_wp2
                  rw [HWX.out]
                  go_quiet (fail)
                  obtain ⟨wq, hwq⟩ : ∃ wq, Wx.drewN nq = wq := ⟨_, rfl⟩
                  have kq : Below wr.heap.size wr wq := hwq ▸ (show Below wr.heap.size wr (Wx.drewN nq) from sstep KX.out ⟨rfl, rfl, rfl, Nat.le_refl _, fun _ _ => rfl⟩)
                  have q0 : wq.cell? ⟨wr.heap.size, 0, none⟩ = some (.int .i64 (I (j + 1))) := hwq ▸ bx0
                  have q1 : wq.cell? ⟨wr.heap.size, 1, none⟩ = some (.string (C (j + 1))) := hwq ▸ bx1
                  rw [hwq]
                  have HRQ := Lib.hid (hrow.out.below kq)
                  have HBQ := Lib.hid (sstep hb.out kq)
                  have HRA := Lib.hid (HRQ.out.below (below_alloc0 wq (.cells #[(.iface 50 (.agg #[.int .i64 (I (j + 1)), .string (C (j + 1))]))] 84)))
                  clear hwq kq bx0 bx1 c0 c1 p0 p1
                  have HF1 := Lib.hid ((fill_cut HC.out).1.trans (by rw [HNN.out]))
                  have HF2 : Hid (fM I C s d (j + 1 + 1) = upd MM (m + 1) [(I (j + 1), C (j + 1))]) := by rw [Hid, (fill_cut HC.out).2, HNN.out, HMM.out]
                  have HRM : Hid (roomOf s (m + 1 + 1) (upd MM (m + 1) [(I (j + 1), C (j + 1))]) = s - 1) := by rw [Hid, roomOf_succ, upd_same]; rfl
                  go_wp2_with (go_at_call 61; refine (put_none _ _ s v (m + 1) V MM HRA.out ⟨s1, s20⟩ (by omega) _ _ (I (j + 1)) (C (j + 1)) (by simp)).mono ?_; rintro e w5 ⟨g5, c5, V5, rfl, t5, o5, x5⟩)
                  have T5 := Lib.hid t5
                  have B5 : Hid (Below w1.heap.size w1 w5) := (sstep HBQ.out (below_alloc0 wq _)).trans (o5.below (B := w1.heap.size) (fun q hq _ e => by
                    rcases e with e | e
                    · omega
                    · have := (HRQ.out.2.2.1.lt e).1; omega) (by have := HBQ.out.size; simp; omega))
                  clear t5 o5 x5
                  go_roundw
                  case rel => exact ⟨j + 1 + 1, _, V5, by omega, by go_num, by rw [Hid, HF1.out, HF2.out, HRM.out]; exact T5.out, B5⟩
                  case measure => simp [intOf]; omega
                · have HC : Hid (cutAt C s d (j + 1) (fN I C s d (j + 1)) (fM I C s d (j + 1)) = false) := by rw [Hid, hcut.out, decide_eq_false hc1, decide_eq_false (fun h => h hc2)]; rfl
                  have HF1 := Lib.hid ((fill_stay HC.out).1.trans HNN.out)
                  have HF2 : Hid (fM I C s d (j + 1 + 1) = upd MM m (MM m ++ [(I (j + 1), C (j + 1))])) := by rw [Hid, (fill_stay HC.out).2, HNN.out, HMM.out]; rfl
                  have HRM : Hid (roomOf s (m + 1) (upd MM m (MM m ++ [(I (j + 1), C (j + 1))])) = s - (lm : Int) - 1) := by rw [Hid, roomOf_succ, upd_same, List.length_append, HLM.out]; simp; omega
                  obtain ⟨g, cc, hv⟩ : ∃ g cc, v = .slice (some ⟨g, 0, none⟩) (m + 1) cc := by
                    rcases hrow.out.2.2.1.form with ⟨_, e⟩ | ⟨g, cc, e, _⟩
                    · omega
                    · exact ⟨g, cc, e⟩
                  subst hv
                  have hr1 : 1 ≤ s - (lm : Int) ∧ s - (lm : Int) ≤ 20 := by omega
                  have hll : (MM m).length ≤ 1048576 := by rw [HLM.out]; omega
                  have HLL := Lib.hid hll
                  clear hc1 hc2 hll
                  go_wp2
                  rw [HWX.out]
                  go_quiet (fail)
                  obtain ⟨wq, hwq⟩ : ∃ wq, Wx.drewN nq = wq := ⟨_, rfl⟩
                  have kq : Below wr.heap.size wr wq := hwq ▸ (show Below wr.heap.size wr (Wx.drewN nq) from sstep KX.out ⟨rfl, rfl, rfl, Nat.le_refl _, fun _ _ => rfl⟩)
                  have q0 : wq.cell? ⟨wr.heap.size, 0, none⟩ = some (.int .i64 (I (j + 1))) := hwq ▸ bx0
                  have q1 : wq.cell? ⟨wr.heap.size, 1, none⟩ = some (.string (C (j + 1))) := hwq ▸ bx1
                  rw [hwq]
                  have HRQ := Lib.hid (hrow.out.below kq)
                  have HBQ := Lib.hid (sstep hb.out kq)
                  have HRA := Lib.hid (HRQ.out.below (below_alloc0 wq (.cells #[(.iface 50 (.agg #[.int .i64 (I (j + 1)), .string (C (j + 1))]))] 84)))
                  clear hwq kq bx0 bx1 c0 c1 p0 p1
                  go_wp2_with (go_at_call 61; refine (put_room _ _ s g cc m V MM (s - (lm : Int)) HRA.out hr1 (by omega) HLL.out _ _ (I (j + 1)) (C (j + 1)) (by simp)).mono ?_; rintro e w5 ⟨g5, c5, V5, rfl, t5, o5, x5⟩)
                  have T5 := Lib.hid t5
                  have B5 : Hid (Below w1.heap.size w1 w5) := (sstep HBQ.out (below_alloc0 wq _)).trans (o5.below (B := w1.heap.size) (fun q hq _ e => by
                    rcases e with e | e
                    · omega
                    · have := (HRQ.out.2.2.1.lt e).1; omega) (by have := HBQ.out.size; simp; omega))
                  clear t5 o5 x5
                  go_roundw
                  case rel => exact ⟨j + 1 + 1, _, V5, by omega, by go_num, by rw [Hid, HF1.out, HF2.out, HRM.out]; exact T5.out, B5⟩
                  case measure => simp [intOf]; omega
              · have e5 : (P1.toList == P2.toList) = false := by rw [M.list_eq]; exact decide_eq_false hc2
                have HC : Hid (cutAt C s d (j + 1) (fN I C s d (j + 1)) (fM I C s d (j + 1)) = true) := by rw [Hid, hcut.out, decide_eq_true hc2]; simp
                clear hc2
                go_wp2
                rw [HWX.out]
                go_quiet (fail)
                obtain ⟨wq, hwq⟩ : ∃ wq, Wx.drewN nq = wq := ⟨_, rfl⟩
                have kq : Below wr.heap.size wr wq := hwq ▸ (show Below wr.heap.size wr (Wx.drewN nq) from sstep KX.out ⟨rfl, rfl, rfl, Nat.le_refl _, fun _ _ => rfl⟩)
                have q0 : wq.cell? ⟨wr.heap.size, 0, none⟩ = some (.int .i64 (I (j + 1))) := hwq ▸ bx0
                have q1 : wq.cell? ⟨wr.heap.size, 1, none⟩ = some (.string (C (j + 1))) := hwq ▸ bx1
                rw [hwq]
                have HRQ := Lib.hid (hrow.out.below kq)
                have HBQ := Lib.hid (sstep hb.out kq)
                have HRA := Lib.hid (HRQ.out.below (below_alloc0 wq (.cells #[(.iface 76 (.agg #[])), (.iface 50 (.agg #[.int .i64 (I (j + 1)), .string (C (j + 1))]))] 84)))
                clear hwq kq bx0 bx1 c0 c1 p0 p1
                have HF1 := Lib.hid ((fill_cut HC.out).1.trans (by rw [HNN.out]))
                have HF2 : Hid (fM I C s d (j + 1 + 1) = upd MM (m + 1) [(I (j + 1), C (j + 1))]) := by rw [Hid, (fill_cut HC.out).2, HNN.out, HMM.out]
                have HRM : Hid (roomOf s (m + 1 + 1) (upd MM (m + 1) [(I (j + 1), C (j + 1))]) = s - 1) := by rw [Hid, roomOf_succ, upd_same]; rfl
                have hXT : wq.heap.size ≠ w1.heap.size := by have := HRQ.out.2.2.2; omega
                go_wp2_with (go_at_call 61; refine (put_divided _ _ s v (m + 1) V MM _ HRA.out ⟨s1, s20⟩ (by omega) _ _ (I (j + 1)) (C (j + 1)) (by simp) (by simp) hXT).mono ?_; rintro e w5 ⟨g5, c5, V5, rfl, t5, o5, x5⟩)
                have T5 := Lib.hid t5
                have B5 : Hid (Below w1.heap.size w1 w5) := (sstep HBQ.out (below_alloc0 wq _)).trans (o5.below (B := w1.heap.size) (fun q hq _ e => by
                  rcases e with e | e
                  · omega
                  · have := (HRQ.out.2.2.1.lt e).1; omega) (by have := HBQ.out.size; simp; omega))
                clear t5 o5 x5
                go_roundw
                case rel => exact ⟨j + 1 + 1, _, V5, by omega, by go_num, by rw [Hid, HF1.out, HF2.out, HRM.out]; exact T5.out, B5⟩
                case measure => simp [intOf]; omega
          · obtain rfl : k = n := by omega
            obtain ⟨⟨_, y1, _⟩, _, hmm, _⟩ := hrow.out
            have HMT := Lib.hid hmm
            clear hmm
            go_wp2
            go_ret2
            exact ⟨_, _, rfl, by rw [HN.out]; exact HMT.out.lower (Nat.le_trans HB1.out.size (Nat.le_succ _)), sstep HB1.out hb.out⟩
      · have D2 := Lib.hid (decide_eq_false hd)
        have HO := Lib.hid (fillOk_3 (n := n) (I := I) (C := C) (s := s) (d := d) hd)
        have HN := Lib.hid (fillN_no HO.out)
        rw [HO.out]
        clear hb hs hd
        go_enter Try.func46, Try.ntmps46
        go_wp2_with (first | (go_at_call 19; refine (impl_BatchValid _ _ _ _ _ _ HL.out HF.out).mono ?_; rw [HB.out]; rintro e w1 ⟨rfl, b1⟩; have HB1 := Lib.hid b1; have HL1 := Lib.hid (HL.out.on b1); clear b1) | (go_at_call 41; refine (impl_traySize _ _).mono ?_; rw [D1.out]; rintro e w2 ⟨rfl, rfl⟩) | (go_at_call 60; refine (impl_within _ _ _).mono ?_; rw [D2.out]; rintro e w3 ⟨rfl, rfl⟩))
        go_ret2
        exact ⟨.slice none 0 0, fun _ => .slice none 0 0, rfl, by rw [HN.out]; exact Mat.nil _ _ _ _, HB1.out⟩
    · have D1 := Lib.hid (decide_eq_false hs)
      have HO := Lib.hid (fillOk_2 (n := n) (I := I) (C := C) (s := s) (d := d) (show sizeOk s = false from D1.out))
      have HN := Lib.hid (fillN_no HO.out)
      rw [HO.out]
      clear hb hs
      go_enter Try.func46, Try.ntmps46
      go_wp2_with (first | (go_at_call 19; refine (impl_BatchValid _ _ _ _ _ _ HL.out HF.out).mono ?_; rw [HB.out]; rintro e w1 ⟨rfl, b1⟩; have HB1 := Lib.hid b1; have HL1 := Lib.hid (HL.out.on b1); clear b1) | (go_at_call 41; refine (impl_traySize _ _).mono ?_; rw [D1.out]; rintro e w2 ⟨rfl, rfl⟩))
      go_ret2
      exact ⟨.slice none 0 0, fun _ => .slice none 0 0, rfl, by rw [HN.out]; exact Mat.nil _ _ _ _, HB1.out⟩

set_option maxHeartbeats 1000000 in
theorem impl_FillTrays (w : World) (a : Option Addr) (n c : Nat) (I : Nat → Int) (C : Nat → ByteArray) (h : Lts w a n I C) (hf : Fits n I C) (s : Int) :
    Calls Try.prog 25 #[.slice a n c, .int .i64 s] w (TraysRes w (fillOk n I C s 0) (fillN n I C s 0) (fM I C s (0 : Int).toNat n)) := by
  have HQ := Lib.hid (impl_FillByPrefix w a n c I C h hf s 0)
  obtain ⟨N, hN⟩ : ∃ N, fillN n I C s 0 = N := ⟨_, rfl⟩
  obtain ⟨MM, hM⟩ : ∃ MM, fM I C s (0 : Int).toNat n = MM := ⟨_, rfl⟩
  obtain ⟨ok, hok⟩ : ∃ ok, fillOk n I C s 0 = ok := ⟨_, rfl⟩
  rw [hN, hM, hok] at HQ ⊢
  clear h hf hN hM hok
  go_enter Try.func25, Try.ntmps25
  go_wp2_with (go_at_call 46; refine HQ.out.mono ?_; rintro e w1 ⟨v1, V1, rfl, m1, b1⟩)
  go_ret2
  exact ⟨_, _, rfl, m1, b1⟩

set_option maxHeartbeats 1000000 in
theorem impl_RepackTrays (w : World) (base : Nat) (v : Value) (n : Nat) (V : Nat → Value) (MM : Nat → List (Int × ByteArray)) (h : Mat w base v n V MM) (hz : Sz n MM) (s : Int) :
    Calls Try.prog 22 #[v, .int .i64 s] w (TraysRes w (repOk n MM s) (repN n MM s) (repM n MM s)) := by
  have HQ := Lib.hid (impl_EmptyTrays w base v n V MM h hz)
  have HZ := Lib.hid hz
  clear h hz
  cases ho : traysOk n MM 20
  · have HR := Lib.hid (repOk_1 (s := s) ho)
    have HN := Lib.hid (repN_no HR.out)
    rw [ho] at HQ
    rw [HR.out]
    clear ho
    go_enter Try.func22, Try.ntmps22
    go_wp2_with (go_at_call 16; refine HQ.out.mono ?_; rintro e w1 ⟨v1, rfl, r1, b1⟩)
    go_ret2
    exact ⟨.slice none 0 0, fun _ => .slice none 0 0, rfl, by rw [HN.out]; exact Mat.nil _ _ _ _, b1⟩
  · rw [ho, empty_yes ho] at HQ
    have HB := Lib.hid (traysOk_bat ho)
    have HFL := Lib.hid HZ.out.2.2
    have hR : repOk n MM s = fillOk (M.flat MM n).length (nI (M.flat MM n)) (nC (M.flat MM n)) s 0 := by
      unfold repOk fillOk
      rw [ho, show M.batch (M.flat MM n).length (nI (M.flat MM n)) (nC (M.flat MM n)) = true from HB.out]
      simp
    have hNN : repN n MM s = fillN (M.flat MM n).length (nI (M.flat MM n)) (nC (M.flat MM n)) s 0 := by
      unfold repN fillN
      rw [hR]
      rfl
    have hMM : repM n MM s = fM (nI (M.flat MM n)) (nC (M.flat MM n)) s (0 : Int).toNat (M.flat MM n).length := rfl
    rw [hR, hNN, hMM]
    obtain ⟨L, hL⟩ : ∃ L, M.flat MM n = L := ⟨_, rfl⟩
    rw [hL] at HQ HFL ⊢
    clear ho hR hNN hMM hL HB
    have HFT := Lib.hid (fun W a c hl => impl_FillTrays W a L.length c (nI L) (nC L) hl HFL.out s)
    obtain ⟨N, hN⟩ : ∃ N, fillN L.length (nI L) (nC L) s 0 = N := ⟨_, rfl⟩
    obtain ⟨M2, hM2⟩ : ∃ M2, fM (nI L) (nC L) s (0 : Int).toNat L.length = M2 := ⟨_, rfl⟩
    obtain ⟨ok, hok⟩ : ∃ ok, fillOk L.length (nI L) (nC L) s 0 = ok := ⟨_, rfl⟩
    rw [hN, hM2, hok] at HFT ⊢
    clear hN hM2 hok
    go_enter Try.func22, Try.ntmps22
    go_wp2_with (first
      | (go_at_call 16; refine HQ.out.mono ?_; rintro e w1 ⟨v1, rfl, r1, b1⟩; obtain ⟨a1, c1, rfl, _, hl1⟩ := r1.form; have HL1 := Lib.hid hl1; have HB1 := Lib.hid b1; clear hl1 r1 b1)
      | (go_at_call 25; refine (HFT.out _ _ _ HL1.out).mono ?_; rintro e w2 ⟨v2, V2, rfl, m2, b2⟩))
    go_ret2
    exact ⟨_, _, rfl, m2.lower HB1.out.size, sstep HB1.out b2⟩
end Go.Proofs.Ytihbpalhbbingaa
