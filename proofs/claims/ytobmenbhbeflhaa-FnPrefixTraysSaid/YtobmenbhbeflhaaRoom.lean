/-
  A row of trays that are filled one after the other: what makeRoom leaves.
-/
import Derived.Test.YtobmenbhbeflhaaFillM
import Derived.Test.YtobmenbhbeflhaaPut2
import Derived.Test.YtobmenbhbeflhaaTry
namespace Go.Proofs.Ytobmenbhbeflhaa
open Go.RowKit
set_option linter.unusedVariables false

/-- A row of trays in block T: its size, its trays, the room in the last one. -/
def TRow (w : World) (T : Nat) (s : Int) (v : Value) (N : Nat) (V : Nat → Value) (MM : Nat → List (Int × ByteArray)) (room : Int) : Prop :=
  (w.cell? ⟨T, 0, none⟩ = some (.int .i64 s) ∧ w.cell? ⟨T, 1, none⟩ = some v ∧ w.cell? ⟨T, 2, none⟩ = some (.int .i64 room)) ∧
  (w.frozen? ⟨T, 0, none⟩ = false ∧ w.frozen? ⟨T, 1, none⟩ = false ∧ w.frozen? ⟨T, 2, none⟩ = false) ∧ Mat w (T + 1) v N V MM ∧ T < w.heap.size
/-- The blocks of such a row. -/
def inT (T : Nat) (v : Value) (N : Nat) (V : Nat → Value) (k : Nat) : Prop := k = T ∨ inM v N V k
theorem TRow.below {w w' : World} {T N : Nat} {s room : Int} {v : Value} {V : Nat → Value} {MM : Nat → List (Int × ByteArray)} (h : TRow w T s v N V MM room) (hb : Below w.heap.size w w') : TRow w' T s v N V MM room := by
  obtain ⟨⟨a, b, c⟩, ⟨d, e, f⟩, m, l⟩ := h
  refine ⟨⟨(hb.cell (p := ⟨T, 0, none⟩) l).trans a, (hb.cell (p := ⟨T, 1, none⟩) l).trans b, (hb.cell (p := ⟨T, 2, none⟩) l).trans c⟩, ⟨(hb.frozen (p := ⟨T, 0, none⟩) l).trans d, (hb.frozen (p := ⟨T, 1, none⟩) l).trans e, (hb.frozen (p := ⟨T, 2, none⟩) l).trans f⟩, m.on hb, Nat.lt_of_lt_of_le l hb.size⟩
/-- From w to w' only the blocks of the row have turned, and there may be new ones; the row is one at w'. -/
def Rowed (w : World) (T : Nat) (s : Int) (v : Value) (N : Nat) (V : Nat → Value) (N' : Nat) (MM' : Nat → List (Int × ByteArray)) (room' : Int) (e : Ending) (w' : World) : Prop :=
  ∃ g c V', e = .returned (.tuple #[]) ∧ TRow w' T s (.slice (some ⟨g, 0, none⟩) N' c) N' V' MM' room' ∧ Only w w' (inT T v N V) ∧ (∀ k, inM (.slice (some ⟨g, 0, none⟩) N' c) N' V' k → inM v N V k ∨ w.heap.size ≤ k)

set_option maxHeartbeats 1000000 in
theorem makeRoom_some (w : World) (T : Nat) (s : Int) (v : Value) (N : Nat) (V : Nat → Value) (MM : Nat → List (Int × ByteArray)) (room : Int) (h : TRow w T s v N V MM room) (hr : room ≠ 0) :
    Calls Try.prog 37 #[.pointer (some ⟨T, 0, none⟩)] w fun e w' => e = .returned (.tuple #[]) ∧ w = w' := by
  obtain ⟨⟨c0, c1, c2⟩, _, _, _⟩ := h
  have q : (room == 0) = false := by rw [beq_eq_false_iff_ne]; exact hr
  clear hr
  go_enter Try.func37, Try.ntmps37
  go_wp2
  go_returns
  exact ⟨rfl, rfl⟩

set_option maxHeartbeats 1000000 in
theorem makeRoom_none (w : World) (T : Nat) (s : Int) (v : Value) (N : Nat) (V : Nat → Value) (MM : Nat → List (Int × ByteArray)) (h : TRow w T s v N V MM 0) (hN : N ≤ 1000) :
    Calls Try.prog 37 #[.pointer (some ⟨T, 0, none⟩)] w (Rowed w T s v N V (N + 1) (upd MM N []) s) := by
  have HT := Lib.hid h
  obtain ⟨⟨c0, c1, c2⟩, ⟨f0, f1, f2⟩, hm, hl⟩ := h
  have hm' := Lib.hid hm
  clear hm
  obtain ⟨i0, hi, hz0, hz1, hz3⟩ := info_parts info_row
  go_enter Try.func37, Try.ntmps37
  go_wp2_with (at_builtin; refine wpList_append_own_at _ rfl _ _ 50 rfl (T + 1) 23 i0 _ 1 24 Try.underlying50 hi hz0 hz1 hz3 rfl (by decide) v N (vcells V N) rfl (World.ownsRow.alloc hm'.out.1 _) ⟨w.heap.size, 0, none⟩ 1 1 [.slice none 0 0] rfl rfl (by intro j u hu; match j, hu with | 0, hu => (simp at hu; subst hu; simp [Addr.add])) (by intro u hu; simp at hu; subst hu; rfl) (by unfold maxLen; omega) (by omega) (by simp; omega) ?_)
  intro v2 w4 r2 gr2 hnn ho2
  have o34 : Only w w4 (fun q => v.ownBlock = some q) := (Only.new (S := fun q => v.ownBlock = some q) (below_alloc0 w _)).trans ((Only.of_grown gr2).mono (T := fun q => v.ownBlock = some q) (fun x _ e => e.symm)) (fun _ _ h => h)
  have P4 := hm'.out.push (Row.nil w (T + 1)) (Only.refl _ _) (fun k e => by cases e) r2 o34
  have hbT : w4.heap[T]? = w.heap[T]? := o34.block T hl (fun e => by have := (hm'.out.lt (Or.inl e)).1; omega)
  have d0 : w4.cell? ⟨T, 0, none⟩ = some (.int .i64 s) := (World.cell?_of_block (a := ⟨T, 0, none⟩) hbT).trans c0
  have d1 : w4.cell? ⟨T, 1, none⟩ = some v := (World.cell?_of_block (a := ⟨T, 1, none⟩) hbT).trans c1
  have d2 : w4.cell? ⟨T, 2, none⟩ = some (.int .i64 0) := (World.cell?_of_block (a := ⟨T, 2, none⟩) hbT).trans c2
  have g0 : w4.frozen? ⟨T, 0, none⟩ = false := (World.frozen?_of_block (a := ⟨T, 0, none⟩) hbT).trans f0
  have g1 : w4.frozen? ⟨T, 1, none⟩ = false := (World.frozen?_of_block (a := ⟨T, 1, none⟩) hbT).trans f1
  have g2 : w4.frozen? ⟨T, 2, none⟩ = false := (World.frozen?_of_block (a := ⟨T, 2, none⟩) hbT).trans f2
  rcases P4.form with ⟨_, e0⟩ | ⟨g9, e9, rfl, _, _, _⟩
  · exact absurd e0 (by omega)
  have P5 := Lib.hid P4
  have O34 := Lib.hid o34
  have z4 := o34.size
  have HX : Hid (∀ k, inM (.slice (some ⟨g9, 0, none⟩) (N + 1) e9) (N + 1) (upd V N (.slice none 0 0)) k → inM v N V k ∨ w.heap.size ≤ k) := fun k hk => by
    rcases hk with hk | ⟨i, hi, hk⟩
    · rcases ho2 with h | h
      · exact Or.inl (Or.inl (h ▸ hk))
      · have := h.symm.trans hk
        injection this with this
        exact Or.inr (by rw [← this]; simp)
    · by_cases e : i = N
      · subst e; rw [upd_same] at hk; cases hk
      · rw [upd_other _ _ e] at hk; exact Or.inl (Or.inr ⟨i, by omega, hk⟩)
  clear P4 o34 hbT r2 gr2 hnn ho2 c0 c1 c2 f0 f1 f2
  go_wp2
  go_returns
  have hnT : ∀ k, inM (.slice (some ⟨g9, 0, none⟩) (N + 1) e9) (N + 1) (upd V N (.slice none 0 0)) k → ¬ k = T := fun k hk e => by have := (P5.out.lt hk).1; omega
  refine ⟨g9, e9, _, rfl, ⟨⟨by go_simp, by go_simp, by go_simp⟩, ⟨by go_simp, by go_simp, by go_simp⟩, ?_, by simp; omega⟩, ?_, HX.out⟩
  · exact (P5.out.only (Only.set w4 ⟨T, 1, none⟩ _ (S := fun k => k = T) rfl) hnT).only (Only.set _ ⟨T, 2, none⟩ _ (S := fun k => k = T) rfl) hnT
  · exact ((O34.out.mono (T := inT T v N V) (fun x _ e => Or.inr (Or.inl e))).trans (Only.set w4 ⟨T, 1, none⟩ _ (S := inT T v N V) (Or.inl rfl)) (fun _ _ h => h)).trans (Only.set _ ⟨T, 2, none⟩ _ (S := inT T v N V) (Or.inl rfl)) (fun _ _ h => h)
end Go.Proofs.Ytobmenbhbeflhaa
