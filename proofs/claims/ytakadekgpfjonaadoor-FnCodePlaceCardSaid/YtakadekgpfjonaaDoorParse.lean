/-
  What ParsePlace returns, in the program and in the model of the document.
-/
import Derived.Test.YtakadekgpfjonaaDoorText
import Derived.BigRegion
import Derived.BigCall
import Derived.Deep.Heap
namespace Go.Proofs.YtakadekgpfjonaaDoor
open Go.RowKit
open Go.PlainAid (bt get_bt bt_nonneg bt_le)

/-- A block of three numbers, which can be written. -/
def Box (w : World) (b : Nat) (x y z : Int) : Prop := (w.cell? ⟨b, 0, none⟩ = some (.int .i64 x) ∧ w.cell? ⟨b, 1, none⟩ = some (.int .i64 y) ∧ w.cell? ⟨b, 2, none⟩ = some (.int .i64 z)) ∧ (w.frozen? ⟨b, 0, none⟩ = false ∧ w.frozen? ⟨b, 1, none⟩ = false ∧ w.frozen? ⟨b, 2, none⟩ = false)
theorem Box.on {w w' : World} {b : Nat} {x y z : Int} (h : Box w b x y z) (hb : Below w.heap.size w w') : Box w' b x y z := by
  obtain ⟨⟨h0, h1, h2⟩, f0, f1, f2⟩ := h
  have hlt := World.block_lt_of_cell? _ _ h0
  have k := fun o => hb.cell (p := ⟨b, o, none⟩) hlt
  have q := fun o => hb.frozen (p := ⟨b, o, none⟩) hlt
  exact ⟨⟨by rw [k]; exact h0, by rw [k]; exact h1, by rw [k]; exact h2⟩, by rw [q]; exact f0, by rw [q]; exact f1, by rw [q]; exact f2⟩
theorem box_made (w : World) (x y z : Int) : Box (w.alloc (.cells #[.int .i64 x, .int .i64 y, .int .i64 z] 24)) w.heap.size x y z :=
  ⟨⟨by simp [go_sem], by simp [go_sem], by simp [go_sem]⟩, by simp [go_sem], by simp [go_sem], by simp [go_sem]⟩
theorem neq_list {a b : ByteArray} (h : a ≠ b) : (a.toList == b.toList) = false := by
  rw [beq_eq_false_iff_ne]
  intro e
  rw [ByteArray.toList_eq, ByteArray.toList_eq] at e
  exact h (ByteArray.ext (Array.toList_inj.1 e))
theorem below_alloc (w : World) (o : Obj) : Below w.heap.size w (w.alloc o) := (Below.refl _ _).alloc (Nat.le_refl _) _
/-- The library's variable that strings.ReplaceAll reads holds a number. -/
def Max (w : World) : Prop := ∃ m : Int, w.cell? ⟨0, 0, none⟩ = some (.int .i64 m)
theorem Max.below {w w' : World} (h : Max w) (hb : Below w.heap.size w w') : Max w' := by
  obtain ⟨m, hm⟩ := h
  exact ⟨m, by rw [hb.cell (World.block_lt_of_cell? _ _ hm)]; exact hm⟩
theorem replace_call (t : ByteArray) (w : World) (hM : Max w) (ht : t.size ≤ 1048576) :
    Calls Tryd.prog 30 #[.string t, .string ⟨#[45]⟩, .string ⟨#[]⟩] w fun e w' => e = .returned (.string (M.bare t)) ∧ Below w.heap.size w w' := by
  obtain ⟨m, hm⟩ := hM
  have h0 : (⟨#[]⟩ : ByteArray).size = 0 := rfl
  exact (Tryd.strings_ReplaceAll t ⟨#[45]⟩ ⟨#[]⟩ m w (by omega) hm (Nat.le_refl 1) (by rw [h0]; omega)).mono fun e w' h =>
    ⟨h.1.trans (congrArg (fun s => Ending.returned (.string s)) (M.bare_replace t)), h.2⟩
theorem impl_Place (s : ByteArray) (w : World) (hc : M.code s = true) :
    Calls Tryd.prog 12 #[.string s] w fun e w' => e = .returned (.tuple #[.agg #[.int .i64 (M.area s), .int .i64 (M.walk s), .int .i64 (M.point s)], .bool true]) ∧ Below w.heap.size w w' := impl_PlaceOf_yes s w hc
theorem spec_Place (s : ByteArray) (w : World) (hc : M.code s = true) :
    Calls Tryd.prog 17 #[.string s] w fun e w' => e = .returned (.tuple #[.agg #[.int .i64 (M.area s), .int .i64 (M.walk s), .int .i64 (M.point s)], .bool true]) ∧ Below w.heap.size w w' := spec_PlaceOf_yes s w hc
theorem text_of_code {s : ByteArray} (h : M.code s = true) : M.text (M.area s) (M.walk s) (M.point s) = M.fmt s := by
  rw [text_yes (M.place_of_code h), M.codeOf_place h]

set_option maxHeartbeats 1000000 in
theorem impl_ParsePlace_yes (t : ByteArray) (w : World) (hT : Pow w) (hM : Max w) (ht : t.size ≤ 1048576) (h : M.isText t = true) :
    Calls Tryd.prog 13 #[.string t] w fun e w' => e = .returned (.tuple #[.agg #[.int .i64 (M.area (M.parts t)), .int .i64 (M.walk (M.parts t)), .int .i64 (M.point (M.parts t))], .bool true]) ∧ Below w.heap.size w w' := by
  have HT := Lib.hid hT
  have HM := Lib.hid hM
  obtain ⟨t9, hc, hf⟩ := M.isText_out h
  have HC := Lib.hid hc
  have he : M.text (M.area (M.parts t)) (M.walk (M.parts t)) (M.point (M.parts t)) = t := (text_of_code hc).trans hf
  have HB := Lib.hid (M.parts_bare h)
  have hee : ((t.toList == t.toList)) = true := by simp
  clear hT hM hc hf h
  have HE := Lib.hid he
  clear he
  generalize M.parts t = u at *
  have bx0 := Lib.hid (box_made w 0 0 0)
  go_enter Tryd.func13, Tryd.ntmps13
  go_wp2_with (first
    | (go_at_call 30; refine (replace_call _ _ (HM.out.below (by go_grown)) ht).mono ?_; rw [← HB.out]; rintro e w1 ⟨rfl, hb1⟩; have h1 := (below_alloc w _).trans (hb1.mono (by simp)); have bx1 := Lib.hid (bx0.out.on hb1))
    | (go_at_call 12; refine (impl_Place _ _ HC.out).mono ?_; rintro e w2 ⟨rfl, hb2⟩; have h2 := h1.trans (hb2.mono h1.size); have bx2 := Lib.hid (bx1.out.on hb2); have hz2 := h2.size)
    | (go_at_call 14; refine (impl_FormatPlace _ _ _ _ (HT.out.below (by go_grown))).mono ?_; rw [HE.out]; rintro e w3 ⟨rfl, hb3⟩; have bx3 := (bx2.out.on (below_alloc w2 _)).on hb3; have h3 := h2.trans ((below_alloc w2 _).mono hz2 |>.trans (hb3.mono (by simp; omega))); obtain ⟨⟨e0, e1, e2⟩, f0, f1, f2⟩ := bx3; obtain ⟨⟨d0, d1, d2⟩, _⟩ := (box_made w2 _ _ _).on hb3))
  refine bodyPost_ret (v := .tuple #[.agg #[.int .i64 (M.area u), .int .i64 (M.walk u), .int .i64 (M.point u)], .bool true]) (by simp [results, Tryd.results13, go_sem, e0, e1, e2]) rfl ?_
  exact ⟨rfl, ((h3.setCell (Nat.le_refl _) _).setCell (Nat.le_refl _) _).setCell (Nat.le_refl _) _⟩

set_option maxHeartbeats 1000000 in
theorem impl_ParsePlace_no (t : ByteArray) (w : World) (hT : Pow w) (hM : Max w) (ht : t.size ≤ 1048576) (h : M.isText t = false) :
    Calls Tryd.prog 13 #[.string t] w fun e w' => e = .returned (.tuple #[.agg #[.int .i64 0, .int .i64 0, .int .i64 0], .bool false]) ∧ Below w.heap.size w w' := by
  have HT := Lib.hid hT
  have HM := Lib.hid hM
  have bx0 := Lib.hid (box_made w 0 0 0)
  have hsz : (M.bare t).size ≤ maxLen := by have := M.bare_size t; unfold maxLen; omega
  have hib := M.isText_bare t
  rw [h] at hib
  clear hT hM h
  cases hc : M.code (M.bare t)
  · have HC := Lib.hid hc
    clear hib hc
    go_enter Tryd.func13, Tryd.ntmps13
    go_wp2_with (first
      | (go_at_call 30; refine (replace_call _ _ (HM.out.below (by go_grown)) ht).mono ?_; rintro e w1 ⟨rfl, hb1⟩; have h1 := (below_alloc w _).trans (hb1.mono (by simp)); have bx1 := Lib.hid (bx0.out.on hb1))
      | (go_at_call 12; refine (impl_PlaceOf_no _ _ hsz HC.out).mono ?_; rintro e w2 ⟨rfl, hb2⟩; have h2 := h1.trans (hb2.mono h1.size); have bx2 := bx1.out.on hb2; have hz2 := h2.size; obtain ⟨⟨e0, e1, e2⟩, f0, f1, f2⟩ := bx2; have hlt2 : w.heap.size < w2.heap.size := World.block_lt_of_cell? _ _ e0))
    refine bodyPost_ret (v := .tuple #[.agg #[.int .i64 0, .int .i64 0, .int .i64 0], .bool false]) (by simp [results, Tryd.results13, go_sem, e0, e1, e2, hlt2]) rfl ?_
    exact ⟨rfl, (((h2.setCell (Nat.le_refl _) _).setCell (Nat.le_refl _) _).setCell (Nat.le_refl _) _).alloc (by simp only [World.size_setCell]; exact hz2) _⟩
  · rw [hc, Bool.true_and] at hib
    have hne : M.fmt (M.bare t) ≠ t := fun e => by rw [decide_eq_true e] at hib; cases hib
    have HE := Lib.hid (text_of_code hc)
    have hee : ((M.fmt (M.bare t)).toList == t.toList) = false := neq_list hne
    have HC := Lib.hid hc
    clear hib hc hne
    go_enter Tryd.func13, Tryd.ntmps13
    go_wp2_with (first
      | (go_at_call 30; refine (replace_call _ _ (HM.out.below (by go_grown)) ht).mono ?_; rintro e w1 ⟨rfl, hb1⟩; have h1 := (below_alloc w _).trans (hb1.mono (by simp)); have bx1 := Lib.hid (bx0.out.on hb1))
      | (go_at_call 12; refine (impl_Place _ _ HC.out).mono ?_; rintro e w2 ⟨rfl, hb2⟩; have h2 := h1.trans (hb2.mono h1.size); have bx2 := Lib.hid (bx1.out.on hb2); have hz2 := h2.size)
      | (go_at_call 14; refine (impl_FormatPlace _ _ _ _ (HT.out.below (by go_grown))).mono ?_; rw [HE.out]; rintro e w3 ⟨rfl, hb3⟩; have bx3 := (bx2.out.on (below_alloc w2 _)).on hb3; have h3 := h2.trans ((below_alloc w2 _).mono hz2 |>.trans (hb3.mono (by simp; omega))); obtain ⟨⟨e0, e1, e2⟩, f0, f1, f2⟩ := bx3; obtain ⟨⟨d0, d1, d2⟩, _⟩ := (box_made w2 _ _ _).on hb3))
    refine bodyPost_ret (v := .tuple #[.agg #[.int .i64 0, .int .i64 0, .int .i64 0], .bool false]) (by simp [results, Tryd.results13, go_sem, e0, e1, e2]) rfl ?_
    exact ⟨rfl, ((h3.setCell (Nat.le_refl _) _).setCell (Nat.le_refl _) _).setCell (Nat.le_refl _) _⟩

theorem Box.stored {w : World} {b : Nat} {x y z : Int} (h : Box w b x y z) (p q r : Int) : Box (((w.setCell ⟨b, 0, none⟩ (.int .i64 p)).setCell ⟨b, 1, none⟩ (.int .i64 q)).setCell ⟨b, 2, none⟩ (.int .i64 r)) b p q r := by
  obtain ⟨⟨h0, h1, h2⟩, f0, f1, f2⟩ := h
  exact ⟨⟨by simp [go_sem, h0], by simp [go_sem, h1], by simp [go_sem, h2]⟩, by simp [go_sem, f0], by simp [go_sem, f1], by simp [go_sem, f2]⟩
theorem Box.setOther {w : World} {b : Nat} {x y z : Int} (h : Box w b x y z) {c : Nat} (hc : b ≠ c) (o : Nat) (v : Value) : Box (w.setCell ⟨c, o, none⟩ v) b x y z := by
  obtain ⟨⟨h0, h1, h2⟩, f0, f1, f2⟩ := h
  have k : ∀ i, (w.setCell ⟨c, o, none⟩ v).cell? ⟨b, i, none⟩ = w.cell? ⟨b, i, none⟩ := fun i => World.cell?_of_block (Deep.blk_setCell_other w ⟨c, o, none⟩ v b hc)
  have q : ∀ i, (w.setCell ⟨c, o, none⟩ v).frozen? ⟨b, i, none⟩ = w.frozen? ⟨b, i, none⟩ := fun i => World.frozen?_of_block (Deep.blk_setCell_other w ⟨c, o, none⟩ v b hc)
  exact ⟨⟨by rw [k]; exact h0, by rw [k]; exact h1, by rw [k]; exact h2⟩, by rw [q]; exact f0, by rw [q]; exact f1, by rw [q]; exact f2⟩
theorem Box.three {w : World} {b c : Nat} {x y z : Int} (h : Box w b x y z) (hc : b ≠ c) (p q r : Int) : Box (((w.setCell ⟨c, 0, none⟩ (.int .i64 p)).setCell ⟨c, 1, none⟩ (.int .i64 q)).setCell ⟨c, 2, none⟩ (.int .i64 r)) b x y z :=
  ((h.setOther hc 0 _).setOther hc 1 _).setOther hc 2 _
theorem parts_eq (t : ByteArray) : t.extract 0 3 ++ t.extract 4 6 ++ t.extract 7 9 = M.parts t := rfl
theorem stepB {w a b : World} (h : Below w.heap.size w a) (k : Below a.heap.size a b) : Below w.heap.size w b := h.trans (k.mono h.size)
theorem not_text {t : ByteArray} (h : M.isText t = false) {s : ByteArray} (hc : M.code s = true) : M.fmt s ≠ t := fun e => by
  rw [← e, M.isText_fmt hc] at h
  cases h
set_option maxHeartbeats 1000000 in
theorem spec_ParsePlace_yes (t : ByteArray) (w : World) (h : M.isText t = true) :
    Calls Tryd.prog 19 #[.string t] w fun e w' => e = .returned (.tuple #[.agg #[.int .i64 (M.area (M.parts t)), .int .i64 (M.walk (M.parts t)), .int .i64 (M.point (M.parts t))], .bool true]) ∧ Below w.heap.size w w' := by
  obtain ⟨t9, hc, hf⟩ := M.isText_out h
  have HC := Lib.hid hc
  have he : M.text (M.area (M.parts t)) (M.walk (M.parts t)) (M.point (M.parts t)) = t := (text_of_code hc).trans hf
  have HP := Lib.hid (parts_eq t)
  have hee : ((t.toList == t.toList)) = true := by simp
  have bx0 := Lib.hid (box_made w 0 0 0)
  clear hc hf h
  have HE := Lib.hid he
  clear he
  have by0 : Hid (Box ((w.alloc (.cells #[.int .i64 0, .int .i64 0, .int .i64 0] 24)).alloc (.cells #[.int .i64 0, .int .i64 0, .int .i64 0] 24)).drew (w.heap.size + 1) 0 0 0) := by
    have := box_made (w.alloc (.cells #[.int .i64 0, .int .i64 0, .int .i64 0] 24)) 0 0 0
    simp only [World.size_alloc] at this
    exact this
  go_enter Tryd.func19, Tryd.ntmps19
  go_wp2
  go_region_with (first
    | (go_at_call 17; rw [HP.out]; refine (spec_Place _ _ HC.out).mono ?_; rintro e w2 ⟨rfl, hb2⟩; have by2 := Box.on (w := ((w.alloc (.cells #[.int .i64 0, .int .i64 0, .int .i64 0] 24)).alloc (.cells #[.int .i64 0, .int .i64 0, .int .i64 0] 24)).drew) by0.out hb2; have h2 := stepB (w := w) (by go_grown) hb2; have bx2 := Lib.hid (Box.on (Box.on bx0.out (by go_grown)) hb2); have hz2 := h2.size; have BY2 := Lib.hid by2; obtain ⟨⟨d0, d1, d2⟩, g0, g1, g2⟩ := by2; have hlt2 : w.heap.size + 1 < w2.heap.size := World.block_lt_of_cell? _ _ d0)
    | (go_at_call 17; rw [HP.out]; refine (spec_Place _ _ HC.out).mono ?_; rintro e w2 ⟨rfl, hb2⟩; have h2 := stepB (w := w) (by go_grown) hb2; have bx2 := Lib.hid (Box.on (Box.on bx0.out (by go_grown)) hb2); have hz2 := h2.size))
  · go_wp2_with (go_at_call 22; refine (spec_FormatPlace _ _ _ _).mono ?_; rw [HE.out]; rintro e w3 ⟨rfl, hb3⟩; have bx3 := (bx2.out.on (below_alloc w2 _)).on hb3; have h3 := stepB (h2.alloc hz2 _) hb3; obtain ⟨⟨e0, e1, e2⟩, f0, f1, f2⟩ := bx3; obtain ⟨⟨d0, d1, d2⟩, _⟩ := (box_made w2 _ _ _).on hb3)
    refine bodyPost_ret (v := .tuple #[.agg #[.int .i64 (M.area (M.parts t)), .int .i64 (M.walk (M.parts t)), .int .i64 (M.point (M.parts t))], .bool true]) (by simp [results, Tryd.results19, go_sem, e0, e1, e2]) rfl ?_
    exact ⟨rfl, ((h3.setCell (Nat.le_refl _) _).setCell (Nat.le_refl _) _).setCell (Nat.le_refl _) _⟩
  · go_wp2_with (go_at_call 22; refine (spec_FormatPlace _ _ _ _).mono ?_; rw [HE.out]; rintro e w3 ⟨rfl, hb3⟩; have bx3 := (bx2.out.three (by omega) _ _ _).on hb3; have h3 := stepB (((h2.setCell (by simp) _).setCell (by simp) _).setCell (by simp) _) hb3; obtain ⟨⟨e0, e1, e2⟩, f0, f1, f2⟩ := bx3; obtain ⟨⟨d0, d1, d2⟩, _⟩ := (BY2.out.stored _ _ _).on hb3)
    refine bodyPost_ret (v := .tuple #[.agg #[.int .i64 (M.area (M.parts t)), .int .i64 (M.walk (M.parts t)), .int .i64 (M.point (M.parts t))], .bool true]) (by simp [results, Tryd.results19, go_sem, e0, e1, e2]) rfl ?_
    exact ⟨rfl, ((h3.setCell (Nat.le_refl _) _).setCell (Nat.le_refl _) _).setCell (Nat.le_refl _) _⟩

set_option maxHeartbeats 1000000 in
theorem spec_ParsePlace_other (t : ByteArray) (w : World) (t9 : t.size = 9) (A B C : Int) (ok : Bool)
    (hP : ∀ W, Calls Tryd.prog 17 #[.string (M.parts t)] W fun e w' => e = .returned (.tuple #[.agg #[.int .i64 A, .int .i64 B, .int .i64 C], .bool ok]) ∧ Below W.heap.size W w')
    (hne : ((M.text A B C).toList == t.toList) = false) :
    Calls Tryd.prog 19 #[.string t] w fun e w' => e = .returned (.tuple #[.agg #[.int .i64 0, .int .i64 0, .int .i64 0], .bool false]) ∧ Below w.heap.size w w' := by
  have HP := Lib.hid (parts_eq t)
  have HPL := Lib.hid hP
  have bx0 := Lib.hid (box_made w 0 0 0)
  have by0 : Hid (Box ((w.alloc (.cells #[.int .i64 0, .int .i64 0, .int .i64 0] 24)).alloc (.cells #[.int .i64 0, .int .i64 0, .int .i64 0] 24)).drew (w.heap.size + 1) 0 0 0) := by
    have := box_made (w.alloc (.cells #[.int .i64 0, .int .i64 0, .int .i64 0] 24)) 0 0 0
    simp only [World.size_alloc] at this
    exact this
  clear hP
  go_enter Tryd.func19, Tryd.ntmps19
  go_wp2
  go_region_with (first
    | (go_at_call 17; rw [HP.out]; refine (HPL.out _).mono ?_; rintro e w2 ⟨rfl, hb2⟩; have by2 := Box.on (w := ((w.alloc (.cells #[.int .i64 0, .int .i64 0, .int .i64 0] 24)).alloc (.cells #[.int .i64 0, .int .i64 0, .int .i64 0] 24)).drew) by0.out hb2; have h2 := stepB (w := w) (by go_grown) hb2; have bx2 := Lib.hid (Box.on (Box.on bx0.out (by go_grown)) hb2); have hz2 := h2.size; have BY2 := Lib.hid by2; obtain ⟨⟨d0, d1, d2⟩, g0, g1, g2⟩ := by2; have hlt2 : w.heap.size + 1 < w2.heap.size := World.block_lt_of_cell? _ _ d0)
    | (go_at_call 17; rw [HP.out]; refine (HPL.out _).mono ?_; rintro e w2 ⟨rfl, hb2⟩; have h2 := stepB (w := w) (by go_grown) hb2; have bx2 := Lib.hid (Box.on (Box.on bx0.out (by go_grown)) hb2); have hz2 := h2.size))
  · go_wp2_with (go_at_call 22; refine (spec_FormatPlace _ _ _ _).mono ?_; rintro e w3 ⟨rfl, hb3⟩; have bx3 := (bx2.out.on (below_alloc w2 _)).on hb3; have h3 := stepB (h2.alloc hz2 _) hb3; obtain ⟨⟨e0, e1, e2⟩, f0, f1, f2⟩ := bx3)
    refine bodyPost_ret (v := .tuple #[.agg #[.int .i64 0, .int .i64 0, .int .i64 0], .bool false]) (by simp [results, Tryd.results19, go_sem, e0, e1, e2]) rfl ?_
    exact ⟨rfl, ((h3.setCell (Nat.le_refl _) _).setCell (Nat.le_refl _) _).setCell (Nat.le_refl _) _⟩
  · go_wp2_with (go_at_call 22; refine (spec_FormatPlace _ _ _ _).mono ?_; rintro e w3 ⟨rfl, hb3⟩; have bx3 := (bx2.out.three (by omega) _ _ _).on hb3; have h3 := stepB (((h2.setCell (by simp) _).setCell (by simp) _).setCell (by simp) _) hb3; obtain ⟨⟨e0, e1, e2⟩, f0, f1, f2⟩ := bx3)
    refine bodyPost_ret (v := .tuple #[.agg #[.int .i64 0, .int .i64 0, .int .i64 0], .bool false]) (by simp [results, Tryd.results19, go_sem, e0, e1, e2]) rfl ?_
    exact ⟨rfl, ((h3.setCell (Nat.le_refl _) _).setCell (Nat.le_refl _) _).setCell (Nat.le_refl _) _⟩

set_option maxHeartbeats 1000000 in
theorem spec_ParsePlace_no (t : ByteArray) (w : World) (h : M.isText t = false) :
    Calls Tryd.prog 19 #[.string t] w fun e w' => e = .returned (.tuple #[.agg #[.int .i64 0, .int .i64 0, .int .i64 0], .bool false]) ∧ Below w.heap.size w w' := by
  by_cases t9 : t.size = 9
  · have hps : (M.parts t).size ≤ maxLen := by
      have : (M.parts t).size = 7 := by unfold M.parts; simp only [ByteArray.size_append, ByteArray.size_extract]; omega
      unfold maxLen; omega
    cases hc : M.code (M.parts t)
    · exact spec_ParsePlace_other t w t9 0 0 0 false (fun W => spec_PlaceOf_no _ W hps hc) (neq_list (by rw [text_yes (by decide)]; exact not_text h (M.codeOf_code (by decide))))
    · exact spec_ParsePlace_other t w t9 _ _ _ true (fun W => spec_Place _ W hc) (neq_list (by rw [text_of_code hc]; exact not_text h hc))
  · have hne : ((t.size : Int) == 9) = false := by simp; omega
    clear h
    go_enter Tryd.func19, Tryd.ntmps19
    go_wp2
    refine bodyPost_ret (v := .tuple #[.agg #[.int .i64 0, .int .i64 0, .int .i64 0], .bool false]) (by simp [results, Tryd.results19, go_sem]) rfl ?_
    exact ⟨rfl, by go_grown⟩
theorem toPlace_below (a b c : Int) (w : World) : Calls Tryd.prog 21 #[.agg #[.int .i64 a, .int .i64 b, .int .i64 c]] w fun e w' => e = .returned (.agg #[.int .i64 a, .int .i64 b, .int .i64 c]) ∧ Below w.heap.size w w' :=
  (toPlace_any a b c w).mono fun e w' h => ⟨h.1, by rw [h.2]; go_grown⟩
theorem eqPlace_below (a b c : Int) (w : World) : Calls Tryd.prog 23 #[.agg #[.int .i64 a, .int .i64 b, .int .i64 c], .agg #[.int .i64 a, .int .i64 b, .int .i64 c]] w fun e w' => e = .returned (.bool true) ∧ Below w.heap.size w w' :=
  (eqPlace_same a b c w).mono fun e w' h => ⟨h.1, by rw [h.2]; go_grown⟩
end Go.Proofs.YtakadekgpfjonaaDoor
