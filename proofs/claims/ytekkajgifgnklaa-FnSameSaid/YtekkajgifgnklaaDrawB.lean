/-
  Drawn letters that are sometimes no batch.
-/
import Derived.Test.YtekkajgifgnklaaDrawG
import Derived.Test.YtekkajgifgnklaaMark
namespace Go.Proofs.Ytekkajgifgnklaa
open Go.RowKit

theorem lcells_code (L : List (Int × ByteArray)) (j : Nat) (hj : j < L.length) (s : ByteArray) : (lcells L).set (j * 2 + 1) (.string s) = lcells (L.set j (L[j].1, s)) := by
  rw [← lcells_set L j L[j].1 s]
  congr 1
  apply List.ext_getElem?
  intro i
  rw [List.getElem?_set]
  split
  · next e => subst e; rw [(lcells_at L j hj).1]; split
              · rfl
              · next h => exact absurd (by rw [lcells_length]; omega) h
  · rfl
theorem lcells_id (L : List (Int × ByteArray)) (j : Nat) (hj : j < L.length) (x : Int) : (lcells L).set (j * 2) (.int .i64 x) = lcells (L.set j (x, L[j].2)) := by
  rw [← lcells_set L j x L[j].2]
  apply List.ext_getElem?
  intro i
  rw [List.getElem?_set (i := j * 2 + 1)]
  split
  · next e => subst e; rw [List.getElem?_set_ne (by omega), (lcells_at L j hj).2]; split
              · rfl
              · next h => exact absurd (by simp [lcells_length]; omega) h
  · rfl
theorem Row.code {w : World} {base g c : Nat} {L : List (Int × ByteArray)} (h : Row w base (.slice (some ⟨g, 0, none⟩) L.length c) L) (j : Nat) (hj : j < L.length) (s : ByteArray) :
    Row (w.setCell ⟨g, j * 2 + 1, none⟩ (.string s)) base (.slice (some ⟨g, 0, none⟩) L.length c) (L.set j (L[j].1, s)) ∧ w.grownBy (w.setCell ⟨g, j * 2 + 1, none⟩ (.string s)) (some g) := by
  have hs := World.ownsRow.stored h (j * 2 + 1) (.string s)
  rw [lcells_code L j hj s] at hs
  exact ⟨by unfold Row; rw [List.length_set]; exact hs.1, hs.2⟩
theorem Row.id {w : World} {base g c : Nat} {L : List (Int × ByteArray)} (h : Row w base (.slice (some ⟨g, 0, none⟩) L.length c) L) (j : Nat) (hj : j < L.length) (x : Int) :
    Row (w.setCell ⟨g, j * 2, none⟩ (.int .i64 x)) base (.slice (some ⟨g, 0, none⟩) L.length c) (L.set j (x, L[j].2)) ∧ w.grownBy (w.setCell ⟨g, j * 2, none⟩ (.int .i64 x)) (some g) := by
  have hs := World.ownsRow.stored h (j * 2) (.int .i64 x)
  rw [lcells_id L j hj x] at hs
  exact ⟨by unfold Row; rw [List.length_set]; exact hs.1, hs.2⟩
theorem Row.cells {w : World} {base g c : Nat} {L : List (Int × ByteArray)} (h : Row w base (.slice (some ⟨g, 0, none⟩) L.length c) L) (j : Nat) (hj : j < L.length) :
    w.cell? ⟨g, j * 2, none⟩ = some (.int .i64 L[j].1) ∧ w.cell? ⟨g, j * 2 + 1, none⟩ = some (.string L[j].2) ∧ w.frozen? ⟨g, j * 2, none⟩ = false ∧ w.frozen? ⟨g, j * 2 + 1, none⟩ = false :=
  ⟨by rw [World.ownsRow.cellAt h (j * 2) (by omega)]; exact (lcells_at L j hj).1, by rw [World.ownsRow.cellAt h (j * 2 + 1) (by omega)]; exact (lcells_at L j hj).2, World.ownsRow.frozenAt h _, World.ownsRow.frozenAt h _⟩
theorem Small.set {z : Nat} {L : List (Int × ByteArray)} (h : Small z L) (j : Nat) (y : Int × ByteArray) {z' : Nat} (hz : z ≤ z') (hy : (-1 ≤ y.1 ∧ y.1 ≤ 100000) ∧ y.2.size ≤ z') : Small z' (L.set j y) := fun x hx => by
  rcases List.mem_or_eq_of_mem_set hx with h' | rfl
  · have := h x h'; exact ⟨this.1, by omega⟩
  · exact hy
theorem Small.mono {z z' : Nat} {L : List (Int × ByteArray)} (h : Small z L) (hz : z ≤ z') : Small z' L := fun x hx => ⟨(h x hx).1, Nat.le_trans (h x hx).2 hz⟩
theorem Small.at {z : Nat} {L : List (Int × ByteArray)} (h : Small z L) (j : Nat) (hj : j < L.length) : (-1 ≤ L[j].1 ∧ L[j].1 ≤ 100000) ∧ L[j].2.size ≤ z := h _ (List.getElem_mem hj)
def lenOf : Value → Nat
  | .slice _ n _ => n
  | _ => 0
theorem below_alloc' (w : World) (o : Obj) : Below w.heap.size w (w.alloc o) := (Below.refl _ _).alloc (Nat.le_refl _) _
def RowBad (w : World) (base r N : Nat) (e : Ending) (w' : World) : Prop := ∃ (v' : Value) (L' : List (Int × ByteArray)), e = .returned v' ∧ Row w' base v' L' ∧ L'.length ≤ 61 ∧ Small 30 L' ∧ Rd w' r (N + 20) ∧ Below r w w'
theorem Sg.below_r {w w' : World} {r N : Nat} (h : Sg w w' r N) (hr : r < w.heap.size) : Below r w w' := ⟨h.2.os, h.2.tape, h.2.output, h.2.size, fun k hk => h.2.block k (by omega) (by intro e; injection e with e; omega)⟩
theorem grown_r {w w' : World} {r : Nat} {row : Option Nat} (h : w.grownBy w' row) (hr : ∀ j, row = some j → r ≤ j) (hs : r ≤ w.heap.size) : Below r w w' := ⟨h.os, h.tape, h.output, h.size, fun k hk => h.block k (by omega) (by intro e; have := hr k e.symm; omega)⟩
set_option maxHeartbeats 2000000 in
theorem l2Bad_any (w : World) (r N base : Nat) (v : Value) (L : List (Int × ByteArray)) (h : Rd w r N) (hN : N ≤ 80000) (hrow : Row w base v L) (hrb : r < base) (hl : L.length ≤ 40) (hs : Small 7 L) :
    Calls Try.prog 20 #[.pointer (some ⟨r, 0, none⟩), v] w (RowBad w base r N) := by
  have hr := h.lt
  have HS := Lib.hid hs
  have HSW := Lib.hid (hs.mono (z' := 30) (by omega))
  by_cases h0 : L.length = 0
  · obtain ⟨a, c, rfl, _, _⟩ := hrow.form
    rw [h0]
    rw [h0] at hrow
    have HR := Lib.hid hrow
    have RD := Lib.hid h
    clear hrow h hs
    go_enter Try.func20, Try.ntmps20
    go_wp2
    go_ret
    exact ⟨_, L, rfl, HR, by omega, HSW, RD.out.mono (by omega) (by omega), Below.refl _ _⟩
  rcases hrow.cases with ⟨rfl, rfl⟩ | ⟨g, c, rfl, hbg, hgl⟩
  · exact absurd rfl h0
  have HR := Lib.hid hrow
  have SG := Lib.hid (Sg.start h)
  have hz : ((L.length : Int) == 0) = false := by rw [beq_eq_false_iff_ne]; omega
  clear hrow h hs
  go_enter Try.func20, Try.ntmps20
  go_wp2_with fail
  refine (pick_sg _ _ _ r _ SG.out (by omega) (by omega) (by omega)).mono ?_
  rintro e w1 ⟨j, rfl, j0, j1, sg1⟩
  obtain ⟨j, rfl⟩ := Int.eq_ofNat_of_zero_le j0
  have hj : j < L.length := by omega
  clear SG
  have SG := Lib.hid sg1
  clear sg1
  go_wp2_with fail
  refine (pick_sg _ _ _ r _ SG.out (by omega) (by omega) (by omega)).mono ?_
  rintro e w2 ⟨t, rfl, t0, t1, sg2⟩
  have SG2 := Lib.hid sg2
  have R2 := Lib.hid (HR.out.sg sg2 hrb)
  have hr2 := sg2.1.lt
  have hs2 := sg2.2.size
  clear sg2 SG
  cases c0 : (t == 0)
  · cases c1 : (t == 1)
    · cases c2 : (t == 2)
      · go_wp2
        go_ret
        exact ⟨_, L, rfl, R2.out, by omega, HSW, SG2.out.1.mono (by omega) (by omega), SG2.out.below_r hr⟩
      · have RD := Lib.hid SG2.out.1
        have BL := Lib.hid (SG2.out.below_r hr)
        clear SG2 HR
        go_wp2
        go_loopw [1] (fun u wr => ∃ (L' : List (Int × ByteArray)), L'.length ≤ 61 ∧ Hid (Small 30 L') ∧ Hid (Row wr base u L') ∧ Hid (Rd wr r (N + 1 + 1)) ∧ Hid (Below r w wr) ∧ w2.heap.size ≤ wr.heap.size) (fun u _ => 61 - lenOf u)
        case atStart => exact ⟨L, by omega, HSW, R2, RD, BL, Nat.le_refl _⟩
        case round =>
          obtain ⟨L', hl', hsm, hrow, hrd, hbl, hsz⟩ := hrel
          obtain ⟨a, c', rfl, hlc, _⟩ := hrow.out.form
          by_cases hlt : L'.length < 61
          · have sk : IntKind.i64.wrap (1000 + (L'.length : Int)) = 1000 + (L'.length : Int) := IntWalk.i64_in _ (by omega)
            have hli : (L'.length : Int) < 61 := by omega
            go_wp2_with (at_builtin; refine wpList_append_letter _ rfl _ _ rfl base _ _ rfl (hrow.out.alloc _) _ (1000 + (L'.length : Int)) ⟨#[49, 50, 48, 48, 49, 48, 49]⟩ rfl ?_ (by omega) (by simp; omega) ?_)
            · simp [go_sem]
            · intro v' w4 hr4 hg4 ho4
              have hbl4 : Hid (Below r w w4) := (hbl.out.alloc (Nat.le_trans (by omega) hbl.out.size) _).trans (grown_r hg4 (fun j e => Nat.le_trans (Nat.le_of_lt hrb) (hrow.out.lt j e).1) (by simp; omega))
              have RD4 := Lib.hid ((hrd.out.below (below_alloc' _ _)).grown (hrow.out.alloc _) hrb hg4)
              have hz4 := hg4.size
              have R4 := Lib.hid hr4
              clear hr4 hg4 ho4
              go_wp2
              go_roundw
              case rel => exact ⟨L' ++ [(1000 + (L'.length : Int), ⟨#[49, 50, 48, 48, 49, 48, 49]⟩)], by simp; omega, (fun y hy => by
                rcases List.mem_append.1 hy with h | h
                · exact hsm.out y h
                · rw [List.mem_singleton.1 h]; exact ⟨⟨by simp; omega, by simp; omega⟩, by show (⟨#[49, 50, 48, 48, 49, 48, 49]⟩ : ByteArray).size ≤ 30; decide⟩), R4, RD4, hbl4, by simp at hz4; omega⟩
              case measure =>
                obtain ⟨a', c'', e, _⟩ := R4.out.form
                rw [e]
                simp [lenOf]
                omega
          · have hli : ¬ (L'.length : Int) < 61 := by omega
            go_wp2
            go_ret
            exact ⟨_, L', rfl, hrow, hl', hsm.out, hrd.out.mono (by omega) (by omega), hbl⟩
    · have p0 : w2.cell? ⟨g, 0, none⟩ = some (.int .i64 L[0].1) := (R2.out.cells 0 (by omega)).1
      obtain ⟨⟨y0, y1⟩, _⟩ := HS.out.at 0 (by omega)
      generalize L[0].1 = y at p0 y0 y1
      have RD := Lib.hid (SG2.out.1.below (below_alloc' w2 (.cells #[.int .i64 0, .int .i64 10000, .int .i64 9999, .int .i64 (-1), .int .i64 y] 3)))
      go_wp2_with fail
      refine (num_sg _ [0, 10000, 9999, -1, y] w2.heap.size _ r _ (Sg.start RD.out) (by omega) (by simp) (by simp) (by omega) (cells_int [0, 10000, 9999, -1, y] _ w2)).mono ?_
      rintro e w3 ⟨q, rfl, hm, sg3⟩
      have hq : -1 ≤ q ∧ q ≤ 100000 := by simp at hm; omega
      have R3 := Lib.hid ((R2.out.alloc _).sg sg3 hrb)
      have BL := Lib.hid (((SG2.out.below_r hr).alloc (by omega) _).trans (sg3.below_r (by simp; omega)))
      have RD3 := Lib.hid sg3.1
      have hz3 := sg3.2.size
      simp at hz3
      clear sg3 hm RD p0
      obtain ⟨p0, p1, p2, p3⟩ := R3.out.cells j hj
      obtain ⟨q1, q2⟩ := R3.out.id j hj q
      have hx2 := (HS.out.at j hj).2
      have Q1 := Lib.hid q1
      have Q2 := Lib.hid q2
      have RD4 := Lib.hid (RD3.out.grown R3.out hrb q2)
      have BL4 := Lib.hid (BL.out.trans (grown_r q2 (fun j e => by injection e with e; omega) (by omega)))
      have SM := Lib.hid (HS.out.set j (q, L[j].2) (z' := 30) (by omega) ⟨hq, by show L[j].2.size ≤ 30; omega⟩)
      clear q1 q2
      go_wp2
      go_ret
      exact ⟨_, _, rfl, Q1, by simp; omega, SM, RD4.out.mono (by omega) (by omega), BL4⟩
  · obtain ⟨p0, p1, p2, p3⟩ := R2.out.cells j hj
    obtain ⟨⟨y0, y1⟩, y2⟩ := HS.out.at j hj
    have hcs : (L[j].2 ++ (⟨#[49]⟩ : ByteArray)).size = L[j].2.size + 1 := by rw [ByteArray.size_append]; rfl
    go_wp2_with fail
    refine (l1Bad_sg _ _ r _ _ (Sg.start SG2.out.1) (by omega) (by omega) (by omega)).mono ?_
    rintro e w3 ⟨s, rfl, s0, s1, sg3⟩
    have R3 := Lib.hid (R2.out.sg sg3 hrb)
    have BL := Lib.hid ((SG2.out.below_r hr).trans (sg3.below_r hr2))
    have RD3 := Lib.hid sg3.1
    have hz3 := sg3.2.size
    clear sg3 p0 p1 p2 p3
    obtain ⟨p0, p1, p2, p3⟩ := R3.out.cells j hj
    obtain ⟨q1, q2⟩ := R3.out.code j hj s
    have Q1 := Lib.hid q1
    have RD4 := Lib.hid (RD3.out.grown R3.out hrb q2)
    have BL4 := Lib.hid (BL.out.trans (grown_r q2 (fun j e => by injection e with e; omega) (by omega)))
    have SM := Lib.hid (HS.out.set j (L[j].1, s) (z' := 30) (by omega) ⟨⟨y0, y1⟩, by show s.size ≤ 30; omega⟩)
    clear q1 q2
    go_wp2
    go_ret
    exact ⟨_, _, rfl, Q1, by simp; omega, SM, RD4.out.mono (by omega) (by omega), BL4⟩
def RowOpen (w : World) (r N : Nat) (e : Ending) (w' : World) : Prop := ∃ (base : Nat) (v' : Value) (L' : List (Int × ByteArray)), e = .returned v' ∧ r < base ∧ Row w' base v' L' ∧ L'.length ≤ 61 ∧ Small 30 L' ∧ Rd w' r N ∧ Below r w w'
/-- Drawn letters, and a number. -/
def Lets (w w' : World) (v : Value) : Prop := ∃ (a : Option Addr) (n c : Nat) (I : Nat → Int) (C : Nat → ByteArray), v = .slice a n c ∧ Lts w' a n I C ∧ Fits n I C ∧ n ≤ 61 ∧ Below w.heap.size w w'
theorem lets_of {w w' : World} {base : Nat} {v : Value} {L : List (Int × ByteArray)} (h : Row w' base v L) (hl : L.length ≤ 61) (hs : Small 30 L) (hb : Below w.heap.size w w') : Lets w w' v := by
  obtain ⟨a, c, rfl, _, hL⟩ := h.form
  refine ⟨a, _, c, _, _, rfl, hL, fun i hi => ?_, hl, hb⟩
  have := hs.at i hi
  rw [nI_at hi, nC_at hi]
  exact ⟨by omega, by unfold maxLen; omega⟩
def LetsNum (w : World) (e : Ending) (w' : World) : Prop := ∃ (v : Value) (x : Int), e = .returned (.tuple #[v, .int .i64 x]) ∧ Lets w w' v
def LetsStr (w : World) (e : Ending) (w' : World) : Prop := ∃ (v : Value) (s : ByteArray), e = .returned (.tuple #[v, .string s]) ∧ s.size ≤ 30 ∧ Lets w w' v
end Go.Proofs.Ytekkajgifgnklaa
