/-
  Letters that are sometimes no batch: what is written beside them.
-/
import Derived.Test.YtekfjheaffkakaaDrawQ
import Derived.Test.YtekfjheaffkakaaDrawB
import Derived.Test.YtekfjheaffkakaaMatL
import Derived.Test.YtekfjheaffkakaaMgR13
namespace Go.Proofs.Ytekfjheaffkakaa
open Go.RowKit
set_option linter.unusedVariables false

/-- Letters behind l2Bad: only the reader's block and their own are written. -/
def RowBadO (w : World) (base r N : Nat) (row : Option Nat) (e : Ending) (w' : World) : Prop := ∃ (v' : Value) (L' : List (Int × ByteArray)), e = .returned v' ∧ Row w' base v' L' ∧ L'.length ≤ 61 ∧ Small 30 L' ∧ Rd w' r (N + 20) ∧ Only w w' (fun k => k = r ∨ row = some k) ∧ (v'.ownBlock = row ∨ ∃ k, v'.ownBlock = some k ∧ w.heap.size ≤ k)
set_option maxHeartbeats 2000000 in
theorem l2Bad_only (w : World) (r N base : Nat) (v : Value) (L : List (Int × ByteArray)) (h : Rd w r N) (hN : N ≤ 80000) (hrow : Row w base v L) (hrb : r < base) (hl : L.length ≤ 40) (hs : Small 7 L) :
    Calls Try.prog 24 #[.pointer (some ⟨r, 0, none⟩), v] w (RowBadO w base r N v.ownBlock) := by
  have hr := h.lt
  have HS := Lib.hid hs
  have HSW := Lib.hid (hs.mono (z' := 30) (by omega))
  by_cases h0 : L.length = 0
  · obtain ⟨a, c, rfl, _, _⟩ := hrow.form
    rw [h0]
    rw [h0] at hrow
    have HR := Lib.hid hrow
    have RD := Lib.hid h
    clear hrow h hs
    go_enter Try.func24, Try.ntmps24
    go_wp2
    go_ret
    exact ⟨_, L, rfl, HR, by omega, HSW, RD.out.mono (by omega) (by omega), Only.refl _ _, Or.inl rfl⟩
  rcases hrow.cases with ⟨rfl, rfl⟩ | ⟨g, c, rfl, hbg, hgl⟩
  · exact absurd rfl h0
  have HR := Lib.hid hrow
  have SG := Lib.hid (Sg.start h)
  have hz : ((L.length : Int) == 0) = false := by rw [beq_eq_false_iff_ne]; omega
  have hown : (Value.slice (some ⟨g, 0, none⟩) L.length c).ownBlock = some g := rfl
  rw [hown]
  clear hrow h hs hown
  go_enter Try.func24, Try.ntmps24
  go_wp2_with fail
  refine (pick_sg _ _ _ r _ SG.out (by omega) (by omega) (by omega)).mono ?_
  rintro e w1 ⟨j, rfl, j0, j1, sg1⟩
  obtain ⟨j, rfl⟩ := Int.eq_ofNat_of_zero_le j0
  have hj : j < L.length := by omega
  clear SG
  have SG := Lib.hid sg1
  clear sg1
  go_wp2_with fail
  refine (pick_sg _ _ _ r _ SG.out (by omega) (by omega) (by omega)).mono ?_
  rintro e w2 ⟨t, rfl, t0, t1, sg2⟩
  have RD2 := Lib.hid sg2.1
  have O2 : Hid (Only w w2 (fun k => k = r ∨ some g = some k)) := sg2.only.mono fun x _ h => Or.inl h
  have R2 := Lib.hid (HR.out.sg sg2 hrb)
  have hr2 := sg2.1.lt
  have hs2 := sg2.2.size
  clear sg2 SG HR
  cases c0 : (t == 0)
  · cases c1 : (t == 1)
    · cases c2 : (t == 2)
      · go_wp2
        go_ret
        exact ⟨_, L, rfl, R2.out, by omega, HSW, RD2.out.mono (by omega) (by omega), O2.out, Or.inl rfl⟩
      · go_wp2
        go_loopw [1] (fun u wr => ∃ (L' : List (Int × ByteArray)), L'.length ≤ 61 ∧ Hid (Small 30 L') ∧ Hid (Row wr base u L') ∧ Hid (Rd wr r (N + 1 + 1)) ∧ Hid (Only w wr (fun k => k = r ∨ some g = some k)) ∧ Hid (u.ownBlock = some g ∨ ∃ k, u.ownBlock = some k ∧ w.heap.size ≤ k) ∧ w2.heap.size ≤ wr.heap.size) (fun u _ => 61 - lenOf u)
        case atStart => exact ⟨L, by omega, HSW, R2, RD2, O2, Or.inl rfl, Nat.le_refl _⟩
        case round =>
          obtain ⟨L', hl', hsm, hrow, hrd, hbl, hown, hsz⟩ := hrel
          obtain ⟨a, c', rfl, hlc, _⟩ := hrow.out.form
          by_cases hlt : L'.length < 61
          · have sk : IntKind.i64.wrap (1000 + (L'.length : Int)) = 1000 + (L'.length : Int) := IntWalk.i64_in _ (by omega)
            have hli : (L'.length : Int) < 61 := by omega
            go_wp2_with (at_builtin; refine wpList_append_letter _ rfl _ _ rfl base _ _ rfl (hrow.out.alloc _) _ (1000 + (L'.length : Int)) ⟨#[49, 50, 48, 48, 49, 48, 49]⟩ rfl ?_ (by omega) (by simp; omega) ?_)
            · simp [go_sem]
            · intro v' w4 hr4 hg4 ho4
              have o4 : Only wr w4 (fun k => some k = (Value.slice a L'.length c').ownBlock) := (Only.new (S := fun k => some k = (Value.slice a L'.length c').ownBlock) (below_alloc' wr _)).trans (Only.of_grown hg4) (fun _ _ h => h)
              have O4 : Hid (Only w w4 (fun k => k = r ∨ some g = some k)) := hbl.out.trans o4 (fun x hx e => by
                rcases hown.out with h | ⟨k, h, hk⟩
                · exact Or.inr (by rw [← h, e])
                · rw [h] at e; injection e with e; omega)
              have H4 : Hid (v'.ownBlock = some g ∨ ∃ k, v'.ownBlock = some k ∧ w.heap.size ≤ k) := by
                rcases ho4 with e | e
                · rw [Hid, e]; exact hown.out
                · exact Or.inr ⟨_, e, by have := hbl.out.size; first | omega | (simp; omega)⟩
              have RD4 := Lib.hid ((hrd.out.below (below_alloc' _ _)).grown (hrow.out.alloc _) hrb hg4)
              have hz4 := hg4.size
              have R4 := Lib.hid hr4
              clear hr4 hg4 ho4 o4
              go_wp2
              go_roundw
              case rel => exact ⟨L' ++ [(1000 + (L'.length : Int), ⟨#[49, 50, 48, 48, 49, 48, 49]⟩)], by simp; omega, (fun y hy => by
                rcases List.mem_append.1 hy with h | h
                · exact hsm.out y h
                · rw [List.mem_singleton.1 h]; exact ⟨⟨by simp; omega, by simp; omega⟩, by show (⟨#[49, 50, 48, 48, 49, 48, 49]⟩ : ByteArray).size ≤ 30; decide⟩), R4, RD4, O4, H4, by simp at hz4; omega⟩
              case measure =>
                obtain ⟨a', c'', e, _⟩ := R4.out.form
                rw [e]
                simp [lenOf]
                omega
          · have hli : ¬ (L'.length : Int) < 61 := by omega
            go_wp2
            go_ret
            exact ⟨_, L', rfl, hrow, hl', hsm.out, hrd.out.mono (by omega) (by omega), hbl, hown.out⟩
    · have p0 : w2.cell? ⟨g, 0, none⟩ = some (.int .i64 L[0].1) := (R2.out.cells 0 (by omega)).1
      obtain ⟨⟨y0, y1⟩, _⟩ := HS.out.at 0 (by omega)
      generalize L[0].1 = y at p0 y0 y1
      have RD := Lib.hid (RD2.out.below (below_alloc' w2 (.cells #[.int .i64 0, .int .i64 10000, .int .i64 9999, .int .i64 (-1), .int .i64 y] 3)))
      go_wp2_with fail
      refine (num_sg _ [0, 10000, 9999, -1, y] w2.heap.size _ r _ (Sg.start RD.out) (by omega) (by simp) (by simp) (by omega) (cells_int [0, 10000, 9999, -1, y] _ w2)).mono ?_
      rintro e w3 ⟨q, rfl, hm, sg3⟩
      have hq : -1 ≤ q ∧ q ≤ 100000 := by simp at hm; omega
      have R3 := Lib.hid ((R2.out.alloc _).sg sg3 hrb)
      have o23 : Only w2 w3 (fun k => k = r) := (Only.new (below_alloc' w2 _)).trans sg3.only (fun _ _ h => h)
      have O3 := Lib.hid (O2.out.trans o23 (fun x hx e => Or.inl e))
      have RD3 := Lib.hid sg3.1
      have hz3 := sg3.2.size
      simp at hz3
      clear sg3 hm RD p0 o23
      obtain ⟨p0, p1, p2, p3⟩ := R3.out.cells j hj
      obtain ⟨q1, q2⟩ := R3.out.id j hj q
      have hx2 := (HS.out.at j hj).2
      have Q1 := Lib.hid q1
      have RD4 := Lib.hid (RD3.out.grown R3.out hrb q2)
      have O4 := Lib.hid (O3.out.trans (Only.of_grown q2) (fun x hx e => Or.inr e.symm))
      have SM := Lib.hid (HS.out.set j (q, L[j].2) (z' := 30) (by omega) ⟨hq, by show L[j].2.size ≤ 30; omega⟩)
      clear q1 q2
      go_wp2
      go_ret
      exact ⟨_, _, rfl, Q1, by simp; omega, SM, RD4.out.mono (by omega) (by omega), O4, Or.inl rfl⟩
  · obtain ⟨p0, p1, p2, p3⟩ := R2.out.cells j hj
    obtain ⟨⟨y0, y1⟩, y2⟩ := HS.out.at j hj
    have hcs : (L[j].2 ++ (⟨#[49]⟩ : ByteArray)).size = L[j].2.size + 1 := by rw [ByteArray.size_append]; rfl
    go_wp2_with fail
    refine (l1Bad_sg _ _ r _ _ (Sg.start RD2.out) (by omega) (by omega) (by omega)).mono ?_
    rintro e w3 ⟨s, rfl, s0, s1, sg3⟩
    have R3 := Lib.hid (R2.out.sg sg3 hrb)
    have O3 := Lib.hid (O2.out.trans sg3.only (fun x hx e => Or.inl e))
    have RD3 := Lib.hid sg3.1
    have hz3 := sg3.2.size
    clear sg3 p0 p1 p2 p3
    obtain ⟨p0, p1, p2, p3⟩ := R3.out.cells j hj
    obtain ⟨q1, q2⟩ := R3.out.code j hj s
    have Q1 := Lib.hid q1
    have RD4 := Lib.hid (RD3.out.grown R3.out hrb q2)
    have O4 := Lib.hid (O3.out.trans (Only.of_grown q2) (fun x hx e => Or.inr e.symm))
    have SM := Lib.hid (HS.out.set j (L[j].1, s) (z' := 30) (by omega) ⟨⟨y0, y1⟩, by show s.size ≤ 30; omega⟩)
    clear q1 q2
    go_wp2
    go_ret
    exact ⟨_, _, rfl, Q1, by simp; omega, SM, RD4.out.mono (by omega) (by omega), O4, Or.inl rfl⟩
end Go.Proofs.Ytekfjheaffkakaa

/-
  Slices of slices of letters that came in: where they lie, their size, their copy.
-/
namespace Go.Proofs.Ytekfjheaffkakaa
open Go.RowKit
set_option linter.unusedVariables false

/-- n slices of letters, in a slice of slices. -/
def Lss (w : World) (a : Option Addr) (n : Nat) (MM : Nat → List (Int × ByteArray)) : Prop :=
  ∀ i, i < n → ∃ b o a' c, a = some ⟨b, o, none⟩ ∧ w.cell? ⟨b, o + i, none⟩ = some (.slice a' (MM i).length c) ∧ Lts w a' (MM i).length (nI (MM i)) (nC (MM i)) ∧ Fits (MM i).length (nI (MM i)) (nC (MM i)) ∧ (MM i).length ≤ maxLen
theorem Lss.on {w w' : World} {a : Option Addr} {n : Nat} {MM : Nat → List (Int × ByteArray)} (h : Lss w a n MM) (hb : Below w.heap.size w w') : Lss w' a n MM := by
  intro i hi
  obtain ⟨b, o, a', c, e, h1, h2, h3, h4⟩ := h i hi
  have hl := World.block_lt_of_cell? _ _ h1
  exact ⟨b, o, a', c, e, (hb.cell (p := ⟨b, o + i, none⟩) hl).trans h1, h2.on hb, h3, h4⟩
theorem tot_flat (MM : Nat → List (Int × ByteArray)) : ∀ n, (M.flat MM n).length = tot MM n
  | 0 => rfl
  | n + 1 => by show (M.flat MM n ++ MM n).length = tot MM n + _; rw [List.length_append, tot_flat MM n]

theorem upd_if {M : Nat → List (Int × ByteArray)} {k : Nat} : ∀ i, upd (fun i => if i < k then M i else []) k (M k) i = if i < k + 1 then M i else [] := by
  intro i
  show (if i = k then M k else if i < k then M i else []) = _
  by_cases e : i = k
  · subst e; rw [if_pos rfl, if_pos (by omega)]
  · rw [if_neg e]
    by_cases e2 : i < k
    · rw [if_pos e2, if_pos (by omega)]
    · rw [if_neg e2, if_neg (by omega)]

end Go.Proofs.Ytekfjheaffkakaa
