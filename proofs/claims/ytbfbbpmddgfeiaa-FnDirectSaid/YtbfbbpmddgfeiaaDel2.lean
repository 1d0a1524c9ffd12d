/-
  Orders without those for one code: DeleteFunc, and what the program and the model make of it.
-/
import Derived.Test.YtbfbbpmddgfeiaaDel
namespace Go.Proofs.Ytbfbbpmddgfeiaa
open Go.RowKit Go.Maps
open Go.PlainAid (bt get_bt bt_nonneg bt_le)
set_option linter.unusedVariables false

/-- What DeleteFunc leaves in the row that it is given. -/
def DelRes (w : World) (base : Nat) (s : Option Nat) (L : List (ByteArray × ByteArray)) (e : Ending) (w' : World) : Prop := ∃ v, e = .returned v ∧ FRow w' base v L ∧ w.grownBy w' s ∧ v.ownBlock = s

set_option maxHeartbeats 2000000 in
set_option maxRecDepth 100000 in
theorem delete_from (w : World) (base : Nat) (v : Value) (L : List (ByteArray × ByteArray)) (h : FRow w base v L) (hn : L.length ≤ 1048576) (B : Nat) (x : ByteArray) (hB : w.cell? ⟨B, 0, none⟩ = some (.string x)) (hne : v.ownBlock ≠ some B) :
    Calls Try.prog 86 #[v, .func (.func 88) #[] #[.pointer (some ⟨B, 0, none⟩)]] w (DelRes w base v.ownBlock (M.wo x L)) := by
  have hlB := World.block_lt_of_cell? _ _ hB
  have HB := Lib.hid hB
  obtain ⟨a, c, hv, hLc, hfw⟩ := h.form
  rcases M.rank_cases (nF L) x L.length with ⟨hr, hno⟩ | ⟨i, hi, hFi, hno, hr⟩
  · have hwo : M.wo x L = L := M.wo_all fun j hj => by rw [← nF_at hj]; exact hno j hj
    rw [hwo]
    have HX := Lib.hid (index_from w a L.length c _ _ hfw hn B x hB)
    rw [hr] at HX
    have HR := Lib.hid h
    subst hv
    clear h hfw hno hr hwo hB
    go_enter Try.func86, Try.ntmps86
    go_wp2_with fail
    refine HX.out.mono ?_
    rintro e w1 ⟨rfl, hb1⟩
    go_wp2
    go_ret
    exact ⟨_, rfl, HR.out.on hb1, grown_some hb1, rfl⟩
  · rcases h.cases with ⟨_, hnil⟩ | ⟨g, c', hv', hbg, hgl⟩
    · rw [hnil] at hi
      exact absurd hi (by simp)
    · have HX := Lib.hid (index_from w a L.length c _ _ hfw hn B x hB)
      rw [hr] at HX
      rw [hv] at hv'
      injection hv' with e1 _ e3
      subst e1 e3 hv
      have hBg : B ≠ g := fun e => hne (by rw [e]; rfl)
      have HR : Hid (w.ownsRow base 30 2 (.slice (some ⟨g, 0, none⟩) L.length c) L.length (fcells L)) := h
      have HK := Lib.hid (M.Kept.start (x := x) (L := L) hi (by rw [← nF_at hi]; exact hFi) (fun j hj hji => by rw [← nF_at hj]; exact hno j hji))
      clear h hfw hno hr hFi hB hne
      obtain ⟨N, hN⟩ : ∃ N, L.length = N := ⟨_, rfl⟩
      have HN := Lib.hid hN
      rw [hN] at hi HX HR hn hLc ⊢
      clear hN
      go_enter Try.func86, Try.ntmps86
      go_wp2_with fail
      refine HX.out.mono ?_
      rintro e w1 ⟨rfl, hb1⟩
      have R1 := Lib.hid (World.ownsRow.kept HR.out (grown_of_below hb1) (Or.inr (by intro e; cases e)))
      have G1 : Hid (w.grownBy w1 (some g)) := grown_some hb1
      have B1 := Lib.hid ((hb1.cell (p := ⟨B, 0, none⟩) hlB).trans HB.out)
      clear hb1 HX HR
      go_wp2
      go_loopw [5, 6, 7] (fun p q _ wr => ∃ (i j : Nat) (A : List (ByteArray × ByteArray)), p = .int .i64 i ∧ q = .int .i64 j ∧ j ≤ N ∧ i < j ∧ Hid (M.Kept x L A i j) ∧ Hid (wr.ownsRow base 30 2 (.slice (some ⟨g, 0, none⟩) N c) N (fcells A)) ∧ Hid (w.grownBy wr (some g)) ∧ Hid (wr.cell? ⟨B, 0, none⟩ = some (.string x))) (fun _ q _ _ => N - (intOf q).toNat)
      case atStart => exact ⟨i, i + 1, L, rfl, by go_num, by omega, by omega, HK, R1, G1, B1⟩
      case round =>
        obtain ⟨i, j, A, rfl, rfl, hj, hij, hk, hrow, hgr, hBr⟩ := hrel
        have hgw : g < wr.heap.size := (World.ownsRow.lt hrow.out g rfl).2
        have hlBr := World.block_lt_of_cell? _ _ hBr.out
        by_cases hlt : j < N
        · have hjA : j < A.length := by rw [hk.out.1, HN.out]; exact hlt
          have hp : Hid (L[j]? = some A[j]) := by
            have := hk.out.at (by rw [HN.out]; exact hlt)
            rw [← this]; exact List.getElem?_eq_getElem hjA
          have hat := fcells_at A j hjA
          have c0 : wr.cell? ⟨g, j * 2, none⟩ = some (.string A[j].1) := by rw [World.ownsRow.cellAt hrow.out (j * 2) (by omega)]; exact hat.1
          have c1 : wr.cell? ⟨g, j * 2 + 1, none⟩ = some (.string A[j].2) := by rw [World.ownsRow.cellAt hrow.out (j * 2 + 1) (by omega)]; exact hat.2
          have hdx : Hid (∀ y, y = A[j].1 → (y = x ↔ A[j].1 = x)) := fun y e => by rw [e]
          generalize hP : A[j] = P at *
          obtain ⟨f, t⟩ := P
          simp only at c0 c1
          have hiA : i < A.length := by rw [hk.out.1, HN.out]; omega
          clear hdx hat hP
          have HCALL : Hid (∀ W : World, W.cell? ⟨B, 0, none⟩ = some (.string x) → Calls Try.prog 88 #[.agg #[.string f, .string t], .pointer (some ⟨B, 0, none⟩)] W fun e w' => e = .returned (.bool (decide (f = x))) ∧ Below W.heap.size W w') := fun W hW => is_from W B x f t hW
          by_cases he : f = x
          · have hd := Lib.hid (decide_eq_true he)
            have HK2 := Lib.hid (hk.out.skip hp.out he)
            clear he
            go_wp2_with (go_at_call 88; refine (HCALL.out _ (by rw [(by go_grown : Below wr.heap.size wr _).cell (p := ⟨B, 0, none⟩) hlBr]; exact hBr.out)).mono ?_; rw [hd.out]; rintro e w2 ⟨rfl, hb2⟩; have hb3 : Below wr.heap.size wr w2 := (by go_grown : Below wr.heap.size wr _).trans (hb2.mono (by simp)); have R2 := Lib.hid (World.ownsRow.kept hrow.out (grown_of_below hb3) (Or.inr (by intro e; cases e))); have G2 : Hid (w.grownBy w2 (some g)) := grown_row hgr.out (grown_some hb3); have B2 := Lib.hid ((hb3.cell (p := ⟨B, 0, none⟩) hlBr).trans hBr.out); clear hb2 hb3)
            go_roundw
            case rel =>
              refine ⟨_, _, _, _, _, _, _, _, _, _, _, _, _, _, _, _, _, _, _, _, _, _, _, ⟨i, j + 1, A, rfl, by go_num, by omega, by omega, HK2, R2, G2, B2⟩, rfl⟩
            case measure => simp [intOf]; omega
          · have hd := Lib.hid (decide_eq_false he)
            have HK2 := Lib.hid (hk.out.keep (by rw [HN.out]; exact hlt) hp.out he)
            have hset := Lib.hid (fcells_set A i f t)
            have hatI := fcells_at A i hiA
            have i0 : wr.cell? ⟨g, i * 2, none⟩ = some (.string A[i].1) := by rw [World.ownsRow.cellAt hrow.out (i * 2) (by omega)]; exact hatI.1
            have i1 : wr.cell? ⟨g, i * 2 + 1, none⟩ = some (.string A[i].2) := by rw [World.ownsRow.cellAt hrow.out (i * 2 + 1) (by omega)]; exact hatI.2
            generalize A[i].1 = y0 at i0
            generalize A[i].2 = y1 at i1
            have I0 := Lib.hid i0
            have I1 := Lib.hid i1
            clear he hatI i0 i1
            go_wp2_with (go_at_call 88; go_loud (refine (HCALL.out _ (by rw [(by go_grown : Below wr.heap.size wr _).cell (p := ⟨B, 0, none⟩) hlBr]; exact hBr.out)).mono ?_; rw [hd.out]; rintro e w2 ⟨rfl, hb2⟩; have q0 : w2.cell? ⟨wr.heap.size, 0, none⟩ = some (.string f) := (by rw [hb2.cell (p := ⟨wr.heap.size, 0, none⟩) (by simp)]; simp); have q1 : w2.cell? ⟨wr.heap.size, 1, none⟩ = some (.string t) := (by rw [hb2.cell (p := ⟨wr.heap.size, 1, none⟩) (by simp)]; simp); have hb3 : Below wr.heap.size wr w2 := (by go_grown : Below wr.heap.size wr _).trans (hb2.mono (by simp)); have R2 := World.ownsRow.kept hrow.out (grown_of_below hb3) (Or.inr (by intro e; cases e)); have G2 : Hid (w.grownBy w2 (some g)) := grown_row hgr.out (grown_some hb3); have B2 := Lib.hid ((hb3.cell (p := ⟨B, 0, none⟩) hlBr).trans hBr.out); have d0 := (hb3.cell (p := ⟨g, i * 2, none⟩) hgw).trans I0.out; have d1 := (hb3.cell (p := ⟨g, i * 2 + 1, none⟩) hgw).trans I1.out; have f0 := World.ownsRow.frozenAt R2 (i * 2); have f1 := World.ownsRow.frozenAt R2 (i * 2 + 1); obtain ⟨s1, g1⟩ := World.ownsRow.stored R2 (i * 2) (.string f); obtain ⟨s2, g2⟩ := World.ownsRow.stored s1 (i * 2 + 1) (.string t); have G3 := Lib.hid (grown_row (grown_row G2.out g1) g2); rw [hset.out] at s2; have S2 := Lib.hid s2; have B3 : Hid (((w2.setCell ⟨g, i * 2, none⟩ (.string f)).setCell ⟨g, i * 2 + 1, none⟩ (.string t)).cell? ⟨B, 0, none⟩ = some (.string x)) := (by rw [Hid, World.cell?_setCell_other _ _ _ _ (fun e => hBg (congrArg Addr.block e).symm), World.cell?_setCell_other _ _ _ _ (fun e => hBg (congrArg Addr.block e).symm)]; exact B2.out); clear hb2 hb3 R2 s1 g1 s2 g2))
            go_roundw
            case rel =>
              refine ⟨_, _, _, _, _, _, _, _, _, _, _, _, _, _, _, _, _, _, _, _, _, _, _, ⟨i + 1, j + 1, A.set i (f, t), by go_num, by go_num, by omega, by omega, HK2, S2, G3, B3⟩, rfl⟩
            case measure => simp [intOf]; omega
        · obtain rfl : j = N := by omega
          have hAl : A.length = j := hk.out.1.trans HN.out
          obtain ⟨w4, hcl, hrow4, hgr4⟩ := clear_rest wr base g j c i A hrow.out hAl hij
          have hdone := hk.out
          rw [← HN.out] at hdone
          obtain ⟨e1, e2⟩ := hdone.done
          rw [e1] at hrow4
          have R4 := Lib.hid hrow4
          have G4 := Lib.hid (grown_row hgr.out hgr4)
          clear e1 hdone hrow4 hgr4 hk
          go_wp2
          go_ret
          exact ⟨_, rfl, R4.out, G4.out, rfl⟩
/-- A copy without the orders for one code. -/
theorem impl_withoutOrder (w : World) (a : Option Addr) (n c : Nat) (F T : Nat → ByteArray) (h : Fws w a n F T) (hn : n ≤ 1048576) (x : ByteArray) :
    Calls Try.prog 66 #[.slice a n c, .string x] w (FRowOut w (M.wo x (M.flst F T n))) := by
  have hmf : ∀ (fn : Fn) (first cap : Array Value) (w : World), (Instr.makeFunc fn first cap).run Try.prog w = .ok (.func fn first cap) w := fun _ _ _ _ => rfl
  have HL := Lib.hid (h.on (below_alloc0 w (.cells #[.string x] 9)))
  have hb0 := below_alloc0 w (.cells #[.string x] 9)
  have HB0 := Lib.hid hb0
  clear h hb0
  go_enter Try.func66, Try.ntmps66
  go_wp2_with fail
  refine (slices_CloneF _ a n c F T HL.out hn).mono ?_
  rintro e w1 ⟨v, rfl, r1, hb1⟩
  have hc1 : w1.cell? ⟨w.heap.size, 0, none⟩ = some (.string x) := by
    rw [hb1.cell (p := ⟨w.heap.size, 0, none⟩) (by simp)]
    simp
  have hlen : (M.flst F T n).length ≤ 1048576 := by rw [M.flst_length]; exact hn
  have hsz : (w.alloc (.cells #[.string x] 9)).heap.size = w.heap.size + 1 := by simp
  have hne : v.ownBlock ≠ some w.heap.size := fun e => by have := (r1.lt _ e).1; omega
  have R1 := Lib.hid r1
  have K1 := Lib.hid (step HB0.out hb1)
  clear r1 hb1
  go_wp2_with fail
  refine (delete_from _ _ v _ R1.out hlen _ x hc1 hne).mono ?_
  rintro e w2 ⟨v2, rfl, r2, gr2, ho2⟩
  have hk2 : Below w.heap.size w w2 := K1.out.grown gr2 K1.out.size (fun q e => by have := (R1.out.lt q e).1; omega)
  go_wp2
  go_ret
  exact ⟨_, rfl, r2.lower (by omega), hk2⟩
end Go.Proofs.Ytbfbbpmddgfeiaa
