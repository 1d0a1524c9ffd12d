/-
  Two drawn batches of which one lacks letters: DrawMissingIds.
-/
import Derived.Test.YtlamckdnnnifcaaDrawO
import Derived.Test.YtlamckdnnnifcaaPass
import Derived.Test.YtlamckdnnnifcaaMat
namespace Go.Proofs.Ytlamckdnnnifcaa
open Go.RowKit
set_option linter.unusedVariables false

def TwoLets (w : World) (e : Ending) (w' : World) : Prop := ∃ (a : Option Addr) (c : Nat) (A : List (Int × ByteArray)) (a2 : Option Addr) (c2 : Nat) (B : List (Int × ByteArray)), e = .returned (.tuple #[.slice a A.length c, .slice a2 B.length c2]) ∧ Lts w' a A.length (nI A) (nC A) ∧ FitsL A ∧ A.length ≤ 61 ∧ Lts w' a2 B.length (nI B) (nC B) ∧ FitsL B ∧ B.length ≤ 61 ∧ Below w.heap.size w w'
theorem Small.fitsL {L : List (Int × ByteArray)} (h : Small 30 L) : FitsL L := fun i hi => by
  have := h.at i hi
  rw [nI_at hi, nC_at hi]
  exact ⟨by omega, by unfold maxLen; omega⟩
set_option maxHeartbeats 4000000 in
set_option maxRecDepth 100000 in
theorem DrawMissingIds_any (a : Option Addr) (l k : Nat) (z : List Int) (w : World) (h : IsRow .u8 w a l k z) :
    Calls Try.prog 12 #[.slice a l k] w (TwoLets w) := by
  go_enter Try.func12, Try.ntmps12
  go_wp2_with fail
  refine (open_any a l k z w h).mono ?_
  rintro e w1 ⟨r, rfl, rd1, b1, hwr⟩
  have hr1 := rd1.lt
  go_wp2_with fail
  refine (l2Some_any _ r _ 1 rd1 (by omega) (by omega) (by omega)).mono ?_
  rintro e w2 ⟨va, LA, rfl, RA, la, sa, sg2⟩
  have hr2 := sg2.1.lt
  have hr2' : r < w2.heap.size := hr2
  obtain ⟨aa, ca, hva, _, _⟩ := RA.form
  have B2 := Lib.hid (b1.trans ((sg2.below_r hr1).mono hwr))
  have R2 := Lib.hid RA
  have HSA := Lib.hid sa
  have hlt2 := fun b => RA.lt b
  have HLT := Lib.hid hlt2
  have hz12 := sg2.2.size
  have S2 : Hid (Sg w2 w2 r 300) := (Sg.start sg2.1).mono (by omega) (by omega)
  subst hva
  have E2 := Lib.hid (one_empty w2)
  have S3 := Lib.hid (S2.out.alloc (.cells #[] 33))
  clear b1 rd1 h RA sa sg2 hlt2 S2
  go_wp2
  go_loopw [6, 7] (fun u i wr => ∃ (k : Nat) (L : List (Int × ByteArray)), i = .int .i64 k ∧ k ≤ LA.length ∧ L.length ≤ k ∧ Hid (Small 7 L) ∧ Hid (Row wr w2.heap.size u L) ∧ Hid (Sg w2 wr r (300 + k))) (fun _ i _ => LA.length - (intOf i).toNat)
  case atStart => exact ⟨0, [], rfl, Nat.zero_le _, Nat.le_refl _, (fun _ h => by cases h), E2, S3⟩
  case round =>
    obtain ⟨k, L, rfl, hk, hlk, hsm, hrow, hsg⟩ := hrel
    by_cases hlt : k < LA.length
    · have hki : (k : Int) < (LA.length : Int) := by omega
      have hk0 : (0 : Int) ≤ (k : Int) := by omega
      go_wp2_with fail
      refine (pick_sg _ _ _ r _ (Sg.start hsg.out.1) (by omega) (by omega) (by omega)).mono ?_
      rintro e w3 ⟨v, rfl, v0, v1, sg3⟩
      have R3 := Lib.hid (hrow.out.sg sg3 hr2)
      have S4 := Lib.hid (hsg.out.trans sg3)
      have RA3 := Lib.hid (R2.out.sg S4.out hr1)
      clear sg3 hsg hrow
      obtain ⟨a5, c5, hv5, _, _⟩ := R3.out.form
      subst hv5
      by_cases hv : 0 < v
      · obtain ⟨a9, c9, e9, hcp9, hl9⟩ := RA3.out.form
        injection e9 with q1 q2 q3
        subst q1
        obtain ⟨bb, oo, ha, t0, t1⟩ := hl9 k hlt
        have hx := HSA.out _ (List.getElem_mem hlt)
        rw [← nI_at hlt, ← nC_at hlt] at hx
        subst ha
        generalize nI LA k = x at t0 hx
        generalize nC LA k = s at t1 hx
        clear hl9 hcp9 q2 q3
        go_wp2_with (at_builtin; refine wpList_append_letter _ rfl _ _ rfl w2.heap.size _ _ rfl (R3.out.alloc _) _ x s rfl ?_ (by omega) (by have := S4.out.2.size; simp; omega) ?_)
        · simp [go_sem]
        intro v' w4 hr4 hg4 ho4
        have S5 := Lib.hid ((S4.out.alloc _).grown (R3.out.alloc _) (Nat.le_refl _) hr2 hg4)
        have R4 := Lib.hid hr4
        clear hr4 hg4 ho4 R3 S4 t0 t1 RA3
        go_wp2
        go_roundw
        case rel => exact ⟨k + 1, L ++ [(x, s)], by go_num, by omega, by simp; omega, (fun y hy => by
          rcases List.mem_append.1 hy with h | h
          · exact hsm.out y h
          · rw [List.mem_singleton.1 h]; exact hx), R4, S5.out.mono (by omega) (by omega)⟩
        case measure => first | (simp [intOf]; done) | (simp [intOf]; omega)
      · go_wp2
        go_roundw
        case rel => exact ⟨k + 1, L, by go_num, by omega, by omega, hsm, R3, S4.out.mono (by omega) (by omega)⟩
        case measure => first | (simp [intOf]; done) | (simp [intOf]; omega)
    · obtain rfl : k = LA.length := by omega
      go_wp2_with fail
      refine (pick_sg _ _ _ r _ (Sg.start hsg.out.1) (by omega) (by omega) (by omega)).mono ?_
      rintro e w3 ⟨v, rfl, v0, v1, sg3⟩
      have R3 := Lib.hid (hrow.out.sg sg3 hr2)
      have S4 := Lib.hid (hsg.out.trans sg3)
      clear sg3 hsg hrow
      obtain ⟨a5, c5, hv5, _, _⟩ := R3.out.form
      subst hv5
      cases hv : (v == 0)
      · have RA5 := Lib.hid (R2.out.sg S4.out hr1)
        have hra5 := S4.out.1.lt
        have HN5 := Lib.hid hsm.out
        have hl5 : (L).length ≤ 40 := by omega
        have hrb5 := R3.out
        obtain ⟨vb, hvb⟩ : ∃ vb, Value.slice a5 L.length c5 = vb := ⟨_, rfl⟩
        rw [hvb] at hrb5 ⊢
        obtain ⟨LB, hLB⟩ : ∃ LB, L = LB := ⟨_, rfl⟩
        rw [hLB] at HN5 hl5 hrb5
        have RB5 := Lib.hid hrb5
        have O5 := Lib.hid S4.out.only
        have S9 := Lib.hid ((S4.out).mono (M := 400) (by omega) (by omega))
        have B5 := Lib.hid (B2.out.trans (((S4.out).below_r hr2').mono hwr))
        have hz5 := (S4.out).2.size
        clear hrb5 hLB hvb R3 S4
        go_wp2_with fail
        refine (l2Bad_only w3 r _ w1.heap.size _ LA S9.out.1 (by omega) RA5.out hr1 (by omega) HSA.out).mono ?_
        rintro e w6 ⟨v6, L6, rfl, R6, l6, s6, rd6, o6, n6⟩
        have RB6 := Lib.hid (RB5.out.only o6 (fun b hb e => by
          have h1 := (RB5.out.lt b hb).1
          rcases e with e | e
          · omega
          · have := (HLT.out b e).2; omega))
        have B6 := Lib.hid (B5.out.trans (o6.below (B := w.heap.size) (fun b hb _ e => by
          rcases e with e | e
          · omega
          · have := (HLT.out b e).1; omega) (by omega)))
        have hz6 := o6.size
        have R6' := Lib.hid R6
        clear o6 RA5 R6
        go_wp2_with fail
        refine (l2Bad_only w6 r _ w2.heap.size vb LB rd6 (by omega) RB6.out hr2 hl5 HN5.out).mono ?_
        rintro e w7 ⟨v7, L7, rfl, R7, l7, s7, rd7, o7, n7⟩
        have RA7 := Lib.hid (R6'.out.only o7 (fun b hb e => by
          have h1 := (R6'.out.lt b hb).1
          rcases e with e | e
          · omega
          · have h2 := RB5.out.lt b e
            rcases n6 with h | ⟨q, h, hq⟩
            · rw [hb] at h
              have := (HLT.out b h.symm).2; omega
            · rw [hb] at h; injection h with h; omega))
        have B7 := Lib.hid (B6.out.trans (o7.below (B := w.heap.size) (fun b hb _ e => by
          rcases e with e | e
          · omega
          · have := (RB6.out.lt b e).1; omega) (by omega)))
        obtain ⟨a6, c6, rfl, _, lf6⟩ := RA7.out.form
        obtain ⟨a7, c7, rfl, _, lf7⟩ := R7.form
        have L6h := Lib.hid lf6
        have L7h := Lib.hid lf7
        clear o7 R7 lf6 lf7 R6' RB6 RB5
        go_wp2
        go_ret2
        exact ⟨_, _, L6, _, _, L7, rfl, L6h.out, s6.fitsL, l6, L7h.out, s7.fitsL, l7, B7.out⟩
      · go_wp2_with (at_builtin; refine wpList_append_letter _ rfl _ _ rfl w2.heap.size _ _ rfl (R3.out.alloc _) _ 3 ⟨#[49, 50, 48, 48, 49, 48, 49]⟩ rfl ?_ (by omega) (by have := S4.out.2.size; simp; omega) ?_)
        · simp [go_sem]
        intro v' w4 hr4 hg4 ho4
        have S5 := Lib.hid ((S4.out.alloc _).grown (R3.out.alloc _) (Nat.le_refl _) hr2 hg4)
        have R4 := Lib.hid hr4
        clear hr4 hg4 ho4 R3 S4
        have RA5 := Lib.hid (R2.out.sg S5.out hr1)
        have hra5 := S5.out.1.lt
        have HN5 := Lib.hid (show Small 7 (L ++ [((3 : Int), (⟨#[49, 50, 48, 48, 49, 48, 49]⟩ : ByteArray))]) from fun y hy => by
          rcases List.mem_append.1 hy with h | h
          · exact hsm.out y h
          · rw [List.mem_singleton.1 h]; exact ⟨⟨by decide, by decide⟩, by decide⟩)
        have hl5 : (L ++ [((3 : Int), (⟨#[49, 50, 48, 48, 49, 48, 49]⟩ : ByteArray))]).length ≤ 40 := by simp; omega
        have hrb5 := R4.out
        obtain ⟨vb, hvb⟩ : ∃ vb, v' = vb := ⟨_, rfl⟩
        rw [hvb] at hrb5 ⊢
        obtain ⟨LB, hLB⟩ : ∃ LB, L ++ [((3 : Int), (⟨#[49, 50, 48, 48, 49, 48, 49]⟩ : ByteArray))] = LB := ⟨_, rfl⟩
        rw [hLB] at HN5 hl5 hrb5
        have RB5 := Lib.hid hrb5
        have O5 := Lib.hid S5.out.only
        have S9 := Lib.hid ((S5.out).mono (M := 400) (by omega) (by omega))
        have B5 := Lib.hid (B2.out.trans (((S5.out).below_r hr2').mono hwr))
        have hz5 := (S5.out).2.size
        clear hrb5 hLB hvb R4 S5
        go_wp2_with fail
        refine (l2Bad_only w4 r _ w1.heap.size _ LA S9.out.1 (by omega) RA5.out hr1 (by omega) HSA.out).mono ?_
        rintro e w6 ⟨v6, L6, rfl, R6, l6, s6, rd6, o6, n6⟩
        have RB6 := Lib.hid (RB5.out.only o6 (fun b hb e => by
          have h1 := (RB5.out.lt b hb).1
          rcases e with e | e
          · omega
          · have := (HLT.out b e).2; omega))
        have B6 := Lib.hid (B5.out.trans (o6.below (B := w.heap.size) (fun b hb _ e => by
          rcases e with e | e
          · omega
          · have := (HLT.out b e).1; omega) (by omega)))
        have hz6 := o6.size
        have R6' := Lib.hid R6
        clear o6 RA5 R6
        go_wp2_with fail
        refine (l2Bad_only w6 r _ w2.heap.size vb LB rd6 (by omega) RB6.out hr2 hl5 HN5.out).mono ?_
        rintro e w7 ⟨v7, L7, rfl, R7, l7, s7, rd7, o7, n7⟩
        have RA7 := Lib.hid (R6'.out.only o7 (fun b hb e => by
          have h1 := (R6'.out.lt b hb).1
          rcases e with e | e
          · omega
          · have h2 := RB5.out.lt b e
            rcases n6 with h | ⟨q, h, hq⟩
            · rw [hb] at h
              have := (HLT.out b h.symm).2; omega
            · rw [hb] at h; injection h with h; omega))
        have B7 := Lib.hid (B6.out.trans (o7.below (B := w.heap.size) (fun b hb _ e => by
          rcases e with e | e
          · omega
          · have := (RB6.out.lt b e).1; omega) (by omega)))
        obtain ⟨a6, c6, rfl, _, lf6⟩ := RA7.out.form
        obtain ⟨a7, c7, rfl, _, lf7⟩ := R7.form
        have L6h := Lib.hid lf6
        have L7h := Lib.hid lf7
        clear o7 R7 lf6 lf7 R6' RB6 RB5
        go_wp2
        go_ret2
        exact ⟨_, _, L6, _, _, L7, rfl, L6h.out, s6.fitsL, l6, L7h.out, s7.fitsL, l7, B7.out⟩
end Go.Proofs.Ytlamckdnnnifcaa
