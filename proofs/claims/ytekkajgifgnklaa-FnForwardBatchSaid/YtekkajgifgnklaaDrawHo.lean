/-
  Drawn letters and held codes.
-/
import Derived.Test.YtekkajgifgnklaaDrawB
import Derived.Test.YtekkajgifgnklaaMgA6
import Derived.Test.YtekkajgifgnklaaSplit
namespace Go.Proofs.Ytekkajgifgnklaa
open Go.RowKit
open Go.PlainAid (bt get_bt bt_nonneg bt_le)
set_option linter.unusedVariables false

/-- The reader stays where a block of one's own is written. -/
theorem Rd.past {w w' : World} {r N : Nat} {row : Option Nat} (h : Rd w r N) (hrow : ∀ b, row = some b → r < b) (hg : w.grownBy w' row) : Rd w' r N := by
  have hlt := h.lt
  have hne : ∀ b, b ≤ r → some b ≠ row := fun b hb e => by have := hrow b e.symm; omega
  obtain ⟨p, a, l, k, hp, hN, h0, h1, hf, hlk, hk, hl, hB⟩ := h
  refine ⟨p, a, l, k, hp, hN, hg.cell h0 (hne r (Nat.le_refl _)), hg.cell h1 (hne r (Nat.le_refl _)), (World.frozen?_of_block (a := ⟨r, 1, none⟩) (hg.block r hlt (hne r (Nat.le_refl _)))).trans hf, hlk, hk, hl, ?_⟩
  rcases hB with hB | ⟨b, off, rfl, hbr, hB⟩
  · exact Or.inl hB
  · refine Or.inr ⟨b, off, rfl, hbr, fun i hi => ?_⟩
    obtain ⟨x, hx, x0, x1⟩ := hB i hi
    exact ⟨x, hg.cell hx (hne b (by omega)), x0, x1⟩
theorem Sg.past {W w w' : World} {r N : Nat} {row : Option Nat} (h : Sg W w r N) (hrow : ∀ b, row = some b → r < b ∧ W.heap.size ≤ b) (hg : w.grownBy w' row) : Sg W w' r N :=
  ⟨h.1.past (fun b e => (hrow b e).1) hg, h.2.andThen hg fun j e => Or.inl (hrow j e).2⟩
theorem SRow.psg {w w' : World} {base r N : Nat} {v : Value} {L : List ByteArray} (h : SRow w base v L) (hs : Sg w w' r N) (hr : r < base) : SRow w' base v L :=
  h.kept hs.2 (fun b hb e => by have := (h.lt b hb).1; injection e with e; omega)
set_option maxHeartbeats 1000000 in
theorem l4Code_str (W w : World) (r N : Nat) (h : Sg W w r N) (hN : N ≤ 90000) :
    Calls Try.prog 36 #[.pointer (some ⟨r, 0, none⟩)] w (StrSg W 7 7 r (N + 1)) := by
  go_enter Try.func36, Try.ntmps36
  go_wp2_with fail
  refine (pick_sg W _ _ r _ h (by omega) (by omega) (by omega)).mono ?_
  rintro e w1 ⟨v, rfl, v0, v1, sg1⟩
  go_wp2_with fail
  refine (l1Show_any v 2 _ v0 (by omega) (by omega)).mono ?_
  rintro e w2 ⟨s, rfl, q0, q1, hb2⟩
  have sg2 := sg1.below hb2
  have hz : ((⟨#[49, 50, 48, 48, 49]⟩ : ByteArray) ++ s).size = 5 + s.size := by rw [ByteArray.size_append]; rfl
  go_wp2
  go_ret
  exact ⟨_, rfl, by rw [hz]; omega, by rw [hz]; omega, sg2⟩
set_option maxHeartbeats 4000000 in
theorem l4Mail_any (w : World) (r N : Nat) (h : Rd w r N) (hN : N ≤ 70000) :
    Calls Try.prog 21 #[.pointer (some ⟨r, 0, none⟩)] w (RowSg w w.heap.size 14 r (N + 300)) := by
  have hr := h.lt
  have RD := Lib.hid h
  clear h
  go_enter Try.func21, Try.ntmps21
  go_wp2_with fail
  refine (pick_sg _ _ _ r _ (Sg.start RD.out) (by omega) (by omega) (by omega)).mono ?_
  rintro e w1 ⟨t, rfl, t0, t1, sg1⟩
  have SG1 := Lib.hid sg1
  have hz1 := sg1.2.size
  have sk : IntKind.i64.wrap (1 + t) = 1 + t := IntWalk.i64_in _ (by omega)
  clear sg1 RD
  go_wp2_with fail
  refine (l2Some_any _ r _ (1 + t) SG1.out.1 (by omega) (by omega) (by omega)).mono ?_
  rintro e w3 ⟨u, L, rfl, R3, l3, S3, sg3⟩
  have R3 := Lib.hid R3
  have SG3 := Lib.hid (SG1.out.trans sg3)
  have hz3 := sg3.2.size
  have S3 := Lib.hid S3
  clear sg3 SG1
  obtain ⟨a9, c9, hu, hc9, _⟩ := R3.out.form
  subst hu
  go_wp2
  go_loopw [4] (fun vi wr => ∃ (i : Nat) (L' : List (Int × ByteArray)), i ≤ L.length ∧ vi = .int .i64 i ∧ Hid (L'.length = L.length) ∧ Hid (Small 7 L') ∧ Hid (Row wr w1.heap.size (.slice a9 L.length c9) L') ∧ Hid (Sg w wr r (N + 201 + 3 * i)) ∧ w1.heap.size ≤ wr.heap.size) (fun vi _ => L.length - (intOf vi).toNat)
  case atStart => exact ⟨0, L, Nat.zero_le _, rfl, rfl, S3, R3, SG3.out.mono (by omega) (by omega), hz3⟩
  case round =>
    obtain ⟨i, L', hi, rfl, hln, hsm, hrow, hsg, hbs⟩ := hrel
    have hln2 := hln.out
    by_cases hlt : i < L.length
    · have hlti : (i : Int) < (L.length : Int) := by omega
      have hil : i < L'.length := by omega
      have hag : ∃ g, a9 = some ⟨g, 0, none⟩ ∧ w1.heap.size ≤ g := by
        rcases hrow.out.2 with ⟨e, hn⟩ | ⟨g, cap, cur, e, hb, _⟩
        · omega
        · injection e with e1
          exact ⟨g, e1, hb⟩
      obtain ⟨g, rfl, hgw⟩ := hag
      have HLN := Lib.hid hln2
      clear hln2 hln
      go_wp2_with fail
      refine (l4Code_str _ _ r _ (Sg.start hsg.out.1) (by omega)).mono ?_
      rintro e w4 ⟨s4, rfl, s40, s41, sg4⟩
      have hrow4 : Row w4 w1.heap.size (.slice (some ⟨g, 0, none⟩) L'.length c9) L' := by rw [HLN.out]; exact hrow.out.sg sg4 (by omega)
      obtain ⟨d0, d1, f0, f1⟩ := hrow4.cells i hil
      have hst := hrow4.code i hil s4
      have R5 : Hid (Row (w4.setCell ⟨g, i * 2 + 1, none⟩ (.string s4)) w1.heap.size (.slice (some ⟨g, 0, none⟩) L.length c9) (L'.set i (L'[i].1, s4))) := by rw [Hid, ← HLN.out]; exact hst.1
      have SG5 := Lib.hid ((hsg.out.trans sg4).past (fun b e => by injection e with e; omega) hst.2)
      have LN5 : Hid ((L'.set i (L'[i].1, s4)).length = L.length) := by rw [Hid, List.length_set]; exact HLN.out
      have SM5 := Lib.hid (hsm.out.set i (L'[i].1, s4) (Nat.le_refl 7) ⟨(hsm.out.at i hil).1, s41⟩)
      have hgl4 : g < w4.heap.size := (hrow4.lt g rfl).2
      have hbs4 : w1.heap.size ≤ w4.heap.size := by omega
      generalize L'[i] = P at d0 d1 R5 LN5 SM5
      clear hst hrow4 sg4 hrow hsg hsm
      go_wp2
      go_roundw
      case rel => exact ⟨i + 1, _, by omega, by go_num, LN5, SM5, R5, SG5.out.mono (by omega) (by omega), by simpa using hbs4⟩
      case measure => simp [intOf]; omega
    · have hlti : ¬ (i : Int) < (L.length : Int) := by omega
      have R9 : Hid (Row wr w.heap.size (.slice a9 L.length c9) L') := Row.lower0 hrow.out (by omega)
      have HLL : Hid (L'.length ≤ 14) := by show L'.length ≤ 14; omega
      clear hln2 hln
      go_wp2
      go_ret
      exact ⟨_, L', rfl, R9.out, HLL.out, hsm.out, hsg.out.mono (by omega) (by omega)⟩
/-- Letters and strings that the law may read. -/
def LetsHeld (w : World) (e : Ending) (w' : World) : Prop := ∃ (v u : Value) (L : List (Int × ByteArray)) (H : List ByteArray) (B1 B2 : Nat), e = .returned (.tuple #[v, u]) ∧ Row w' B1 v L ∧ L.length ≤ 61 ∧ Small 30 L ∧ SRow w' B2 u H ∧ H.length ≤ 31 ∧ (∀ x ∈ H, x.size ≤ 7) ∧ Below w.heap.size w w'
end Go.Proofs.Ytekkajgifgnklaa
