/-
  Drawn letters and held codes.
-/
import Derived.Test.YtghgipcblhfceaaDrawB
import Derived.Test.YtghgipcblhfceaaSCat
import Derived.Test.YtghgipcblhfceaaSplit
namespace Go.Proofs.Ytghgipcblhfceaa
open Go.RowKit
open Go.PlainAid (bt get_bt bt_nonneg bt_le)
set_option linter.unusedVariables false

/-- The reader stays where a block of one's own is written. -/
theorem Rd.past {w w' : World} {r N : Nat} {row : Option Nat} (h : Rd w r N) (hrow : ∀ b, row = some b → r < b) (hg : w.grownBy w' row) : Rd w' r N := by
  have hlt := h.lt
  have hne : ∀ b, b ≤ r → some b ≠ row := fun b hb e => by have := hrow b e.symm; omega
  obtain ⟨p, a, l, k, hp, hN, h0, h1, hf, hlk, hk, hl, hB⟩ := h
  refine ⟨p, a, l, k, hp, hN, hg.cell h0 (hne r (Nat.le_refl _)), hg.cell h1 (hne r (Nat.le_refl _)), (World.frozen?_of_block (a := ⟨r, 1, none⟩) (hg.block r hlt (hne r (Nat.le_refl _)))).trans hf, hlk, hk, hl, ?_⟩
  rcases hB with hB | ⟨b, off, rfl, hbr, hB⟩
  · exact Or.inl hB
  · refine Or.inr ⟨b, off, rfl, hbr, fun i hi => ?_⟩
    obtain ⟨x, hx, x0, x1⟩ := hB i hi
    exact ⟨x, hg.cell hx (hne b (by omega)), x0, x1⟩
theorem Sg.past {W w w' : World} {r N : Nat} {row : Option Nat} (h : Sg W w r N) (hrow : ∀ b, row = some b → r < b ∧ W.heap.size ≤ b) (hg : w.grownBy w' row) : Sg W w' r N :=
  ⟨h.1.past (fun b e => (hrow b e).1) hg, h.2.andThen hg fun j e => Or.inl (hrow j e).2⟩
theorem SRow.psg {w w' : World} {base r N : Nat} {v : Value} {L : List ByteArray} (h : SRow w base v L) (hs : Sg w w' r N) (hr : r < base) : SRow w' base v L :=
  h.kept hs.2 (fun b hb e => by have := (h.lt b hb).1; injection e with e; omega)
set_option maxHeartbeats 1000000 in
theorem l4Code_str (W w : World) (r N : Nat) (h : Sg W w r N) (hN : N ≤ 90000) :
    Calls Try.prog 21 #[.pointer (some ⟨r, 0, none⟩)] w (StrSg W 7 7 r (N + 1)) := by
  go_enter Try.func21, Try.ntmps21
  go_wp2_with fail
  refine (pick_sg W _ _ r _ h (by omega) (by omega) (by omega)).mono ?_
  rintro e w1 ⟨v, rfl, v0, v1, sg1⟩
  go_wp2_with fail
  refine (l1Show_any v 2 _ v0 (by omega) (by omega)).mono ?_
  rintro e w2 ⟨s, rfl, q0, q1, hb2⟩
  have sg2 := sg1.below hb2
  have hz : ((⟨#[49, 50, 48, 48, 49]⟩ : ByteArray) ++ s).size = 5 + s.size := by rw [ByteArray.size_append]; rfl
  go_wp2
  go_ret
  exact ⟨_, rfl, by rw [hz]; omega, by rw [hz]; omega, sg2⟩
set_option maxHeartbeats 4000000 in
theorem l4Mail_any (w : World) (r N : Nat) (h : Rd w r N) (hN : N ≤ 70000) :
    Calls Try.prog 19 #[.pointer (some ⟨r, 0, none⟩)] w (RowSg w w.heap.size 14 r (N + 300)) := by
  have hr := h.lt
  have RD := Lib.hid h
  clear h
  go_enter Try.func19, Try.ntmps19
  go_wp2_with fail
  refine (pick_sg _ _ _ r _ (Sg.start RD.out) (by omega) (by omega) (by omega)).mono ?_
  rintro e w1 ⟨t, rfl, t0, t1, sg1⟩
  have SG1 := Lib.hid sg1
  have hz1 := sg1.2.size
  have sk : IntKind.i64.wrap (1 + t) = 1 + t := IntWalk.i64_in _ (by omega)
  clear sg1 RD
  go_wp2_with fail
  refine (l2Some_any _ r _ (1 + t) SG1.out.1 (by omega) (by omega) (by omega)).mono ?_
  rintro e w3 ⟨u, L, rfl, R3, l3, S3, sg3⟩
  have R3 := Lib.hid R3
  have SG3 := Lib.hid (SG1.out.trans sg3)
  have hz3 := sg3.2.size
  have S3 := Lib.hid S3
  clear sg3 SG1
  obtain ⟨a9, c9, hu, hc9, _⟩ := R3.out.form
  subst hu
  go_wp2
  go_loopw [4] (fun vi wr => ∃ (i : Nat) (L' : List (Int × ByteArray)), i ≤ L.length ∧ vi = .int .i64 i ∧ Hid (L'.length = L.length) ∧ Hid (Small 7 L') ∧ Hid (Row wr w1.heap.size (.slice a9 L.length c9) L') ∧ Hid (Sg w wr r (N + 201 + 3 * i)) ∧ w1.heap.size ≤ wr.heap.size) (fun vi _ => L.length - (intOf vi).toNat)
  case atStart => exact ⟨0, L, Nat.zero_le _, rfl, rfl, S3, R3, SG3.out.mono (by omega) (by omega), hz3⟩
  case round =>
    obtain ⟨i, L', hi, rfl, hln, hsm, hrow, hsg, hbs⟩ := hrel
    have hln2 := hln.out
    by_cases hlt : i < L.length
    · have hlti : (i : Int) < (L.length : Int) := by omega
      have hil : i < L'.length := by omega
      have hag : ∃ g, a9 = some ⟨g, 0, none⟩ ∧ w1.heap.size ≤ g := by
        rcases hrow.out.2 with ⟨e, hn⟩ | ⟨g, cap, cur, e, hb, _⟩
        · omega
        · injection e with e1
          exact ⟨g, e1, hb⟩
      obtain ⟨g, rfl, hgw⟩ := hag
      have HLN := Lib.hid hln2
      clear hln2 hln
      go_wp2_with fail
      refine (l4Code_str _ _ r _ (Sg.start hsg.out.1) (by omega)).mono ?_
      rintro e w4 ⟨s4, rfl, s40, s41, sg4⟩
      have hrow4 : Row w4 w1.heap.size (.slice (some ⟨g, 0, none⟩) L'.length c9) L' := by rw [HLN.out]; exact hrow.out.sg sg4 (by omega)
      obtain ⟨d0, d1, f0, f1⟩ := hrow4.cells i hil
      have hst := hrow4.code i hil s4
      have R5 : Hid (Row (w4.setCell ⟨g, i * 2 + 1, none⟩ (.string s4)) w1.heap.size (.slice (some ⟨g, 0, none⟩) L.length c9) (L'.set i (L'[i].1, s4))) := by rw [Hid, ← HLN.out]; exact hst.1
      have SG5 := Lib.hid ((hsg.out.trans sg4).past (fun b e => by injection e with e; omega) hst.2)
      have LN5 : Hid ((L'.set i (L'[i].1, s4)).length = L.length) := by rw [Hid, List.length_set]; exact HLN.out
      have SM5 := Lib.hid (hsm.out.set i (L'[i].1, s4) (Nat.le_refl 7) ⟨(hsm.out.at i hil).1, s41⟩)
      have hgl4 : g < w4.heap.size := (hrow4.lt g rfl).2
      have hbs4 : w1.heap.size ≤ w4.heap.size := by omega
      generalize L'[i] = P at d0 d1 R5 LN5 SM5
      clear hst hrow4 sg4 hrow hsg hsm
      go_wp2
      go_roundw
      case rel => exact ⟨i + 1, _, by omega, by go_num, LN5, SM5, R5, SG5.out.mono (by omega) (by omega), by simpa using hbs4⟩
      case measure => simp [intOf]; omega
    · have hlti : ¬ (i : Int) < (L.length : Int) := by omega
      have R9 : Hid (Row wr w.heap.size (.slice a9 L.length c9) L') := Row.lower0 hrow.out (by omega)
      have HLL : Hid (L'.length ≤ 14) := by show L'.length ≤ 14; omega
      clear hln2 hln
      go_wp2
      go_ret
      exact ⟨_, L', rfl, R9.out, HLL.out, hsm.out, hsg.out.mono (by omega) (by omega)⟩
/-- Letters and strings that the law may read. -/
def LetsHeld (w : World) (e : Ending) (w' : World) : Prop := ∃ (v u : Value) (L : List (Int × ByteArray)) (H : List ByteArray) (B1 B2 : Nat), e = .returned (.tuple #[v, u]) ∧ Row w' B1 v L ∧ L.length ≤ 61 ∧ Small 30 L ∧ SRow w' B2 u H ∧ H.length ≤ 31 ∧ (∀ x ∈ H, x.size ≤ 7) ∧ Below w.heap.size w w'
set_option maxHeartbeats 4000000 in
theorem DrawHoldBatch_any (a : Option Addr) (l k : Nat) (z : List Int) (w : World) (h : IsRow .u8 w a l k z) :
    Calls Try.prog 5 #[.slice a l k] w (LetsHeld w) := by
  go_enter Try.func5, Try.ntmps5
  go_wp2_with fail
  refine (open_any a l k z w h).mono ?_
  rintro e w1 ⟨r, rfl, rd1, b1, hwr⟩
  have hr1 := rd1.lt
  have B1 := Lib.hid b1
  have RD1 := Lib.hid rd1
  clear b1 rd1 h
  go_wp2_with fail
  refine (l4Mail_any _ r _ RD1.out (by omega)).mono ?_
  rintro e w2 ⟨v, L, rfl, R2, l2, S2, sg2⟩
  have B2 := Lib.hid (B1.out.trans ((sg2.below_r hr1).mono hwr))
  have R2 := Lib.hid R2
  have S2 := Lib.hid S2
  have RD2 := Lib.hid sg2.1
  have hz2 := sg2.2.size
  clear sg2 B1 RD1
  go_wp2_with fail
  refine (l2Bad_any _ r _ _ v L RD2.out (by omega) R2.out hr1 (by omega) S2.out).mono ?_
  rintro e w3 ⟨v', L', rfl, R3, l3, S3, rd3, b3⟩
  have B3 := Lib.hid (B2.out.trans (b3.mono hwr))
  have R3 := Lib.hid R3
  have S3 := Lib.hid S3
  have hr3 := rd3.lt
  have SG3 := Lib.hid ((Sg.start rd3).alloc (.cells #[] 9))
  have H3 := Lib.hid (sone_empty w3)
  clear rd3 b3 B2 R2 S2 RD2
  go_wp2_with fail
  refine (pick_sg _ _ _ r _ (Sg.start SG3.out.1) (by omega) (by omega) (by omega)).mono ?_
  rintro e w4 ⟨t, rfl, t0, t1, sg4⟩
  obtain ⟨n, rfl⟩ := Int.eq_ofNat_of_zero_le t0
  have SG4 := Lib.hid (SG3.out.trans sg4)
  have H4 := Lib.hid (H3.out.psg sg4 hr3)
  clear sg4 SG3 H3
  have HE : Hid (∀ x ∈ ([] : List ByteArray), x.size ≤ 7) := fun x h => by cases h
  go_wp2
  go_loopw [6, 7] (fun u i wr => ∃ (m : Nat) (H : List ByteArray), i = .int .i64 m ∧ m ≤ n ∧ H.length + m ≤ 4 ∧ Hid (∀ x ∈ H, x.size ≤ 7) ∧ Hid (SRow wr w3.heap.size u H) ∧ Hid (Sg w3 wr r (1000 + 2 * (n - m)))) (fun _ i _ => (intOf i).toNat)
  case atStart => exact ⟨n, [], rfl, Nat.le_refl _, by simp; omega, HE, H4, SG4.out.mono (by omega) (by omega)⟩
  case round =>
    obtain ⟨m, H, rfl, hmn, hm, hsm, hrow, hsg⟩ := hrel
    by_cases h0 : 0 < m
    · have hm0 : (0 : Int) < (m : Int) := by omega
      go_wp2_with fail
      refine (l4Code_str _ _ r _ (Sg.start hsg.out.1) (by omega)).mono ?_
      rintro e w5 ⟨s, rfl, s0, s1, sg5⟩
      have R5 := Lib.hid (hrow.out.psg sg5 hr3)
      have S5 := Lib.hid (hsg.out.trans sg5)
      have hz5 := S5.out.2.size
      have HB : Hid (∀ b, u6.ownBlock = some b → w3.heap.size ≤ b) := fun b e => (R5.out.lt b e).1
      clear sg5 hrow hsg
      go_wp2_with (at_builtin; refine wpList_append_string _ rfl _ _ rfl w3.heap.size _ _ rfl (SRow.alloc R5.out _) _ s rfl ?_ (by omega) (by simp; omega) ?_)
      · simp [go_sem]
      · intro v6 w6 hr6 hg6 ho6
        have S6 := Lib.hid ((S5.out.alloc (.cells #[.string s] 9)).past (fun b e => by have := HB.out b e; omega) hg6)
        have R6 := Lib.hid hr6
        have M6 : Hid (∀ x ∈ H ++ [s], x.size ≤ 7) := fun x hx => by
          rcases List.mem_append.1 hx with hx | hx
          · exact hsm.out x hx
          · rw [List.mem_singleton.1 hx]; exact s1
        clear hr6 hg6 ho6
        go_wp2
        go_roundw
        case rel => exact ⟨m - 1, H ++ [s], by go_num, by omega, by simp; omega, M6, R6, S6.out.mono (by omega) (by omega)⟩
        case measure => simp [intOf]; omega
    · obtain rfl : m = 0 := by omega
      go_wp2_with fail
      refine (pick_sg _ _ _ r _ (Sg.start hsg.out.1) (by omega) (by omega) (by omega)).mono ?_
      rintro e w7 ⟨t7, rfl, t70, t71, sg7⟩
      have H7 := Lib.hid (hrow.out.psg sg7 hr3)
      have SG7 := Lib.hid (hsg.out.trans sg7)
      have hz7 := SG7.out.2.size
      have HB : Hid (∀ b, u6.ownBlock = some b → w3.heap.size ≤ b) := fun b e => (H7.out.lt b e).1
      clear sg7 hrow hsg
      cases e0 : (t7 == 0)
      · cases e1 : (t7 == 1)
        · have R8 := Lib.hid (R3.out.sg SG7.out hr1)
          have B8 := Lib.hid (B3.out.trans ((SG7.out.below_r hr3).mono hwr))
          go_wp2
          go_ret2
          exact ⟨_, _, L', H, _, _, rfl, R8.out, l3, S3.out, H7.out, by omega, hsm.out, B8.out⟩
        · obtain ⟨a7, c7, hv7, _, _⟩ := H7.out.form
          subst hv7
          go_wp2
          go_loopw [6] (fun u wr => ∃ (Z : List ByteArray) (az : Option Addr) (cz : Nat), u = .slice az Z.length cz ∧ Z.length ≤ 31 ∧ Hid (∀ x ∈ Z, x.size ≤ 7) ∧ Hid (SRow wr w3.heap.size u Z) ∧ Hid (Sg w3 wr r 2000)) (fun u _ => match u with | .slice _ n _ => 31 - n | _ => 0)
          case atStart => exact ⟨H, a7, c7, rfl, by omega, hsm, H7, SG7.out.mono (by omega) (by omega)⟩
          case round =>
            obtain ⟨Z, az, cz, rfl, hz, hzs, hzr, hzg⟩ := hrel
            have hz9 := hzg.out.2.size
            have HB9 : Hid (∀ b, (Value.slice az Z.length cz).ownBlock = some b → w3.heap.size ≤ b) := fun b e => (hzr.out.lt b e).1
            by_cases hlt : Z.length < 31
            · have hlti : (Z.length : Int) < 31 := by omega
              go_wp2_with (at_builtin; refine wpList_append_string _ rfl _ _ rfl w3.heap.size _ _ rfl (SRow.alloc hzr.out _) _ ⟨#[49, 50, 48, 48, 49, 48, 48]⟩ rfl ?_ (by omega) (by simp; omega) ?_)
              · simp [go_sem]
              · intro v6 w6 hr6 hg6 ho6
                have S6 := Lib.hid ((hzg.out.alloc (.cells #[.string ⟨#[49, 50, 48, 48, 49, 48, 48]⟩] 9)).past (fun b e => by have := HB9.out b e; omega) hg6)
                have R6 := Lib.hid hr6
                obtain ⟨a6, c6, hv6, _, _⟩ := R6.out.form
                subst hv6
                have M6 : Hid (∀ x ∈ Z ++ [(⟨#[49, 50, 48, 48, 49, 48, 48]⟩ : ByteArray)], x.size ≤ 7) := fun x hx => by
                  rcases List.mem_append.1 hx with hx | hx
                  · exact hzs.out x hx
                  · rw [List.mem_singleton.1 hx]; decide
                clear hr6 hg6 ho6
                go_wp2
                go_roundw
                case rel => exact ⟨_, _, _, rfl, by simp; omega, M6, R6, S6⟩
                case measure => simp; omega
            · have hlti : ¬ (Z.length : Int) < 31 := by omega
              have R8 := Lib.hid (R3.out.sg hzg.out hr1)
              have B8 := Lib.hid (B3.out.trans ((hzg.out.below_r hr3).mono hwr))
              go_wp2
              go_ret2
              exact ⟨_, _, L', Z, _, _, rfl, R8.out, l3, S3.out, hzr.out, hz, hzs.out, B8.out⟩
      · go_wp2_with (at_builtin; refine wpList_append_string _ rfl _ _ rfl w3.heap.size _ _ rfl (SRow.alloc H7.out _) _ ⟨#[120]⟩ rfl ?_ (by omega) (by simp; omega) ?_)
        · simp [go_sem]
        · intro v6 w6 hr6 hg6 ho6
          have S6 := Lib.hid ((SG7.out.alloc (.cells #[.string ⟨#[120]⟩] 9)).past (fun b e => by have := HB.out b e; omega) hg6)
          have R6 := Lib.hid hr6
          have M6 : Hid (∀ x ∈ H ++ [(⟨#[120]⟩ : ByteArray)], x.size ≤ 7) := fun x hx => by
            rcases List.mem_append.1 hx with hx | hx
            · exact hsm.out x hx
            · rw [List.mem_singleton.1 hx]; decide
          have R8 := Lib.hid (R3.out.sg S6.out hr1)
          have B8 := Lib.hid (B3.out.trans ((S6.out.below_r hr3).mono hwr))
          clear hr6 hg6 ho6
          go_wp2
          go_ret2
          exact ⟨_, _, L', H ++ [⟨#[120]⟩], _, _, rfl, R8.out, l3, S3.out, R6.out, by simp; omega, M6.out, B8.out⟩
end Go.Proofs.Ytghgipcblhfceaa
