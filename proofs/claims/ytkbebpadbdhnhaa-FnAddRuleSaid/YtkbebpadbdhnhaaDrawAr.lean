/-
  Drawn rules, and a rule to add.
-/
import Derived.Test.YtkbebpadbdhnhaaDrawRm
namespace Go.Proofs.Ytkbebpadbdhnhaa
open Go.RowKit
open Go.PlainAid (bt get_bt bt_nonneg bt_le)
set_option linter.unusedVariables false

theorem IsRow.onward {k : IntKind} {w w' : World} {a : Option Addr} {l c : Nat} {z : List Int} (h : IsRow k w a l c z) (hb : Below w.heap.size w w') : IsRow k w' a l c z := by
  rcases h with h | ⟨x, hx, q1, q2, q3, q4, q5⟩
  · exact Or.inl h
  · exact Or.inr ⟨x, hx, q1, q2, q3, fun i hi => (hb.cell (p := x.add i) (World.block_lt_of_cell? _ _ (q4 i hi))).trans (q4 i hi), q5⟩
def RlsTwo (w : World) (e : Ending) (w' : World) : Prop := ∃ (v : Value) (p y : ByteArray), e = .returned (.tuple #[v, .string p, .string y]) ∧ p.size ≤ 30 ∧ y.size ≤ 30 ∧ RlsOut w w' v
set_option maxHeartbeats 2000000 in
set_option maxRecDepth 100000 in
theorem DrawAddRule_any (a : Option Addr) (l k : Nat) (z : List Int) (w : World) (h : IsRow .u8 w a l k z) :
    Calls Try.prog 4 #[.slice a l k] w (RlsTwo w) := by
  go_enter Try.func4, Try.ntmps4
  go_wp2_with fail
  refine (open_any a l k z w h).mono ?_
  rintro e w1 ⟨r, rfl, rd1, b1, hwr⟩
  have hr1 := rd1.lt
  have B1 := Lib.hid b1
  have RD1 := Lib.hid rd1
  have H1 := Lib.hid (h.onward b1)
  clear b1 rd1 h
  go_wp2_with fail
  refine (DrawLookUp_row a l k z _ H1.out).mono ?_
  rintro e w2 ⟨v, c, L, B, rfl, hcs, r2, hB, l2, s2, b2⟩
  have R2 := Lib.hid r2
  have S2 := Lib.hid s2
  have RD2 := Lib.hid (RD1.out.below b2)
  have B2 := Lib.hid (step B1.out b2)
  have hr2 := RD2.out.lt
  clear b2 r2 s2 RD1 H1
  go_wp2_with fail
  refine (num_sg _ [4, 5, 6, 7, 0] w2.heap.size _ r _ ((Sg.start RD2.out).alloc _) (by omega) (by decide) (by decide) (by omega) (cells_int [4, 5, 6, 7, 0] _ w2)).mono ?_
  rintro e w3 ⟨m, rfl, hm, sg3⟩
  have hv := (show ∀ x ∈ [(4 : Int), 5, 6, 7, 0], 0 ≤ x ∧ x ≤ 7 from by decide) m hm
  obtain ⟨m, rfl⟩ := Int.eq_ofNat_of_zero_le hv.1
  have SG3 := Lib.hid sg3
  have R3 := Lib.hid (R2.out.rsg sg3 (by omega))
  have hr3 := sg3.1.lt
  clear hm hv sg3
  go_wp2_with fail
  all_goals
    refine (of_sg w2 [⟨#[97]⟩, ⟨#[98]⟩, ⟨#[104, 101, 114, 101]⟩, ⟨#[110, 101, 119]⟩, ⟨#[]⟩, ⟨#[66]⟩] w3.heap.size _ r _ (SG3.out.alloc _) (by omega) (by decide) (by decide) (by omega) (cells_str [⟨#[97]⟩, ⟨#[98]⟩, ⟨#[104, 101, 114, 101]⟩, ⟨#[110, 101, 119]⟩, ⟨#[]⟩, ⟨#[66]⟩] _ w3)).mono ?_
    rintro e w4 ⟨y, rfl, hm4, sg4⟩
    have hy := (show ∀ x ∈ [(⟨#[97]⟩ : ByteArray), ⟨#[98]⟩, ⟨#[104, 101, 114, 101]⟩, ⟨#[110, 101, 119]⟩, ⟨#[]⟩, ⟨#[66]⟩], x.size ≤ 30 from by decide) y hm4
    have R4 := Lib.hid (R2.out.rsg sg4 (by omega))
    have B4 := Lib.hid (B2.out.trans ((sg4.below_r hr2).mono hwr))
    clear hm4 sg4
    go_wp2
    go_ret3
    exact ⟨_, _, _, rfl, by first | omega | (rw [ByteArray.size_extract]; omega), hy, rls_of R4.out l2 S2.out B4.out⟩
end Go.Proofs.Ytkbebpadbdhnhaa
