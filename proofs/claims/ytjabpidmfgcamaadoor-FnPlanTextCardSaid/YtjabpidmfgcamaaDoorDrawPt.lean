/-
  Drawn texts of plans: DrawParsePlan.
-/
import Derived.Test.YtjabpidmfgcamaaDoorDrawVp
import Derived.Test.YtjabpidmfgcamaaDoorDrawH
import Derived.Test.YtjabpidmfgcamaaDoorPlnPM
import Derived.Deep.RegionWith
namespace Go.Proofs.YtjabpidmfgcamaaDoor
open Go.RowKit
open Go.PlainAid (bt get_bt bt_nonneg bt_le)
set_option linter.unusedVariables false

theorem IsRow.past {k : IntKind} {w w' : World} {a : Option Addr} {l c : Nat} {z : List Int} (h : IsRow k w a l c z) (hb : Below w.heap.size w w') : IsRow k w' a l c z := by
  rcases h with h | ⟨x, hx, q1, q2, q3, q4, q5⟩
  · exact Or.inl h
  · exact Or.inr ⟨x, hx, q1, q2, q3, fun i hi => (hb.cell (p := x.add i) (World.block_lt_of_cell? _ _ (q4 i hi))).trans (q4 i hi), q5⟩
theorem text_some (s : ByteArray) (h : 0 < s.size) : ¬ s.toList = [] := by
  rw [ByteArray.toList_eq]
  intro e
  have h1 : s.data.toList.length = 0 := by rw [e]; rfl
  rw [Array.length_toList] at h1
  have h2 : s.data.size = s.size := rfl
  omega
theorem plan_text_size {b p : Int} {n : Nat} {S : Nat → ByteArray} (h : M.plan b p n S = true) : 1 ≤ (M.planText b p n S).size ∧ (M.planText b p n S).size ≤ 1000 := by
  obtain ⟨h60, ⟨d1, d2, d3, d4⟩, _, hz⟩ := plan_sizes h
  unfold M.planText
  rw [if_pos h]
  unfold M.itemsOf
  rw [if_neg (by omega)]
  have h1 := M.gapsTo_size (g := M.gap) (T := M.plT b p S) (m := 7) (k := n + 2) fun i hi => hz i hi
  have h3 : M.gap.size = 1 := rfl
  rw [h3] at h1
  refine ⟨?_, by omega⟩
  rw [M.gapsTo_next M.gap _ (by omega), ByteArray.size_append, ByteArray.size_append, h3]
  omega
theorem ORow.strs' {w : World} {base : Nat} {a : Option Addr} {c : Nat} {L : List ByteArray} (h : ORow w base (.slice a L.length c) L) : Strs w a L.length (sC L) := by
  obtain ⟨a', c', e, hl⟩ := h.form
  injection e with e1 e2 e3
  rw [e1]
  exact hl
def StrLow (w : World) (e : Ending) (w' : World) : Prop := ∃ s : ByteArray, e = .returned (.string s) ∧ s.size ≤ 2000 ∧ Below w.heap.size w w'
set_option maxHeartbeats 4000000 in
set_option maxRecDepth 100000 in
theorem DrawParsePlan_any (a : Option Addr) (l k : Nat) (z : List Int) (w : World) (h : IsRow .u8 w a l k z) :
    Calls Tryd.prog 10 #[.slice a l k] w (StrLow w) := by
  go_enter Tryd.func10, Tryd.ntmps10
  go_wp2_with fail
  refine (open_any a l k z w h).mono ?_
  rintro e w1 ⟨r, rfl, rd1, b1, hwr⟩
  have hr1 := rd1.lt
  have B1 := Lib.hid b1
  have RD1 := Lib.hid rd1
  clear b1 rd1 h
  go_wp2_with fail
  refine (l3Some_ok _ r _ RD1.out (by omega)).mono ?_
  rintro e w2 ⟨b, p, v1, L1, rfl, _, _, R1, l0, l1, ok1, hpl, sg2⟩
  obtain ⟨a1, c1, hv1, _, lt1⟩ := R1.form
  subst hv1
  obtain ⟨t1, t2⟩ := plan_text_size hpl
  have HF := Lib.hid (SmallS.fits ok1.small (by omega))
  have LT := Lib.hid lt1
  have SG2 := Lib.hid ((Sg.start RD1.out).trans sg2)
  clear R1 lt1 ok1 sg2 hpl
  go_wp2_with fail
  refine (spec_FormatPlan _ b p a1 L1.length c1 (sC L1) LT.out HF.out (by omega)).mono ?_
  generalize M.planText b p L1.length (sC L1) = t at t1 t2
  rintro e w3 ⟨rfl, b3⟩
  have SG3 := Lib.hid (SG2.out.below b3)
  clear b3 SG2 LT HF
  go_wp2_with fail
  refine (pick_sg _ _ _ r _ SG3.out (by omega) (by omega) (by omega)).mono ?_
  rintro e w5 ⟨q, rfl, q0, q1, sg5⟩
  have SG5 := Lib.hid sg5
  clear sg5 SG3
  cases hv : (q == 0)
  · go_wp2_with fail
    refine (pick_sg _ _ _ r _ SG5.out (by omega) (by omega) (by omega)).mono ?_
    rintro e w6 ⟨x, rfl, x0, x1, sg6⟩
    have SG6 := Lib.hid sg6
    clear sg6 SG5
    go_wp2_with fail
    refine (pick_sg _ _ _ r _ SG6.out (by omega) (by omega) (by omega)).mono ?_
    rintro e w7 ⟨y, rfl, y0, y1, sg7⟩
    have SG7 := Lib.hid sg7
    have hr := sg7.1.lt
    clear sg7 SG6
    obtain ⟨x, rfl⟩ := Int.eq_ofNat_of_zero_le x0
    obtain ⟨y, rfl⟩ := Int.eq_ofNat_of_zero_le y0
    obtain ⟨j, hj⟩ : ∃ j, (x + y) % t.size = j := ⟨_, rfl⟩
    have hjl : j < t.size := by rw [← hj]; exact Nat.mod_lt _ (by omega)
    have ht0 : ¬ (t.size : Int) = 0 := by omega
    have ht1 : ¬ t.size = 0 := by omega
    have ht2 : ((t.size : Int) == 0) = false := by rw [beq_eq_false_iff_ne]; omega
    have hjt : ((x : Int) + (y : Int)).tmod (t.size : Int) = (j : Int) := by rw [← hj]; exact (Int.ofNat_tmod (x + y) t.size).symm
    have hje : ((x : Int) + (y : Int)) % (t.size : Int) = (j : Int) := by rw [← hj]; exact (Int.natCast_emod (x + y) t.size).symm
    have hxy : IntKind.i64.wrap ((x : Int) + (y : Int)) = (x : Int) + (y : Int) := IntWalk.i64_in _ (by omega)
    have q1 : (j : Int) ≤ (t.size : Int) := by omega
    clear hj
    go_wp2
    go_region_with (first | (go_at_call 25; refine (of_sg w1 [⟨#[]⟩, ⟨#[48]⟩, ⟨#[32]⟩, ⟨#[45]⟩, ⟨#[120]⟩] w7.heap.size _ r _ ((SG7.out.alloc _).drew) (by omega) (by decide) (by decide) (by omega) (cells_str [⟨#[]⟩, ⟨#[48]⟩, ⟨#[32]⟩, ⟨#[45]⟩, ⟨#[120]⟩] _ w7)).mono ?_; rintro e w8 ⟨s, rfl, hs, st7⟩; have hz1 := (show ∀ x ∈ [(⟨#[]⟩ : ByteArray), ⟨#[48]⟩, ⟨#[32]⟩, ⟨#[45]⟩, ⟨#[120]⟩], x.size ≤ 1 from by decide) s hs; clear hs) | (go_at_call 24; refine (pick_sg w1 _ _ r _ st7 (by omega) (by omega) (by omega)).mono ?_; rintro e w9 ⟨n, rfl, n0, n1, st8⟩; obtain ⟨n, rfl⟩ := Int.eq_ofNat_of_zero_le n0; have q3 : (0 : Int) ≤ (j : Int) + (n : Int) := (by omega); have q4 : (j : Int) + (n : Int) ≤ (t.size : Int) := (by omega); have sj : IntKind.i64.wrap ((j : Int) + (n : Int)) = (j : Int) + (n : Int) := IntWalk.i64_in _ (by omega); have tj : ((j : Int) + (n : Int)).toNat = j + n := (by omega)))
    all_goals
      go_wp2
      go_ret
      exact ⟨_, rfl, by simp only [ByteArray.size_append, ByteArray.size_extract]; omega, B1.out.trans ((st8.below_r hr1).mono hwr)⟩
  · go_wp2
    go_ret
    exact ⟨_, rfl, by omega, B1.out.trans ((SG5.out.below_r hr1).mono hwr)⟩
end Go.Proofs.YtjabpidmfgcamaaDoor
