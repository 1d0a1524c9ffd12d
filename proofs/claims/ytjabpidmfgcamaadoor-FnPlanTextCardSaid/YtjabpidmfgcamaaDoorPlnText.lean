/-
  The text of a plan, in the program and in the model of the document.
-/
import Derived.Test.YtjabpidmfgcamaaDoorMgP4
import Derived.Test.YtjabpidmfgcamaaDoorDecN
import Derived.Test.YtjabpidmfgcamaaDoorPlan
import Derived.Test.YtjabpidmfgcamaaDoorSCon
import Derived.Deep.RegionHeld3
namespace Go.Proofs.YtjabpidmfgcamaaDoor
open Go.RowKit
open Go.PlainAid (bt get_bt bt_nonneg bt_le)
set_option linter.unusedVariables false

/-- The items of a plan's text: two numbers, and the codes. -/
def M.plT (b p : Int) (S : Nat → ByteArray) (k : Nat) : ByteArray := if k = 0 then M.decT b else if k = 1 then M.decT p else S (k - 2)
def M.planText (b p : Int) (n : Nat) (S : Nat → ByteArray) : ByteArray := if M.plan b p n S then M.itemsOf (M.plT b p S) (n + 2) else ⟨#[]⟩
theorem plan_sizes {b p : Int} {n : Nat} {S : Nat → ByteArray} (h : M.plan b p n S = true) : n ≤ 60 ∧ (2 ≤ b ∧ b ≤ 16 ∧ 1 ≤ p ∧ p ≤ 4) ∧ (∀ i, i < n → (S i).size ≤ 7) ∧ ∀ i, i < n + 2 → (M.plT b p S i).size ≤ 7 := by
  have h1 := M.plan_shape h
  obtain ⟨h2, h3⟩ := M.plan_yes h
  have h4 := M.fits_yes h2
  have hS : ∀ i, i < n → (S i).size ≤ 7 := fun i hi => by
    have := (M.code_yes ((M.diffTo_iff S n).1 h3 i hi).1).2
    omega
  refine ⟨by omega, h1, hS, fun i hi => ?_⟩
  unfold M.plT
  by_cases e0 : i = 0
  · rw [if_pos e0]
    have := M.decT_size (n := b) (by omega) (by omega)
    omega
  · rw [if_neg e0]
    by_cases e1 : i = 1
    · rw [if_pos e1]
      have := M.decT_size (n := p) (by omega) (by omega)
      omega
    · rw [if_neg e1]
      exact hS (i - 2) (by omega)
theorem plT_two (b p : Int) (S : Nat → ByteArray) : M.gapsTo M.gap (M.plT b p S) 2 = M.decT b ++ M.gap ++ M.decT p := by
  rw [M.gapsTo_next M.gap (M.plT b p S) (by decide : (1 : Nat) ≠ 0), M.gapsTo_one]
  rfl
theorem plT_list (b p : Int) (S : Nat → ByteArray) (n : Nat) : [M.decT b, M.decT p] ++ sst S n = sst (M.plT b p S) (n + 2) := by
  apply List.ext_getElem
  · simp [sst]
  · intro i h1 h2
    match i, h1, h2 with
    | 0, _, _ => simp [sst, M.plT]
    | 1, _, _ => simp [sst, M.plT]
    | i + 2, _, _ => simp [sst, M.plT]
theorem Tri.under2 {w w' : World} {b : Nat} {x y z : Value} (h : Tri w b x y z) {B : Nat} (hb : Below B w w') (hlt : b < B) : w'.cell? ⟨b, 0, none⟩ = some x ∧ w'.cell? ⟨b, 1, none⟩ = some y ∧ w'.cell? ⟨b, 2, none⟩ = some z := by
  obtain ⟨⟨h0, h1, h2⟩, _⟩ := h
  exact ⟨(hb.cell (p := ⟨b, 0, none⟩) hlt).trans h0, (hb.cell (p := ⟨b, 1, none⟩) hlt).trans h1, (hb.cell (p := ⟨b, 2, none⟩) hlt).trans h2⟩

set_option maxHeartbeats 1000000 in
set_option maxRecDepth 100000 in
theorem spec_FormatPlan (w : World) (b p : Int) (a : Option Addr) (n c : Nat) (S : Nat → ByteArray) (h : Strs w a n S) (hf : SFits n S) (hn : n ≤ 1048576) :
    Calls Tryd.prog 6 #[.agg #[.int .i64 b, .int .i64 p, .slice a n c]] w fun e w' => e = .returned (.string (M.planText b p n S)) ∧ Below w.heap.size w w' := by
  have HL := Lib.hid (h.on (below_alloc0 w (.cells #[.int .i64 b, .int .i64 p, .slice a n c] 25)))
  have HF := Lib.hid hf
  have BX := Lib.hid (tri_made w (.int .i64 b) (.int .i64 p) (.slice a n c) 25)
  clear h hf
  cases hv : M.plan b p n S
  · have HV := Lib.hid hv
    have HR : Hid (M.planText b p n S = ⟨#[]⟩) := by unfold Hid M.planText; rw [hv]; rfl
    clear hv
    go_enter Tryd.func6, Tryd.ntmps6
    go_wp2_with fail
    refine (spec_PlanValid _ b p a n c S HL.out HF.out hn).mono ?_
    rw [HV.out]
    rintro e w1 ⟨rfl, hb1⟩
    go_wp2
    go_ret
    exact ⟨ret_txt HR.out, sstep (below_alloc0 w _) hb1⟩
  · have HV := Lib.hid hv
    have HR : Hid (M.planText b p n S = M.itemsOf (M.plT b p S) (n + 2)) := by unfold Hid M.planText; rw [hv]; rfl
    have HG : Hid (M.itemsOf (M.plT b p S) (n + 2) = M.gapsTo M.gap (M.plT b p S) (n + 2)) := if_neg (by omega)
    have H2 := Lib.hid (plT_two b p S)
    obtain ⟨nm, ⟨b0, b1, p0, p1⟩, hs, hz⟩ := plan_sizes hv
    have HS := Lib.hid hs
    have HZ := Lib.hid hz
    have db := M.decT_size (n := b) (by omega) (by omega)
    have dp := M.decT_size (n := p) (by omega) (by omega)
    have HDB := Lib.hid (fun W => spec_dec b W (by omega) (by omega))
    have HDP := Lib.hid (fun W => spec_dec p W (by omega) (by omega))
    clear hv hs hz
    go_enter Tryd.func6, Tryd.ntmps6
    go_wp2_with fail
    refine (spec_PlanValid _ b p a n c S HL.out HF.out hn).mono ?_
    rw [HV.out]
    rintro e w1 ⟨rfl, hb1⟩
    have HL1 := Lib.hid (HL.out.on hb1)
    have BX1 := Lib.hid (BX.out.on hb1)
    have B1 : Hid (Below w.heap.size w w1) := sstep (below_alloc0 w _) hb1
    have lx := BX1.out.lt
    obtain ⟨⟨d0, d1, d2⟩, g0, g1, g2⟩ := BX1.out
    obtain ⟨r, hr⟩ : ∃ r, M.decT b = r := ⟨_, rfl⟩
    obtain ⟨q, hq⟩ : ∃ q, M.decT p = q := ⟨_, rfl⟩
    rw [hr] at db HDB H2
    rw [hq] at dp HDP H2
    have q1 : ¬ 9223372036854775807 < r.size + 1 := by omega
    have q2 : ¬ 9223372036854775807 < r.size + 1 + q.size := by omega
    have HGP : Hid (M.gap = ⟨#[32]⟩) := rfl
    have KL := Below.refl w1.heap.size w1
    clear hb1 HL BX hr hq
    go_wp2
    go_region_held3 (fun w' => w'.cell? ⟨w.heap.size, 0, none⟩ = some (.int .i64 b) ∧ w'.cell? ⟨w.heap.size, 1, none⟩ = some (.int .i64 p) ∧ w'.cell? ⟨w.heap.size, 2, none⟩ = some (.slice a n c)) (first | exact ⟨d0, d1, d2⟩ | exact BX1.out.under2 KL lx) (first
      | (go_at_call_of 17 (Value.int .i64 b); refine (HDB.out _).mono ?_; rintro e w3 ⟨rfl, hb3⟩; have KL : Below w1.heap.size w1 w3 := (by first | exact KL.trans (hb3.mono KL.size) | exact KL.drew.trans (hb3.mono KL.size)))
      | (go_at_call_of 17 (Value.int .i64 p); refine (HDP.out _).mono ?_; rintro e w4 ⟨rfl, hb4⟩; have KL : Below w1.heap.size w1 w4 := (by first | exact KL.trans (hb4.mono KL.size) | exact KL.drew.trans (hb4.mono KL.size))))
    all_goals
      have KW := Lib.hid KL
      clear d0 d1 d2 g0 g1 g2
      have BX2 := Lib.hid (BX1.out.on KL)
      obtain ⟨⟨d0, d1, d2⟩, g0, g1, g2⟩ := BX2.out
      have H2S : Hid (r ++ ⟨#[32]⟩ ++ q = M.gapsTo M.gap (M.plT b p S) 2) := H2.out.symm
      clear db dp q1 q2 HDB HDP
      go_wp2
      go_loopw [3, 4] (fun o i wr => ∃ k : Nat, k ≤ n ∧ i = .int .i64 k ∧ o = .string (M.gapsTo M.gap (M.plT b p S) (k + 2)) ∧ Hid (Below w1.heap.size w1 wr)) (fun _ i _ => n - (intOf i).toNat)
      case atStart => exact ⟨0, Nat.zero_le _, rfl, congrArg Value.string H2S.out, KW⟩
      case round =>
        obtain ⟨k, hk, rfl, rfl, hb⟩ := hrel
        clear d0 d1 d2 g0 g1 g2
        have BX3 := Lib.hid (BX1.out.on hb.out)
        obtain ⟨⟨d0, d1, d2⟩, g0, g1, g2⟩ := BX3.out
        have hgs := M.gapsTo_size (g := M.gap) (T := M.plT b p S) (m := 7) (k := k + 2) (fun i hi => HZ.out i (by omega))
        have hg1 : M.gap.size = 1 := rfl
        rw [hg1] at hgs
        clear hg1
        by_cases hlt : k < n
        · obtain ⟨bb, oo, rfl, c0⟩ := (HL1.out.on hb.out) k hlt
          have hss := HS.out k hlt
          have hki : (k : Int) < (n : Int) := by omega
          have HN : Hid (M.gapsTo M.gap (M.plT b p S) (k + 1 + 2) = M.gapsTo M.gap (M.plT b p S) (k + 2) ++ ⟨#[32]⟩ ++ S k) := M.gapsTo_next M.gap (M.plT b p S) (by omega : k + 2 ≠ 0)
          obtain ⟨x, hx⟩ : ∃ x, M.gapsTo M.gap (M.plT b p S) (k + 2) = x := ⟨_, rfl⟩
          obtain ⟨s, hs⟩ : ∃ s, S k = s := ⟨_, rfl⟩
          rw [hx, hs] at HN
          rw [hx] at hgs ⊢
          rw [hs] at c0 hss
          clear hx hs
          go_wp2
          go_roundw
          case rel => exact ⟨k + 1, by omega, by go_num, congrArg Value.string HN.out.symm, hb⟩
          case measure => simp [intOf]; omega
        · obtain rfl : k = n := by omega
          have B2 := sstep B1.out hb.out
          go_wp2
          go_ret
          exact ⟨ret_txt (HR.out.trans HG.out), B2⟩

theorem plan_concat (w1 W : World) (hb : Below w1.heap.size w1 W) (r q : ByteArray) (a : Option Addr) (n c : Nat) (S : Nat → ByteArray) (h : Strs w1 a n S) (hn : n ≤ 60) :
    Calls Tryd.prog 15 #[.slice (some ⟨W.heap.size + 1, 0, none⟩) 2 2] ((W.alloc (.cells #[.string r, .string q] 9)).alloc (.cells #[.slice (some ⟨W.heap.size, 0, none⟩) 2 2, .slice a n c] 23)) (SRowOut ((W.alloc (.cells #[.string r, .string q] 9)).alloc (.cells #[.slice (some ⟨W.heap.size, 0, none⟩) 2 2, .slice a n c] 23)) (sst (fun i => if i = 0 then r else q) 2 ++ sst S n)) := by
  refine sslices_Concat2 _ (W.heap.size + 1) (some ⟨W.heap.size, 0, none⟩) a 2 2 n c (fun i => if i = 0 then r else q) S ?_ ?_ ?_ ?_ (by omega)
  · intro i hi
    match i, hi with
    | 0, _ => exact ⟨_, _, rfl, by simp [go_sem]⟩
    | 1, _ => exact ⟨_, _, rfl, by simp [go_sem]⟩
  · exact h.on ((hb.alloc hb.size _).alloc (by have := hb.size; simp; omega) _)
  · simp [go_sem]
  · simp [go_sem]
set_option maxHeartbeats 1000000 in
set_option maxRecDepth 100000 in
theorem impl_FormatPlan (w : World) (b p : Int) (a : Option Addr) (n c : Nat) (S : Nat → ByteArray) (hT : PowT w) (h : Strs w a n S) (hf : SFits n S) (hn : n ≤ 1048576) :
    Calls Tryd.prog 5 #[.agg #[.int .i64 b, .int .i64 p, .slice a n c]] w fun e w' => e = .returned (.string (M.planText b p n S)) ∧ Below w.heap.size w w' := by
  have HL := Lib.hid (h.on (below_alloc0 w (.cells #[.int .i64 b, .int .i64 p, .slice a n c] 25)))
  have HF := Lib.hid hf
  have HPT := Lib.hid (hT.below (below_alloc0 w (.cells #[.int .i64 b, .int .i64 p, .slice a n c] 25)))
  have BX := Lib.hid (tri_made w (.int .i64 b) (.int .i64 p) (.slice a n c) 25)
  clear h hf hT
  cases hv : M.plan b p n S
  · have HV := Lib.hid hv
    have HR : Hid (M.planText b p n S = ⟨#[]⟩) := by unfold Hid M.planText; rw [hv]; rfl
    clear hv
    go_enter Tryd.func5, Tryd.ntmps5
    go_wp2_with fail
    refine (impl_PlanValid _ b p a n c S HL.out HF.out hn).mono ?_
    rw [HV.out]
    rintro e w1 ⟨rfl, hb1⟩
    go_wp2
    go_ret
    exact ⟨ret_txt HR.out, sstep (below_alloc0 w _) hb1⟩
  · have HV := Lib.hid hv
    have HR : Hid (M.planText b p n S = M.itemsOf (M.plT b p S) (n + 2)) := by unfold Hid M.planText; rw [hv]; rfl
    have HLS := Lib.hid (plT_list b p S n)
    obtain ⟨nm, ⟨b0, b1, p0, p1⟩, hs, hz⟩ := plan_sizes hv
    have HZ := Lib.hid hz
    have db := M.decT_size (n := b) (by omega) (by omega)
    have dp := M.decT_size (n := p) (by omega) (by omega)
    clear hv hs hz
    go_enter Tryd.func5, Tryd.ntmps5
    go_wp2_with fail
    refine (impl_PlanValid _ b p a n c S HL.out HF.out hn).mono ?_
    rw [HV.out]
    rintro e w1 ⟨rfl, hb1⟩
    have HL1 := Lib.hid (HL.out.on hb1)
    have HP1 := Lib.hid (HPT.out.below hb1)
    have BX1 := Lib.hid (BX.out.on hb1)
    have B1 : Hid (Below w.heap.size w w1) := sstep (below_alloc0 w _) hb1
    have HDB := Lib.hid (fun (W : World) (hb : Below w1.heap.size w1 W) => itoa_dec b (by omega) (by omega) W (HP1.out.below hb))
    have HDP := Lib.hid (fun (W : World) (hb : Below w1.heap.size w1 W) => itoa_dec p (by omega) (by omega) W (HP1.out.below hb))
    have lx := BX1.out.lt
    obtain ⟨⟨d0, d1, d2⟩, g0, g1, g2⟩ := BX1.out
    obtain ⟨r, hr⟩ : ∃ r, M.decT b = r := ⟨_, rfl⟩
    obtain ⟨q, hq⟩ : ∃ q, M.decT p = q := ⟨_, rfl⟩
    rw [hr] at db HDB HLS
    rw [hq] at dp HDP HLS
    have KL := Below.refl w1.heap.size w1
    clear hb1 HL BX hr hq HPT
    go_wp2
    go_region_held3 (fun w' => w'.cell? ⟨w.heap.size, 0, none⟩ = some (.int .i64 b) ∧ w'.cell? ⟨w.heap.size, 1, none⟩ = some (.int .i64 p) ∧ w'.cell? ⟨w.heap.size, 2, none⟩ = some (.slice a n c)) (first | exact ⟨d0, d1, d2⟩ | exact BX1.out.under2 KL lx | exact BX1.out.under2 (KL.alloc KL.size _) lx) (first
      | (go_at_call_of 13 (Value.int .i64 b); refine (HDB.out _ (by first | exact KL | exact KL.drew)).mono ?_; rintro e w3 ⟨rfl, hb3⟩; have KL : Below w1.heap.size w1 w3 := (by first | exact KL.trans (hb3.mono KL.size) | exact KL.drew.trans (hb3.mono KL.size)))
      | (go_at_call_of 13 (Value.int .i64 p); refine (HDP.out _ (by first | exact KL | exact KL.drew)).mono ?_; rintro e w4 ⟨rfl, hb4⟩; have KL : Below w1.heap.size w1 w4 := (by first | exact KL.trans (hb4.mono KL.size) | exact KL.drew.trans (hb4.mono KL.size))))
    all_goals
      have hzK := KL.size
      have BX2 := Lib.hid (BX1.out.on (KL.alloc KL.size (.cells #[.string r, .string q] 9)))
      clear d0 d1 d2 g0 g1 g2
      obtain ⟨⟨d0, d1, d2⟩, g0, g1, g2⟩ := BX2.out
      clear HDB HDP
      go_wp2_with fail
      refine (plan_concat w1 _ KL r q a n c S HL1.out nm).mono ?_
      rintro e w5 ⟨v5, rfl, r5, hb5⟩
      have K5 : Below w1.heap.size w1 w5 := Below.trans (by go_grown) (hb5.mono (by simp; omega))
      obtain ⟨a5, c5, rfl, hc5, hl5⟩ := r5.form
      have hln : (sst (fun i => if i = 0 then r else q) 2 ++ sst S n).length = n + 2 := by rw [List.length_append, sst_length, sst_length]; omega
      have HEQ : sst (fun i => if i = 0 then r else q) 2 ++ sst S n = sst (M.plT b p S) (n + 2) := HLS.out
      rw [hln] at hl5 hc5
      rw [HEQ] at hl5
      rw [hln]
      have HSS : Hid (Strs w5 a5 (n + 2) (M.plT b p S)) := hl5.congr fun i hi => sC_sst hi
      have hgs := M.gapsTo_size (g := M.gap) (T := M.plT b p S) (m := 7) (k := n + 2) (fun i hi => HZ.out i hi)
      have hg1 : M.gap.size = 1 := rfl
      rw [hg1] at hgs
      clear hl5 r5 hg1
      go_wp2_with fail
      refine (impl_joinItems w5 a5 (n + 2) c5 (M.plT b p S) HSS.out hc5 (by omega) (by omega)).mono ?_
      rintro e w6 ⟨rfl, hb6⟩
      go_wp2
      go_ret
      exact ⟨ret_txt HR.out, sstep (sstep B1.out K5) hb6⟩
end Go.Proofs.YtjabpidmfgcamaaDoor
