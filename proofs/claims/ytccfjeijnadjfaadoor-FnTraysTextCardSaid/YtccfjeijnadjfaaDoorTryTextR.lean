/-
  Read-only contracts over slices that may share their block (by gen_matr.py, from TryText).
-/
import Derived.Test.YtccfjeijnadjfaaDoorMgT11
import Derived.Test.YtccfjeijnadjfaaDoorMgT9
import Derived.Test.YtccfjeijnadjfaaDoorTry2
import Derived.Test.YtccfjeijnadjfaaDoorMgT3
import Derived.Deep.RegionHeld3
import Derived.Test.YtccfjeijnadjfaaDoorTryText
import Derived.Test.YtccfjeijnadjfaaDoorMgT10
import Derived.Test.YtccfjeijnadjfaaDoorTry2R
namespace Go.Proofs.YtccfjeijnadjfaaDoor
open Go.RowKit
open Go.PlainAid (bt get_bt bt_nonneg bt_le)
set_option linter.unusedVariables false

set_option maxHeartbeats 1000000 in
set_option maxRecDepth 100000 in
theorem spec_FormatTrays_r (w : World) (base : Nat) (v : Value) (n : Nat) (V : Nat → Value) (MM : Nat → List (Int × ByteArray)) (h : MatR w base v n V MM) (hz : Sz n MM) :
    Calls Tryd.prog 6 #[v] w fun e w' => e = .returned (.string (M.tryText n MM)) ∧ Below w.heap.size w w' := by
  obtain ⟨u, c, rfl⟩ := mat_slice_r h
  have HM := Lib.hid h
  have HZ := Lib.hid hz
  have HT := Lib.hid (spec_TraysValid_r w base _ n V MM h hz 20)
  clear h hz
  cases ho : traysOk n MM 20
  · have HR : Hid (M.tryText n MM = ⟨#[]⟩) := by unfold Hid M.tryText; rw [ho]; rfl
    have HO := Lib.hid ho
    clear ho
    go_enter Tryd.func6, Tryd.ntmps6
    go_wp2_with fail
    refine HT.out.mono ?_
    rw [HO.out]
    rintro e w1 ⟨rfl, hb1⟩
    go_wp2
    go_ret
    exact ⟨ret_txt HR.out, hb1⟩
  · have HR : Hid (M.tryText n MM = M.itemsOf (M.tryT MM) n) := by unfold Hid M.tryText; rw [ho]; rfl
    obtain ⟨nm, hall⟩ := try_sizes ho
    have HS := Lib.hid hall
    have HO := Lib.hid ho
    clear ho hall
    go_enter Tryd.func6, Tryd.ntmps6
    go_wp2_with fail
    refine HT.out.mono ?_
    rw [HO.out]
    rintro e w1 ⟨rfl, hb1⟩
    have HM1 := Lib.hid (HM.out.on hb1)
    have B1 := Lib.hid hb1
    clear hb1
    go_wp2
    go_loopw [3, 4] (fun o i wr => ∃ k : Nat, k ≤ n ∧ i = .int .i64 k ∧ o = .string (M.gapsTo M.gap (M.tryT MM) k) ∧ Below w1.heap.size w1 wr) (fun _ i _ => n - (intOf i).toNat)
    case atStart => exact ⟨0, Nat.zero_le _, rfl, rfl, Below.refl _ _⟩
    case round =>
      obtain ⟨k, hk, rfl, rfl, hb⟩ := hrel
      have hgs := M.gapsTo_size (g := M.gap) (T := M.tryT MM) (m := 20) (k := k) (fun i hi => (HS.out i (by omega)).2.2.1)
      have hg1 : M.gap.size = 1 := rfl
      rw [hg1] at hgs
      clear hg1
      by_cases hlt : k < n
      · obtain ⟨g, a', d, rfl, c0, hl⟩ := mat_at_r (HM1.out.on hb) hlt
        obtain ⟨i0, i1, s1, _⟩ := HS.out k hlt
        have hlb := World.block_lt_of_cell? _ _ c0
        have hki : (k : Int) < (n : Int) := by omega
        have HAPP := Lib.hid (fun o => tryT_app o MM k)
        have HT : Hid (if k = 0 then M.gapsTo M.gap (M.tryT MM) (k + 1) = M.gapsTo M.gap (M.tryT MM) k ++ M.tryT MM k else M.gapsTo M.gap (M.tryT MM) (k + 1) = M.gapsTo M.gap (M.tryT MM) k ++ M.gap ++ M.tryT MM k) := by
          by_cases h0 : k = 0
          · rw [Hid, if_pos h0]; exact M.gapsTo_first _ _ h0
          · rw [Hid, if_neg h0]; exact M.gapsTo_next _ _ h0
        obtain ⟨x, hx⟩ : ∃ x, M.gapsTo M.gap (M.tryT MM) k = x := ⟨_, rfl⟩
        obtain ⟨y, hy⟩ : ∃ y, M.gapsTo M.gap (M.tryT MM) (k + 1) = y := ⟨_, rfl⟩
        obtain ⟨z, hz⟩ : ∃ z, M.tryT MM k = z := ⟨_, rfl⟩
        have HY := Lib.hid hy
        rw [hx, hy, hz] at HT
        rw [hz] at HAPP
        rw [hx] at hgs ⊢
        have HLB := Lib.hid (fun (W : World) (hb : Below wr.heap.size wr W) => spec_LabelOf W a' (MM k).length d (nI (MM k)) (nC (MM k)) (hl.on hb) (HZ.out.one hlt).2 (HZ.out.one hlt).1)
        have hls := label_size (MM k).length (nI (MM k)) (nC (MM k))
        obtain ⟨f, hf⟩ : ∃ f, label (MM k).length (nI (MM k)) (nC (MM k)) = f := ⟨_, rfl⟩
        rw [hf] at hls HLB HAPP
        obtain ⟨m, hm⟩ : ∃ m, (MM k).length = m := ⟨_, rfl⟩
        rw [hm] at c0 i0 i1 HLB HAPP
        have HFR := Lib.hid (fun W => spec_dec (m : Int) W (by omega) (by omega))
        have hds := M.decT_size (n := (m : Int)) (by omega) (by omega)
        obtain ⟨r, hr⟩ : ∃ r, M.decT (m : Int) = r := ⟨_, rfl⟩
        rw [hr] at HAPP HFR hds
        have HGP : Hid (M.gap = ⟨#[32]⟩) := rfl
        have HCL : Hid (M.colonT = ⟨#[58]⟩) := rfl
        rw [HCL.out] at HAPP
        rw [HGP.out] at HT
        have KL := Below.refl wr.heap.size wr
        have HC3 : ∀ W : World, Below wr.heap.size wr W → W.cell? ⟨g, k, none⟩ = some (.slice a' m d) := fun W hb => (hb.cell (p := ⟨g, k, none⟩) hlb).trans c0
        clear hx hy hz hf hm hr hl s1
        by_cases h0 : k = 0
        · have HT0 := Lib.hid ((if_pos h0 : (if k = 0 then y = x ++ z else y = x ++ ⟨#[32]⟩ ++ z) = (y = x ++ z)).mp HT.out)
          have hg0 : ¬ (0 : Int) < (k : Int) := by omega
          have hg2 : decide ((0 : Int) < (k : Int)) = false := decide_eq_false hg0
          have q1 : ¬ 9223372036854775807 < x.size + f.size := by omega
          have q2 : ¬ 9223372036854775807 < x.size + f.size + 1 := by omega
          have q3 : ¬ 9223372036854775807 < x.size + f.size + 1 + r.size := by omega
          clear h0
          go_wp2
          go_region_held3 (fun w' => w'.cell? ⟨g, k, none⟩ = some (.slice a' m d)) (first | exact c0 | exact HC3 _ KL) (first
            | (go_at_call 13; refine (HLB.out _ (by first | exact KL | exact KL.drew)).mono ?_; rintro e w3 ⟨rfl, hb3⟩; have KL : Below wr.heap.size wr w3 := (by first | exact KL.trans (hb3.mono KL.size) | exact KL.drew.trans (hb3.mono KL.size)))
            | (go_at_call 14; refine (HFR.out _).mono ?_; rintro e w4 ⟨rfl, hb4⟩; have KL : Below wr.heap.size wr w4 := (by first | exact KL.trans (hb4.mono KL.size) | exact KL.drew.trans (hb4.mono KL.size))))
          all_goals
            have KW := Lib.hid KL
            go_wp2
            go_roundw
            case rel => exact ⟨k + 1, by omega, by go_num, by rw [HY.out, HT0.out, ← HAPP.out], sstep hb KW.out⟩
            case measure => simp [intOf]; omega
        · have HT0 := Lib.hid ((if_neg h0 : (if k = 0 then y = x ++ z else y = x ++ ⟨#[32]⟩ ++ z) = (y = x ++ ⟨#[32]⟩ ++ z)).mp HT.out)
          have hg0 : (0 : Int) < (k : Int) := by omega
          have hg2 : decide ((0 : Int) < (k : Int)) = true := decide_eq_true hg0
          have q1 : ¬ 9223372036854775807 < x.size + 1 + f.size := by omega
          have q2 : ¬ 9223372036854775807 < x.size + 1 + f.size + 1 := by omega
          have q3 : ¬ 9223372036854775807 < x.size + 1 + f.size + 1 + r.size := by omega
          clear h0
          go_wp2
          go_region_held3 (fun w' => w'.cell? ⟨g, k, none⟩ = some (.slice a' m d)) (first | exact c0 | exact HC3 _ KL) (first
            | (go_at_call 13; refine (HLB.out _ (by first | exact KL | exact KL.drew)).mono ?_; rintro e w3 ⟨rfl, hb3⟩; have KL : Below wr.heap.size wr w3 := (by first | exact KL.trans (hb3.mono KL.size) | exact KL.drew.trans (hb3.mono KL.size)))
            | (go_at_call 14; refine (HFR.out _).mono ?_; rintro e w4 ⟨rfl, hb4⟩; have KL : Below wr.heap.size wr w4 := (by first | exact KL.trans (hb4.mono KL.size) | exact KL.drew.trans (hb4.mono KL.size))))
          all_goals
            have KW := Lib.hid KL
            go_wp2
            go_roundw
            case rel => exact ⟨k + 1, by omega, by go_num, by rw [HY.out, HT0.out, ← HAPP.out], sstep hb KW.out⟩
            case measure => simp [intOf]; omega
      · obtain rfl : k = n := by omega
        have HD := Lib.hid (M.dashed_gaps (T := M.tryT MM) (n := k) (fun h0 => (HS.out (k - 1) (by omega)).2.2.2))
        obtain ⟨x, hx⟩ : ∃ x, M.gapsTo M.gap (M.tryT MM) k = x := ⟨_, rfl⟩
        rw [hx] at HD hgs ⊢
        clear hx
        go_wp2_with fail
        refine (spec_l2Dash x wr).mono ?_
        rintro e w2 ⟨rfl, rfl⟩
        go_wp2
        go_ret
        exact ⟨ret_txt (HR.out.trans HD.out.symm), sstep B1.out hb⟩

set_option maxHeartbeats 1000000 in
set_option maxRecDepth 100000 in
theorem impl_FormatTrays_r (w : World) (base : Nat) (v : Value) (n : Nat) (V : Nat → Value) (MM : Nat → List (Int × ByteArray)) (hT : PowT w) (h : MatR w base v n V MM) (hz : Sz n MM) :
    Calls Tryd.prog 5 #[v] w fun e w' => e = .returned (.string (M.tryText n MM)) ∧ Below w.heap.size w w' := by
  obtain ⟨u, c, rfl⟩ := mat_slice_r h
  have HM := Lib.hid h
  have HZ := Lib.hid hz
  have HPT := Lib.hid hT
  have HT := Lib.hid (impl_TraysValid_r w base _ n V MM h hz 20)
  clear h hz hT
  cases ho : traysOk n MM 20
  · have HR : Hid (M.tryText n MM = ⟨#[]⟩) := by unfold Hid M.tryText; rw [ho]; rfl
    have HO := Lib.hid ho
    clear ho
    go_enter Tryd.func5, Tryd.ntmps5
    go_wp2_with fail
    refine HT.out.mono ?_
    rw [HO.out]
    rintro e w1 ⟨rfl, hb1⟩
    go_wp2
    go_ret
    exact ⟨ret_txt HR.out, hb1⟩
  · have HR : Hid (M.tryText n MM = M.itemsOf (M.tryT MM) n) := by unfold Hid M.tryText; rw [ho]; rfl
    obtain ⟨nm, hall⟩ := try_sizes ho
    have HS := Lib.hid hall
    have HO := Lib.hid ho
    clear ho hall
    go_enter Tryd.func5, Tryd.ntmps5
    go_wp2_with fail
    refine HT.out.mono ?_
    rw [HO.out]
    rintro e w1 ⟨rfl, hb1⟩
    have HM1 := Lib.hid (HM.out.on hb1)
    have HP1 := Lib.hid (HPT.out.below hb1)
    have B1 := Lib.hid hb1
    have z1 := hb1.size
    clear hb1
    go_wp2
    go_loopw [3, 11] (fun q i wr => ∃ k : Nat, k ≤ n ∧ i = .int .i64 k ∧ Hid (SRow wr w1.heap.size q (sst (M.tryT MM) k)) ∧ Below w1.heap.size w1 wr) (fun _ i _ => n - (intOf i).toNat)
    case atStart => exact ⟨0, Nat.zero_le _, rfl, SRow.nil _ _, Below.refl _ _⟩
    case round =>
      obtain ⟨k, hk, rfl, hrow, hb⟩ := hrel
      have hz := hb.size
      by_cases hlt : k < n
      · obtain ⟨g, a', d, rfl, c0, hl⟩ := mat_at_r (HM1.out.on hb) hlt
        obtain ⟨i0, i1, s1, _⟩ := HS.out k hlt
        have HST : Hid (sst (M.tryT MM) (k + 1) = sst (M.tryT MM) k ++ [label (MM k).length (nI (MM k)) (nC (MM k)) ++ M.colonT ++ M.decT ((MM k).length : Int)]) := by unfold Hid sst; rw [List.range_succ, List.map_append]; rfl
        have hlen := sst_length (M.tryT MM) k
        obtain ⟨LL, hLL⟩ : ∃ LL, sst (M.tryT MM) k = LL := ⟨_, rfl⟩
        rw [hLL] at hrow HST hlen
        have HLB := Lib.hid (impl_LabelOf wr a' (MM k).length d (nI (MM k)) (nC (MM k)) hl (HZ.out.one hlt).2 (HZ.out.one hlt).1)
        have hls := label_size (MM k).length (nI (MM k)) (nC (MM k))
        obtain ⟨f, hf⟩ : ∃ f, label (MM k).length (nI (MM k)) (nC (MM k)) = f := ⟨_, rfl⟩
        rw [hf] at hls HLB HST
        obtain ⟨m, hm⟩ : ∃ m, (MM k).length = m := ⟨_, rfl⟩
        rw [hm] at c0 i0 i1 HLB HST
        have hds := M.decT_size (n := (m : Int)) (by omega) (by omega)
        have HP2 := Lib.hid (HP1.out.below hb)
        have HFR := Lib.hid (fun (W : World) (hb : Below wr.heap.size wr W) => itoa_dec (m : Int) (by omega) (by omega) W (HP2.out.below hb))
        obtain ⟨r, hr⟩ : ∃ r, M.decT (m : Int) = r := ⟨_, rfl⟩
        rw [hr] at HST HFR hds
        have HCL : Hid (M.colonT = ⟨#[58]⟩) := rfl
        rw [HCL.out] at HST
        have hbw := Lib.hid hb
        clear hLL hf hm hr hl s1
        go_wp2_with fail
        refine HLB.out.mono ?_
        rintro e w2 ⟨rfl, hb2⟩
        go_wp2_with fail
        refine (HFR.out w2 hb2).mono ?_
        rintro e w3 ⟨rfl, hb3⟩
        have K3 : Below wr.heap.size wr w3 := sstep hb2 hb3
        have z3 := K3.size
        have R3 := Lib.hid (SRow.below hrow.out K3)
        clear hb2 hb3
        go_wp2_with (at_builtin; refine wpList_append_string _ rfl _ _ rfl w1.heap.size u3 LL rfl (R3.out.alloc _) _ (f ++ ⟨#[58]⟩ ++ r) rfl ?_ (by omega) (by simp; omega) ?_)
        · simp [go_sem]
        · intro v5 w5 r5 gr5 ho5
          have R1 : Hid (SRow w5 w1.heap.size v5 (sst (M.tryT MM) (k + 1))) := by rw [HST.out]; exact r5
          have B3 : Below w1.heap.size w1 w5 := Below.grown (sstep hbw.out (K3.trans ((below_alloc0 w3 _).mono (by omega)))) gr5 (by simp; omega) (fun q e => (R3.out.lt q e).1)
          clear r5 gr5 ho5
          go_wp2
          go_roundw
          case rel => exact ⟨k + 1, by omega, by go_num, R1, B3⟩
          case measure => simp [intOf]; omega
      · obtain rfl : k = n := by omega
        obtain ⟨a1, c1, e, hc1, hst⟩ := hrow.out.form
        rw [sst_length] at e hst hc1
        subst e
        have HSS : Hid (Strs wr a1 k (M.tryT MM)) := hst.congr fun i hi => sC_sst hi
        have hgs := M.gapsTo_size (g := M.gap) (T := M.tryT MM) (m := 20) (k := k) (fun i hi => (HS.out i (by omega)).2.2.1)
        have hg1 : M.gap.size = 1 := rfl
        rw [hg1] at hgs
        clear hst hg1
        go_wp2_with fail
        refine (impl_joinItems wr a1 k c1 (M.tryT MM) HSS.out hc1 (by omega) (by omega)).mono ?_
        rintro e w2 ⟨rfl, hb2⟩
        go_wp2
        go_ret
        exact ⟨ret_txt HR.out, sstep (sstep B1.out hb) hb2⟩

end Go.Proofs.YtccfjeijnadjfaaDoor
