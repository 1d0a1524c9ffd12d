/-
  For every slice of bytes, laws.FnTraysText returns true. No condition.
-/
import Derived.Test.YtccfjeijnadjfaaDoorCards
import Derived.Test.YtccfjeijnadjfaaDoorDrawTy
import Derived.Test.YtccfjeijnadjfaaDoorTryTextR
import Derived.Test.YtccfjeijnadjfaaDoorTryR
import Derived.Test.YtccfjeijnadjfaaDoorMgT12
import Derived.Test.YtccfjeijnadjfaaDoorShaped
import Derived.Lay
import Derived.Test.YtccfjeijnadjfaaDoorLaidTT
import Derived.Test.YtccfjeijnadjfaaDoorVars
import Derived.Test.YtccfjeijnadjfaaDoorTie
import Derived.LaidMore
import Derived.Stop.Joined
import Derived.SevenTiedAt
import Derived.BigQuiet
import Derived.WalkKit
import Derived.ProofKit
import Derived.OpenShut
import Derived.ShutString
import Derived.ChangeOld
import Derived.Below
import Derived.Handy
import Derived.Lib.Hide
namespace Go.Proofs.YtccfjeijnadjfaaDoor.fnTraysText
open Go.ChangeShapes Go.WideShapes Go.ChangeAt Go.RowKit
open Go.ChangeMaps (open_string shut_string)
open Go.PlainAid (bt get_bt bt_nonneg bt_le)
set_option linter.unusedVariables false

theorem own : ownKnob Tryd.prog.godebug = none := by kernel_rfl
theorem laidOut : laidOutB Tryd.prog = true := by kernel_rfl

set_option maxHeartbeats 40000000 in
set_option maxRecDepth 100000 in
theorem walk (w : World) (a0 : Option Addr) (l0 k0 : Nat) (z0 : List Int) (w0 : IsRow .u8 w a0 l0 k0 z0) (hL : Laid.pows w) :
    Calls Tryd.prog 3 #[.slice a0 l0 k0] w fun e w' => e = .returned (.bool true) ∧ Below w.heap.size w w' := by
  have HP := Lib.hid hL
  clear hL
  by_cases hl : 1048576 < l0
  · go_enter Tryd.func3, Tryd.ntmps3
    go_wp2
    go_ret
    exact ⟨rfl, Below.refl _ _⟩
  go_enter Tryd.func3, Tryd.ntmps3
  go_wp2_with fail
  refine (DrawFormatTrays_any a0 l0 k0 z0 w w0).mono ?_
  rintro e u ⟨v, rfl, n, base, V, MM, hm, hn, hl, bl⟩
  obtain ⟨ua, uc, rfl⟩ := mat_slice_r hm
  have HM := Lib.hid hm
  have HZ := Lib.hid (sz_of (by omega) hl)
  have BL := Lib.hid bl
  have hn2 : n ≤ 1048576 := by omega
  clear hm bl w0
  obtain ⟨T, hTT⟩ : ∃ T, M.tryText n MM = T := ⟨_, rfl⟩
  have HTT := Lib.hid hTT
  clear hTT
  cases hok : traysOk n MM 20
  · have hT0 : T = ⟨#[]⟩ := by rw [← HTT.out]; unfold M.tryText; rw [hok]; rfl
    subst hT0
    have HOK := Lib.hid hok
    clear hok
    go_wp2_with fail
    refine (impl_FormatTrays_r _ base _ n V MM (PowT.below HP.out BL.out) HM.out HZ.out).mono ?_
    rw [HTT.out]
    rintro e v1 ⟨rfl, k1⟩
    replace HM := Lib.hid (HM.out.on k1)
    replace BL := Lib.hid (step BL.out k1)
    clear k1
    go_wp2_with fail
    refine (spec_FormatTrays_r _ base _ n V MM HM.out HZ.out).mono ?_
    rw [HTT.out]
    rintro e v2 ⟨rfl, k2⟩
    replace HM := Lib.hid (HM.out.on k2)
    replace BL := Lib.hid (step BL.out k2)
    clear k2
    go_wp2_with fail
    refine (impl_TraysValid_r _ base _ n V MM HM.out HZ.out 20).mono ?_
    rw [HOK.out]
    rintro e v3 ⟨rfl, k3⟩
    replace HM := Lib.hid (HM.out.on k3)
    replace BL := Lib.hid (step BL.out k3)
    clear k3
    go_wp2_with fail
    refine (spec_FormatTrays_r _ base _ n V MM HM.out HZ.out).mono ?_
    rw [HTT.out]
    rintro e v4 ⟨rfl, k4⟩
    replace HM := Lib.hid (HM.out.on k4)
    replace BL := Lib.hid (step BL.out k4)
    clear k4
    go_wp2_with fail
    refine (impl_TraysValid_r _ base _ n V MM HM.out HZ.out 20).mono ?_
    rw [HOK.out]
    rintro e v5 ⟨rfl, k5⟩
    replace HM := Lib.hid (HM.out.on k5)
    replace BL := Lib.hid (step BL.out k5)
    clear k5
    go_wp2
    go_ret
    exact ⟨rfl, BL.out⟩
  · have hsz := try_text_size hok
    rw [HTT.out] at hsz
    have HROW := Lib.hid (fun j (hj : j < n) => try_row hok hj)
    have HGS := Lib.hid (fun j (hj : j ≤ n) => try_gaps_size hok hj)
    have HEND : Hid ((n = 0 ∧ T = ⟨#[45]⟩) ∨ (n ≠ 0 ∧ T = M.gapsTo M.gap (M.tryT MM) n)) := by
      rw [Hid, ← HTT.out]
      by_cases h0 : n = 0
      · subst h0; exact Or.inl ⟨rfl, try_dash MM hok⟩
      · exact Or.inr ⟨h0, try_gaps hok h0⟩
    have HOK := Lib.hid hok
    have ht1 : ¬ T.toList = [] := text_some T (by omega)
    have ht2 : (T.toList == []) = false := by rw [beq_eq_false_iff_ne]; exact ht1
    have ht3 : (T.toList != []) = true := by rw [bne_iff_ne]; exact ht1
    have ht4 : T.toList.isEmpty = false := by rw [List.isEmpty_eq_false_iff]; exact ht1
    have ht5 : (T.toList == T.toList) = true := by simp
    have ht6 : (T.toList != T.toList) = false := by simp
    clear hok
    go_wp2_with fail
    refine (impl_FormatTrays_r _ base _ n V MM (PowT.below HP.out BL.out) HM.out HZ.out).mono ?_
    rw [HTT.out]
    rintro e v1 ⟨rfl, k1⟩
    replace HM := Lib.hid (HM.out.on k1)
    replace BL := Lib.hid (step BL.out k1)
    clear k1
    go_wp2_with fail
    refine (spec_FormatTrays_r _ base _ n V MM HM.out HZ.out).mono ?_
    rw [HTT.out]
    rintro e v2 ⟨rfl, k2⟩
    replace HM := Lib.hid (HM.out.on k2)
    replace BL := Lib.hid (step BL.out k2)
    clear k2
    go_wp2_with fail
    refine (impl_TraysValid_r _ base _ n V MM HM.out HZ.out 20).mono ?_
    rw [HOK.out]
    rintro e v3 ⟨rfl, k3⟩
    replace HM := Lib.hid (HM.out.on k3)
    replace BL := Lib.hid (step BL.out k3)
    clear k3
    go_wp2
    clear ht2 ht3 ht4 ht5 ht6
    go_loopw [5, 6] (fun o i wr => ∃ (j : Nat) (x : ByteArray), j ≤ n ∧ i = .int .i64 j ∧ o = .string x ∧ Hid (x = M.gapsTo M.gap (M.tryT MM) j) ∧ Hid (Below v3.heap.size v3 wr)) (fun _ i _ => n - (intOf i).toNat)
    case atStart => exact ⟨0, ⟨#[]⟩, Nat.zero_le _, rfl, rfl, rfl, Below.refl _ _⟩
    case round =>
      obtain ⟨j, x, hj, rfl, rfl, HX, hbl⟩ := hrel
      have hxs : x.size ≤ 1260 := by rw [HX.out]; exact HGS.out j hj
      by_cases hlt : j < n
      · have hji : (j : Int) < (n : Int) := by omega
        have hj0' : (0 : Int) ≤ (j : Int) := by omega
        obtain ⟨m1, m20, z0', z1', hlb⟩ := HROW.out j hlt
        have HMr := Lib.hid (HM.out.on hbl.out)
        obtain ⟨g, a, d, rfl, c0, hlts⟩ := mat_at_r HMr.out hlt
        have HLT := Lib.hid hlts
        have HFI := Lib.hid (HZ.out.one hlt).2
        have CL : Hid (∀ W, Lts W a (MM j).length (nI (MM j)) (nC (MM j)) → Calls Tryd.prog 8 #[.slice a (MM j).length d] W fun e w' => e = .returned (.string (nC (MM j) 0 ++ ⟨#[45]⟩ ++ nC (MM j) ((MM j).length - 1))) ∧ Below W.heap.size W w') := fun W h => by
          have := impl_LabelOf W a (MM j).length d _ _ h HFI.out (by omega)
          rw [hlb] at this
          exact this
        have HLB := Lib.hid hlb
        obtain ⟨b, o, ha, _, p1⟩ := hlts 0 (by omega)
        subst ha
        obtain ⟨_, _, ha, _, q1⟩ := hlts ((MM j).length - 1) (by omega)
        injection ha with ha
        injection ha with ha1 ha2
        subst ha1 ha2
        rw [Nat.zero_mul, Nat.add_zero] at p1
        have HDT2 := Lib.hid (fun h => decT_two (m := (MM j).length) h (by omega))
        have HDT1 := Lib.hid (fun h => decT_one (m := (MM j).length) h)
        obtain ⟨m, hm⟩ : ∃ m, (MM j).length = m := ⟨_, rfl⟩
        rw [hm] at m1 m20 c0 HLT CL HLB q1 HDT1 HDT2
        obtain ⟨q, hq⟩ : ∃ q, m - 1 = q := ⟨_, rfl⟩
        rw [hq] at CL HLB q1
        obtain ⟨C0, hC0⟩ : ∃ C0, nC (MM j) 0 = C0 := ⟨_, rfl⟩
        obtain ⟨C1, hC1⟩ : ∃ C1, nC (MM j) q = C1 := ⟨_, rfl⟩
        rw [hm, hq, hC1] at z1'
        rw [hC0] at z0' p1 CL HLB
        rw [hC1] at q1 CL HLB
        have hqw : IntKind.i64.wrap ((m : Int) - 1) = (q : Int) := by rw [IntWalk.i64_in _ (by omega)]; omega
        have hqm : (q : Int) < (m : Int) := by omega
        have hq0 : (0 : Int) ≤ (q : Int) := by omega
        have hm0 : (0 : Int) < (m : Int) := by omega
        have hqn : q < m := by omega
        have hs0 : C0.size ≤ 7 := by omega
        have hs1 : C1.size ≤ 7 := by omega
        have HMM := Lib.hid hm
        have hbz : b < wr.heap.size := World.block_lt_of_cell? _ _ p1
        have hgz : g < wr.heap.size := World.block_lt_of_cell? _ _ c0
        have hdd : ((C0 ++ (⟨#[45]⟩ : ByteArray) ++ C1).toList == (C0 ++ (⟨#[45]⟩ : ByteArray) ++ C1).toList) = true := by simp
        have hdn : ((C0 ++ (⟨#[45]⟩ : ByteArray) ++ C1).toList != (C0 ++ (⟨#[45]⟩ : ByteArray) ++ C1).toList) = false := by simp
        have e0 : 0 ≤ (m : Int) / 10 := by omega
        have e1 : (m : Int) / 10 ≤ 9 := by omega
        have e2 : 0 ≤ (m : Int) % 10 := by omega
        have e3 : (m : Int) % 10 ≤ 9 := by omega
        clear hlts hm hC0 hC1 hlb hq z0' z1'
        by_cases hj0 : j = 0
        · have hd0 : ¬ (0 : Int) < (j : Int) := by omega
          have hd1 : ¬ 0 < j := by omega
          have HN := Lib.hid (fun dd hd => try_next (MM := MM) (j := j) (x := x) (x' := x) (lb := C0 ++ ⟨#[45]⟩ ++ C1) (d := dd) HX.out (if_pos hj0).symm (by rw [HMM.out]; exact HLB.out) hd)
          have HD1 : Hid (¬ 9 < m → M.decT ((MM j).length : Int) = ⟨#[UInt8.ofNat (48 + (m : Int) % 10).toNat]⟩) := by rw [HMM.out]; exact HDT1.out
          have HD2 : Hid (9 < m → M.decT ((MM j).length : Int) = (⟨#[UInt8.ofNat (48 + (m : Int) / 10).toNat]⟩ : ByteArray) ++ ⟨#[UInt8.ofNat (48 + (m : Int) % 10).toNat]⟩) := by rw [HMM.out]; exact HDT2.out
          clear HX HDT1 HDT2 HLB hj0
          go_wp2_with fail
          refine (CL.out _ HLT.out).mono ?_
          rintro e v5 ⟨rfl, k5⟩
          have B5 := Lib.hid (sstep hbl.out k5)
          have hz5 := k5.size
          replace c0 := (k5.cell (p := ⟨g, j, none⟩) hgz).trans c0
          replace p1 := (k5.cell (p := ⟨b, o + 1, none⟩) hbz).trans p1
          replace q1 := (k5.cell (p := ⟨b, o + q * 2 + 1, none⟩) hbz).trans q1
          clear k5 CL HLT HMr hbl
          by_cases h9 : 9 < m
          · have h9i : (9 : Int) < (m : Int) := by omega
            have hfin := Lib.hid (HN.out _ (HD2.out h9))
            clear HN HD1 HD2
            go_wp2
            go_region
            all_goals
              have kz : Below v5.heap.size v5 v5.drew := (Below.refl _ _).drew
              have B6 := Lib.hid (sstep B5.out kz)
              have x1 := one_byte v5.drew (48 + (m : Int) / 10) (by omega) (by omega) 5
              have x2 := one_byte (v5.drew.alloc (.cells #[.int .u8 (48 + (m : Int) / 10)] 5)) (48 + (m : Int) % 10) (by omega) (by omega) 5
              simp only [World.size_alloc] at x2
              replace c0 : v5.drew.cell? ⟨g, j, none⟩ = some (.slice (some ⟨b, o, none⟩) m d) := c0
              replace p1 : v5.drew.cell? ⟨b, o + 1, none⟩ = some (.string C0) := p1
              obtain ⟨wz, hwz⟩ : ∃ wz, v5.drew = wz := ⟨_, rfl⟩
              rw [hwz] at c0 p1 x1 x2 B6 ⊢
              clear hwz kz q1
              go_wp2
              go_roundw
              case rel => exact ⟨j + 1, _, by omega, by go_num, rfl, (by first | exact hfin.out | (rw [Hid, ← hfin.out]; simp only [M.bapp_assoc, dig_lo, dig_hi])), (by first | exact sstep B6.out (by go_grown))⟩
              case measure => simp [intOf]; omega
          · have h9i : ¬ (9 : Int) < (m : Int) := by omega
            have hfin := Lib.hid (HN.out _ (HD1.out h9))
            clear HN HD1 HD2
            go_wp2
            go_region
            all_goals
              have kz : Below v5.heap.size v5 v5.drew := (Below.refl _ _).drew
              have B6 := Lib.hid (sstep B5.out kz)
              have x2 := one_byte v5.drew (48 + (m : Int) % 10) (by omega) (by omega) 5
              replace c0 : v5.drew.cell? ⟨g, j, none⟩ = some (.slice (some ⟨b, o, none⟩) m d) := c0
              replace p1 : v5.drew.cell? ⟨b, o + 1, none⟩ = some (.string C0) := p1
              obtain ⟨wz, hwz⟩ : ∃ wz, v5.drew = wz := ⟨_, rfl⟩
              rw [hwz] at c0 p1 x2 B6 ⊢
              clear hwz kz q1
              go_wp2
              go_roundw
              case rel => exact ⟨j + 1, _, by omega, by go_num, rfl, (by first | exact hfin.out | (rw [Hid, ← hfin.out]; simp only [M.bapp_assoc, dig_lo, dig_hi])), (by first | exact sstep B6.out (by go_grown))⟩
              case measure => simp [intOf]; omega
        · have hd0 : (0 : Int) < (j : Int) := by omega
          have hd1 : 0 < j := by omega
          have hdx : (x ++ (⟨#[32]⟩ : ByteArray)).size ≤ 1300 := by rw [ByteArray.size_append]; show _ + 1 ≤ _; omega
          have HN := Lib.hid (fun dd hd => try_next (MM := MM) (j := j) (x := x) (x' := (x ++ (⟨#[32]⟩ : ByteArray))) (lb := C0 ++ ⟨#[45]⟩ ++ C1) (d := dd) HX.out (if_neg hj0).symm (by rw [HMM.out]; exact HLB.out) hd)
          have HD1 : Hid (¬ 9 < m → M.decT ((MM j).length : Int) = ⟨#[UInt8.ofNat (48 + (m : Int) % 10).toNat]⟩) := by rw [HMM.out]; exact HDT1.out
          have HD2 : Hid (9 < m → M.decT ((MM j).length : Int) = (⟨#[UInt8.ofNat (48 + (m : Int) / 10).toNat]⟩ : ByteArray) ++ ⟨#[UInt8.ofNat (48 + (m : Int) % 10).toNat]⟩) := by rw [HMM.out]; exact HDT2.out
          clear HX HDT1 HDT2 HLB hj0
          go_wp2_with fail
          refine (CL.out _ HLT.out).mono ?_
          rintro e v5 ⟨rfl, k5⟩
          have B5 := Lib.hid (sstep hbl.out k5)
          have hz5 := k5.size
          replace c0 := (k5.cell (p := ⟨g, j, none⟩) hgz).trans c0
          replace p1 := (k5.cell (p := ⟨b, o + 1, none⟩) hbz).trans p1
          replace q1 := (k5.cell (p := ⟨b, o + q * 2 + 1, none⟩) hbz).trans q1
          clear k5 CL HLT HMr hbl
          by_cases h9 : 9 < m
          · have h9i : (9 : Int) < (m : Int) := by omega
            have hfin := Lib.hid (HN.out _ (HD2.out h9))
            clear HN HD1 HD2
            go_wp2
            go_region
            all_goals
              have kz : Below v5.heap.size v5 v5.drew := (Below.refl _ _).drew
              have B6 := Lib.hid (sstep B5.out kz)
              have x1 := one_byte v5.drew (48 + (m : Int) / 10) (by omega) (by omega) 5
              have x2 := one_byte (v5.drew.alloc (.cells #[.int .u8 (48 + (m : Int) / 10)] 5)) (48 + (m : Int) % 10) (by omega) (by omega) 5
              simp only [World.size_alloc] at x2
              replace c0 : v5.drew.cell? ⟨g, j, none⟩ = some (.slice (some ⟨b, o, none⟩) m d) := c0
              replace p1 : v5.drew.cell? ⟨b, o + 1, none⟩ = some (.string C0) := p1
              obtain ⟨wz, hwz⟩ : ∃ wz, v5.drew = wz := ⟨_, rfl⟩
              rw [hwz] at c0 p1 x1 x2 B6 ⊢
              clear hwz kz q1
              go_wp2
              go_roundw
              case rel => exact ⟨j + 1, _, by omega, by go_num, rfl, (by first | exact hfin.out | (rw [Hid, ← hfin.out]; simp only [M.bapp_assoc, dig_lo, dig_hi])), (by first | exact sstep B6.out (by go_grown))⟩
              case measure => simp [intOf]; omega
          · have h9i : ¬ (9 : Int) < (m : Int) := by omega
            have hfin := Lib.hid (HN.out _ (HD1.out h9))
            clear HN HD1 HD2
            go_wp2
            go_region
            all_goals
              have kz : Below v5.heap.size v5 v5.drew := (Below.refl _ _).drew
              have B6 := Lib.hid (sstep B5.out kz)
              have x2 := one_byte v5.drew (48 + (m : Int) % 10) (by omega) (by omega) 5
              replace c0 : v5.drew.cell? ⟨g, j, none⟩ = some (.slice (some ⟨b, o, none⟩) m d) := c0
              replace p1 : v5.drew.cell? ⟨b, o + 1, none⟩ = some (.string C0) := p1
              obtain ⟨wz, hwz⟩ : ∃ wz, v5.drew = wz := ⟨_, rfl⟩
              rw [hwz] at c0 p1 x2 B6 ⊢
              clear hwz kz q1
              go_wp2
              go_roundw
              case rel => exact ⟨j + 1, _, by omega, by go_num, rfl, (by first | exact hfin.out | (rw [Hid, ← hfin.out]; simp only [M.bapp_assoc, dig_lo, dig_hi])), (by first | exact sstep B6.out (by go_grown))⟩
              case measure => simp [intOf]; omega
      · obtain rfl : j = n := by omega
        have hb := step BL.out hbl.out
        have HB := Lib.hid hb
        have HXX := HX.out
        clear hb hbl HX
        rcases HEND.out with ⟨h0, hT⟩ | ⟨h0, hT⟩
        · subst h0
          subst hT
          go_wp2
          go_ret
          exact ⟨rfl, HB.out⟩
        · have hTx : T = x := hT.trans HXX.symm
          subst hTx
          have h1 : ((j : Int) == 0) = false := by rw [beq_eq_false_iff_ne]; omega
          have h2 : (0 : Int) < (j : Int) := by omega
          have h3 : (j == 0) = false := by rw [beq_eq_false_iff_ne]; omega
          have ht5 : (T.toList == T.toList) = true := by simp
          clear hT HXX
          go_wp2
          go_ret
          exact ⟨rfl, HB.out⟩

set_option maxRecDepth 100000 in
theorem lifted (os : Os) (started : os.Started) (H : Type) (enc : TypeId × Value → H) :
    ReturnsInHanded {} Tryd.checked os 3 .any (fun w args => (Rows.fnTraysTextSpec.pre enc Tryd.prog Tryd.f3 [] false w args ∧ laidMetH Tryd.prog Rows.fnTraysTextRow.laid w) ∧ sizedMet enc Tryd.prog Tryd.f3 (OpenSpec.ofChange Rows.fnTraysTextSpec) false w args)
      (Rows.fnTraysTextSpec.post enc Tryd.prog Tryd.f3 false true false false) := by
  refine returns_listed (C := Tryd.checked) (X := fun w _ => laidMetH Tryd.prog Rows.fnTraysTextRow.laid w) (fun _ _ _ hh h => h.of_heap hh) own started (by kernel_rfl) Tryd.func3
    (ChangeSpec.witness_shaped (enc := enc) (C := Tryd.checked) (os := os) (X := fun w _ => laidMetH Tryd.prog Rows.fnTraysTextRow.laid w) false (World.laidAll Tryd.prog os Rows.fnTraysTextRow.laid) #[.slice none 0 0] 8 (World.laidAll_os _ _ _) (World.shaped_of_ZipB (by kernel_rfl) (by kernel_rfl)) (by kernel_rfl) (by kernel_rfl) (by kernel_rfl) (Laid.door_pows os _)) ?_
  intro W base args ds gs before hval0 hW hL hsh
  have hval : ∀ (j : Nat) t v, Tryd.f3.params[j]? = some t → args[j]? = some v → Value.okWide Tryd.prog W .any base t v := hval0
  have hW' := hW
  obtain ⟨p, q, hA0, hV, rfl, hfz, hnd⟩ := hW
  have hA : DataW.TrodAll enc Tryd.prog W 0 (fun _ => true) true Tryd.f3.params.toList args.toList ds p := hA0
  rw [Tryd.params3] at hA hval
  obtain ⟨v0, vs0, d0, ds0, p0, q0, hargs, rfl, rfl, h0, r0⟩ := trodAll_cons hA
  obtain ⟨rfl, rfl, rfl⟩ := trodAll_nil r0
  obtain rfl : args = #[v0] := by cases args; simp_all
  obtain ⟨rfl, rfl⟩ := trodVars_none hV
  have g0 := h0
  have lt0 : ∀ x ∈ p0, x.block < W.heap.size := by obtain ⟨m, hm⟩ := g0; exact DataW.trod_lt m _ _ _ hm
  obtain ⟨a0, l0, k0, rfl⟩ := okWide_slice Tryd.underlying22 (hval 0 22 v0 rfl rfl)
  obtain ⟨z0, w0⟩ : ∃ zs, IsRow .u8 W a0 l0 k0 zs := by
    obtain ⟨fuel, hf⟩ := h0
    rcases open_ints Tryd.underlying22 Tryd.underlying5 (by kernel_rfl) hf with ⟨hcs, _⟩ | ⟨x, l, c, zs, hcs, _, hl, hm, hz, _, hcell, hwz⟩
    · simp [Value.cells] at hcs
      obtain ⟨rfl, rfl, rfl⟩ := hcs
      exact ⟨[], .inl ⟨rfl, rfl, rfl, rfl⟩⟩
    · simp [Value.cells] at hcs
      obtain ⟨rfl, rfl, rfl⟩ := hcs
      exact ⟨zs, .inr ⟨_, rfl, hl, hm, by simpa using hz, hcell, hwz⟩⟩
  clear hA0 hval0
  refine (walk W a0 l0 k0 z0 w0 (Laid.of_pows hL hsh)).mono fun e W' ⟨he, bel⟩ => ?_
  subst he
  exact ⟨_, rfl, _, _, _, [], _, [], hW', trodAll_mk1 (shut_bool Tryd.underlying4 _), (trodAll_cons_mk (Below.trod laidOut (by kernel_rfl) (of_decide_eq_true (by kernel_rfl)) g0 bel lt0) trodAll_mk0), rfl, bel.frame _, fun h => by cases h⟩

theorem row_holds : Rows.FnTraysTextSaid :=
  OpenClaim.holds_of_wide 3 Tryd.f3 rfl rfl rfl rfl rfl rfl rfl ⟨rfl, rfl, rfl, rfl, rfl⟩ rfl rfl rfl rfl rfl (by kernel_rfl) Tryd.func3 (by kernel_rfl)
    (of_decide_eq_true (by kernel_rfl)) (by unfold Func.isWrapper; first | (rw [if_pos (by decide +kernel)]; kernel_rfl) | (rw [if_neg (by decide +kernel)]; exact ⟨rfl, rfl⟩))
    (fun os started H enc _ => lifted os started H enc)

theorem proved : Rows.FnTraysTextCardSaid :=
  Claim7.holds_tied_plain_at .later [] [.data, .data, .data] true Rows.fnTraysTextCard.stood.harness false
    row_holds (fun _ h => by cases h) (by kernel_rfl) (fun _ h => by cases h) fnTraysText_row_tie rfl ⟨rfl, rfl⟩ (by kernel_rfl) rfl
    (fun f fn hf hfn => by
      obtain rfl : f = 3 := Option.some.inj ((show Tryd.prog.funcNamed Rows.fnTraysTextRow.func = some 3 by kernel_rfl).symm.trans hf) |>.symm
      obtain rfl : fn = Tryd.f3 := (Option.some.inj (Tryd.func3.symm.trans hfn)).symm
      exact ⟨by kernel_rfl, fun j t ht => by
        rw [Tryd.params3] at ht
        have hm : t ∈ [22] := by simpa using Array.mem_of_getElem? ht
        have hall : ([22].all fun u => !Tryd.prog.wantsStandIn u) = true := by kernel_rfl
        exact (show Tryd.prog.wantsStandIn t = false by simpa using List.all_eq_true.1 hall t hm)⟩)
    (by kernel_rfl)
#print axioms proved
end Go.Proofs.YtccfjeijnadjfaaDoor.fnTraysText
