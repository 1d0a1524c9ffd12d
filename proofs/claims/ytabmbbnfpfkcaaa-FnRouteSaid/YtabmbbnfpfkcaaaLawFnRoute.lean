/-
  For every slice of bytes, laws.FnRoute returns true.
-/
import Derived.Test.YtabmbbnfpfkcaaaRows
import Derived.Test.YtabmbbnfpfkcaaaDrawNet
import Derived.Test.YtabmbbnfpfkcaaaHomeA
import Derived.BigQuiet
import Derived.IntWalk
import Derived.WalkKit
import Derived.ProofKit
import Derived.OpenShut
import Derived.ShutString
import Derived.ChangeOld
import Derived.Below
import Derived.Handy
import Derived.Lib.Hide
namespace Go.Proofs.Ytabmbbnfpfkcaaa.fnRoute
open Go.ChangeShapes Go.WideShapes Go.ChangeAt Go.RowKit
open Go.ChangeMaps (open_string shut_string)
open Go.PlainAid (bt get_bt bt_nonneg bt_le)
set_option linter.unusedVariables false

theorem own : ownKnob Try.prog.godebug = none := by kernel_rfl
theorem laidOut : laidOutB Try.prog = true := by kernel_rfl

set_option maxHeartbeats 40000000 in
set_option maxRecDepth 100000 in
theorem walk (w : World) (a0 : Option Addr) (l0 k0 : Nat) (z0 : List Int) (w0 : IsRow .u8 w a0 l0 k0 z0) :
    Calls Try.prog 5 #[.slice a0 l0 k0] w fun e w' => e = .returned (.bool true) ∧ Below w.heap.size w w' := by
  by_cases hl : 1048576 < l0
  · go_enter Try.func5, Try.ntmps5
    go_wp2
    go_ret
    exact ⟨rfl, Below.refl _ _⟩
  go_enter Try.func5, Try.ntmps5
  go_wp2_with fail
  refine (DrawRoutePath_any a0 l0 k0 z0 w w0).mono ?_
  rintro e u ⟨v, s, t, rfl, hs, ht, a, n, c, NM, RL, rfl, nt, fi, hn8, hl40, bl⟩
  have NT := Lib.hid nt
  have FI := Lib.hid fi
  have BL := Lib.hid bl
  have hsm : s.size ≤ maxLen := by unfold maxLen; omega
  have htm : t.size ≤ maxLen := by unfold maxLen; omega
  have hn2 : n ≤ 1048576 := by omega
  have HLL : Hid (∀ i, i < n → (RL i).length ≤ 1048576) := fun i hi => by have := hl40 i hi; omega
  clear nt fi bl hl40
  obtain ⟨P, q, hR⟩ : ∃ P q, M.routeP n NM RL s t = (P, q) := ⟨_, _, rfl⟩
  have HR : Hid (∀ X, Nts X a n NM RL → Calls Try.prog 22 #[.slice a n c, .string s, .string t] X (PathIs X P q)) := fun X hw => by
    have := impl_RoutePath X a n c NM RL hw FI.out hn2 s t hsm htm
    rw [hR] at this
    exact this
  have HRS : Hid (∀ X, Nts X a n NM RL → Calls Try.prog 23 #[.slice a n c, .string s, .string t] X (PathIs X P q)) := fun X hw => by
    have := spec_RoutePath X a n c NM RL hw FI.out hn2 HLL.out s t htm
    rw [hR] at this
    exact this
  have hP20 : P.length ≤ 20 := by have := M.routeP_len20 n NM RL s t; rw [hR] at this; exact this
  have hP2 : P.length ≤ 1048576 := by omega
  by_cases hq : q = 3
  · subst hq
    clear hR
    go_wp2_with fail
    refine (HR.out _ NT.out).mono ?_
    rintro e v1 ⟨p1, rfl, r1, k1⟩
    replace BL := Lib.hid (step BL.out k1)
    replace NT := Lib.hid (NT.out.on k1)
    have R1 := Lib.hid (SR.mk r1)
    clear k1
    go_wp2_with fail
    refine (HRS.out _ NT.out).mono ?_
    rintro e v2 ⟨p2, rfl, r2, k2⟩
    replace BL := Lib.hid (step BL.out k2)
    replace NT := Lib.hid (NT.out.on k2)
    replace R1 := Lib.hid (R1.out.on k2)
    have R2 := Lib.hid (SR.mk r2)
    clear k2
    clear r1 r2
    go_wp2_with fail
    refine (soTexts_row _ _ _ _ _ _ R1.out.row R2.out.row hP2).mono ?_
    rintro e v3 ⟨rfl, k3⟩
    replace BL := Lib.hid (step BL.out k3)
    replace NT := Lib.hid (NT.out.on k3)
    replace R1 := Lib.hid (R1.out.on k3)
    replace R2 := Lib.hid (R2.out.on k3)
    clear k3
    go_wp2_with fail
    refine (soTexts_row _ _ _ _ _ _ R1.out.row R2.out.row hP2).mono ?_
    rintro e v4 ⟨rfl, k4⟩
    replace BL := Lib.hid (step BL.out k4)
    replace NT := Lib.hid (NT.out.on k4)
    replace R1 := Lib.hid (R1.out.on k4)
    replace R2 := Lib.hid (R2.out.on k4)
    clear k4
    go_wp2
    go_ret
    exact ⟨rfl, BL.out⟩
  · obtain ⟨hP1, hPn, hst, hkinds, hnext, hlast, hhas, hoff, hnet, hcode⟩ := M.route_all hR hq
    have HNX := Lib.hid hnext
    have HLA := Lib.hid hlast
    have HHA := Lib.hid hhas
    have HOF := Lib.hid hoff
    have HNE := Lib.hid hnet
    have HCO := Lib.hid hcode
    have HST := Lib.hid hst
    have HKI := Lib.hid hkinds
    have hq1 : (q != 3) = true := by rw [bne_iff_ne]; exact hq
    have hq2 : (q == 3) = false := by rw [beq_eq_false_iff_ne]; exact hq
    clear hR hq hnext hlast hhas hoff hnet hcode hst hkinds
    go_wp2_with fail
    refine (HR.out _ NT.out).mono ?_
    rintro e v1 ⟨p1, rfl, r1, k1⟩
    replace BL := Lib.hid (step BL.out k1)
    replace NT := Lib.hid (NT.out.on k1)
    have R1 := Lib.hid (SR.mk r1)
    clear k1
    go_wp2_with fail
    refine (HRS.out _ NT.out).mono ?_
    rintro e v2 ⟨p2, rfl, r2, k2⟩
    replace BL := Lib.hid (step BL.out k2)
    replace NT := Lib.hid (NT.out.on k2)
    replace R1 := Lib.hid (R1.out.on k2)
    have R2 := Lib.hid (SR.mk r2)
    clear k2
    clear r1 r2
    go_wp2_with fail
    refine (soTexts_row _ _ _ _ _ _ R1.out.row R2.out.row hP2).mono ?_
    rintro e v3 ⟨rfl, k3⟩
    replace BL := Lib.hid (step BL.out k3)
    replace NT := Lib.hid (NT.out.on k3)
    replace R1 := Lib.hid (R1.out.on k3)
    replace R2 := Lib.hid (R2.out.on k3)
    clear k3
    obtain ⟨b, cp, hpv, _⟩ := R1.out.row.nth (show 0 < P.length by omega)
    subst hpv
    obtain ⟨u0, hu0⟩ : ∃ u0, u.heap.size = u0 := ⟨_, rfl⟩
    rw [hu0] at R1
    clear hu0
    clear R2
    have hpc := R1.out.row.cap
    go_wp2
    go_loopw [10] (fun vi wr => ∃ i : Nat, i ≤ P.length ∧ vi = .int .i64 i ∧ Hid (Nts wr a n NM RL) ∧ Hid (SR wr u0 (.slice (some ⟨b, 0, none⟩) P.length cp) P) ∧ Hid (Below w.heap.size w wr)) (fun vi _ => P.length - (intOf vi).toNat)
    case atStart => exact ⟨0, Nat.zero_le _, rfl, NT, R1, BL⟩
    case round =>
      obtain ⟨i, hi, rfl, hnt, hr1, hbl⟩ := hrel
      by_cases hin : i < P.length
      · have hini : (i : Int) < (P.length : Int) := by omega
        obtain ⟨x, hx⟩ : ∃ x, P.getD i ⟨#[]⟩ = x := ⟨_, rfl⟩
        have hnx := HNX.out i
        have hla := HLA.out i
        have hha := HHA.out i hin
        obtain ⟨k0, hk0, hkx⟩ := HOF.out i hin
        obtain ⟨X, hX⟩ : ∃ X, M.nxs NM RL n t x = X := ⟨_, rfl⟩
        rw [hx] at hnx hla hha hkx
        rw [hX] at hnx hla
        have HX := Lib.hid hX
        have HPX := Lib.hid hx
        have HN1 := Lib.hid hnx
        have HL1 := Lib.hid hla
        have HH1 := Lib.hid hha
        have HKX := Lib.hid hkx
        clear hX hx hnx hla hha hkx
        have HNT := hnt
        have HR1 := hr1
        have HBL := hbl
        clear hnt hr1 hbl
        go_wp2
        go_loopw [11, 12] (fun vx vk wq => ∃ k : Nat, k ≤ n ∧ vk = .int .i64 k ∧ ((k0 < k ∧ vx = .string X) ∨ (k ≤ k0 ∧ vx = .string ⟨#[]⟩)) ∧ Hid (Nts wq a n NM RL) ∧ Hid (SR wq u0 (.slice (some ⟨b, 0, none⟩) P.length cp) P) ∧ Hid (Below w.heap.size w wq)) (fun _ vk _ => n - (intOf vk).toNat)
        case atStart => exact ⟨0, Nat.zero_le _, rfl, Or.inr ⟨Nat.zero_le _, rfl⟩, HNT, HR1, HBL⟩
        case round =>
          obtain ⟨k, hk, rfl, hor, hnt2, hr2, hbl2⟩ := hrel
          by_cases hkn : k < n
          · obtain ⟨b2, o2, a', c', hab, c0, c1, hfw⟩ := hnt2.out k hkn
            subst hab
            have cx := (hr2.out.row.cellAt i hin).1
            have hxx : P[i] = x := by have := HPX.out; rw [List.getD_eq_getElem?_getD, List.getElem?_eq_getElem hin] at this; exact this
            rw [hxx] at cx
            have HFW := Lib.hid hfw
            have hf := FI.out k hkn
            have HF2 := Lib.hid hf.2.1
            clear hxx hfw hf
            by_cases he : NM k = x
            · have hkk : k = k0 := M.name_one HNE.out hkn hk0 (he.trans HKX.out.symm)
              have HNS := Lib.hid ((M.nxs_at HNE.out HCO.out hkn he).symm.trans HX.out)
              have hd : ((NM k).toList == x.toList) = true := eqS he
              have HB2 := hbl2
              have HN2 := hnt2
              have HR2 := hr2
              obtain ⟨vv, hvv⟩ : ∃ vv, vv = k := ⟨_, rfl⟩
              have hor2 : k ≤ k0 := by omega
              rcases hor with ⟨h9, _⟩ | ⟨_, rfl⟩
              · omega
              have HKK := Lib.hid hkk
              clear he hkk hor2 hvv
              go_wp2_with fail
              go_quiet (fail)
              go_wp2_with fail
              refine (soNext_any _ a' (RL k).length c' (nF (RL k)) (nT (RL k)) (HFW.out.on (below_drewN0 (Below.refl _ _) _)) HF2.out t htm).mono ?_
              rw [HNS.out]
              rintro e w9 ⟨rfl, k9⟩
              have K9 := Lib.hid (show Below _ _ w9 from step0 (below_drewN0 (Below.refl _ _) _) k9)
              have N9 := Lib.hid (HN2.out.on K9.out)
              have R9 := Lib.hid (HR2.out.on K9.out)
              have B9 := Lib.hid (step HB2.out K9.out)
              clear k9 K9
              go_wp2
              go_roundw
              case rel => exact ⟨k + 1, by omega, by go_num, Or.inl ⟨by have := HKK.out; omega, rfl⟩, N9, R9, B9⟩
              case measure => first | (simp [intOf]; done) | (simp [intOf]; omega)
            · have hkk : k ≠ k0 := fun e => by subst e; exact he HKX.out
              have hd : ((NM k).toList == x.toList) = false := neq_list0 he
              clear he
              rcases hor with ⟨h9, rfl⟩ | ⟨h9, rfl⟩
              · go_wp2_with fail
                go_quiet (fail)
                go_wp2
                go_roundw
                case rel => exact ⟨k + 1, by omega, by go_num, Or.inl ⟨by omega, rfl⟩, hnt2.out.on (below_drewN0 (Below.refl _ _) _), hr2.out.on (below_drewN0 (Below.refl _ _) _), below_drewN0 hbl2.out _⟩
                case measure => first | (simp [intOf]; done) | (simp [intOf]; omega)
              · go_wp2_with fail
                go_quiet (fail)
                go_wp2
                go_roundw
                case rel => exact ⟨k + 1, by omega, by go_num, Or.inr ⟨by omega, rfl⟩, hnt2.out.on (below_drewN0 (Below.refl _ _) _), hr2.out.on (below_drewN0 (Below.refl _ _) _), below_drewN0 hbl2.out _⟩
                case measure => first | (simp [intOf]; done) | (simp [intOf]; omega)
          · obtain rfl : k = n := by omega
            rcases hor with ⟨_, rfl⟩ | ⟨h9, _⟩
            case inr => omega
            have HNT3 := hnt2
            have HR3 := hr2
            have HBL3 := hbl2
            have cx := (hr2.out.row.cellAt i hin).1
            have hxx : P[i] = x := by have := HPX.out; rw [List.getD_eq_getElem?_getD, List.getElem?_eq_getElem hin] at this; exact this
            rw [hxx] at cx
            have hicp : i ≤ cp := by omega
            have hicpi : (i : Int) ≤ (cp : Int) := by omega
            have hi0 : (0 : Int) ≤ (i : Int) := by omega
            have hpw : IntKind.i64.wrap ((P.length : Int) - 1) = (P.length : Int) - 1 := IntWalk.i64_in _ (by omega)
            clear hxx hnt2 hr2 hbl2
            by_cases h1 : i + 1 < P.length
            · have hn1 : Hid (X = P.getD (i + 1) ⟨#[]⟩) := HN1.out h1
              have cn := (HR3.out.row.cellAt (i + 1) h1).1
              have hxn : P[i + 1] = X := by have := hn1.out; rw [List.getD_eq_getElem?_getD, List.getElem?_eq_getElem h1] at this; exact this.symm
              rw [hxn] at cn
              have hl0 : ((i : Int) == (P.length : Int) - 1) = false := by rw [beq_eq_false_iff_ne]; omega
              have hl1 : (i : Int) + 1 < (P.length : Int) := by omega
              have hl2 : (0 : Int) ≤ (i : Int) + 1 := by omega
              have hXX : (X.toList != X.toList) = false := by simp
              clear hxn
              have HZ : Hid (M.has x (P.take i) = false) := M.has_no fun hm => by have h5 := HH1.out.1 hm; omega
              have HQ : Hid (∀ W, SR W u0 (.slice (some ⟨b, 0, none⟩) P.length cp) P → Calls Try.prog 25 #[.slice (some ⟨b, 0, none⟩) i cp, .string x] W fun e W' => e = .returned (.bool false) ∧ W' = W) := fun W h => by
                have := soHas_any W u0 _ (P.take i) (h.row.pre (by omega)) (by rw [List.length_take]; omega) x
                rw [HZ.out] at this
                exact this.mono fun e w' h => ⟨h.1, h.2.symm⟩
              clear HZ
              go_wp2_with fail
              go_quiet ((go_at_call 25; exact Calls.quiet_of_same (HQ.out _ (by first | exact HR3.out | exact HR3.out.on (below_drewN0 (Below.refl _ _) _)))))
              go_wp2
              go_roundw
              case rel => exact ⟨i + 1, by omega, by go_num, HNT3.out.on (below_drewN0 (Below.refl _ _) _), HR3.out.on (below_drewN0 (Below.refl _ _) _), below_drewN0 HBL3.out _⟩
              case measure => first | (simp [intOf]; done) | (simp [intOf]; omega)
            · have he : i + 1 = P.length := by omega
              have hl0 : ((i : Int) == (P.length : Int) - 1) = true := by rw [beq_iff_eq]; omega
              rcases HKI.out with rfl | rfl | rfl
              · have hX0 := (HL1.out he).1 rfl
                have hXX := here_yes2 hX0
                have hX2 : X.toList = [104, 101, 114, 101] := by have h5 := here_yes hX0; simpa using h5
                clear he hX0
                have HZ : Hid (M.has x (P.take i) = false) := M.has_no fun hm => by have h5 := HH1.out.1 hm; omega
                have HQ : Hid (∀ W, SR W u0 (.slice (some ⟨b, 0, none⟩) P.length cp) P → Calls Try.prog 25 #[.slice (some ⟨b, 0, none⟩) i cp, .string x] W fun e W' => e = .returned (.bool false) ∧ W' = W) := fun W h => by
                  have := soHas_any W u0 _ (P.take i) (h.row.pre (by omega)) (by rw [List.length_take]; omega) x
                  rw [HZ.out] at this
                  exact this.mono fun e w' h => ⟨h.1, h.2.symm⟩
                clear HZ
                go_wp2_with fail
                go_quiet ((go_at_call 25; exact Calls.quiet_of_same (HQ.out _ (by first | exact HR3.out | exact HR3.out.on (below_drewN0 (Below.refl _ _) _)))))
                go_wp2
                go_roundw
                case rel => exact ⟨i + 1, by omega, by go_num, HNT3.out.on (below_drewN0 (Below.refl _ _) _), HR3.out.on (below_drewN0 (Below.refl _ _) _), below_drewN0 HBL3.out _⟩
                case measure => first | (simp [intOf]; done) | (simp [intOf]; omega)
              · have hX0 := (HL1.out he).2 rfl
                subst hX0
                clear he
                have HZ : Hid (M.has x (P.take i) = false) := M.has_no fun hm => by have h5 := HH1.out.1 hm; omega
                have HQ : Hid (∀ W, SR W u0 (.slice (some ⟨b, 0, none⟩) P.length cp) P → Calls Try.prog 25 #[.slice (some ⟨b, 0, none⟩) i cp, .string x] W fun e W' => e = .returned (.bool false) ∧ W' = W) := fun W h => by
                  have := soHas_any W u0 _ (P.take i) (h.row.pre (by omega)) (by rw [List.length_take]; omega) x
                  rw [HZ.out] at this
                  exact this.mono fun e w' h => ⟨h.1, h.2.symm⟩
                clear HZ
                go_wp2_with fail
                go_quiet ((go_at_call 25; exact Calls.quiet_of_same (HQ.out _ (by first | exact HR3.out | exact HR3.out.on (below_drewN0 (Below.refl _ _) _)))))
                go_wp2
                go_roundw
                case rel => exact ⟨i + 1, by omega, by go_num, HNT3.out.on (below_drewN0 (Below.refl _ _) _), HR3.out.on (below_drewN0 (Below.refl _ _) _), below_drewN0 HBL3.out _⟩
                case measure => first | (simp [intOf]; done) | (simp [intOf]; omega)
              · have HZ : Hid (M.has x (P.take i) = true) := M.has_iff.2 (HH1.out.2 ⟨he, rfl⟩)
                clear he
                have HQ : Hid (∀ W, SR W u0 (.slice (some ⟨b, 0, none⟩) P.length cp) P → Calls Try.prog 25 #[.slice (some ⟨b, 0, none⟩) i cp, .string x] W fun e W' => e = .returned (.bool true) ∧ W' = W) := fun W h => by
                  have := soHas_any W u0 _ (P.take i) (h.row.pre (by omega)) (by rw [List.length_take]; omega) x
                  rw [HZ.out] at this
                  exact this.mono fun e w' h => ⟨h.1, h.2.symm⟩
                clear HZ
                go_wp2_with fail
                go_quiet ((go_at_call 25; exact Calls.quiet_of_same (HQ.out _ (by first | exact HR3.out | exact HR3.out.on (below_drewN0 (Below.refl _ _) _)))))
                go_wp2
                go_roundw
                case rel => exact ⟨i + 1, by omega, by go_num, HNT3.out.on (below_drewN0 (Below.refl _ _) _), HR3.out.on (below_drewN0 (Below.refl _ _) _), below_drewN0 HBL3.out _⟩
                case measure => first | (simp [intOf]; done) | (simp [intOf]; omega)
      · obtain rfl : i = P.length := by omega
        have c0 := (hr1.out.row.cellAt 0 (by omega)).1
        have hx0 : P[0] = s := by have := HST.out; rw [List.getD_eq_getElem?_getD, List.getElem?_eq_getElem (by omega)] at this; exact this
        rw [hx0] at c0
        have hss : (s.toList == s.toList) = true := by simp
        have hpn : (P.length : Int) ≤ (n : Int) + 1 := by omega
        have hp0 : (0 : Int) < (P.length : Int) := by omega
        have hp00 : 0 < P.length := by omega
        clear hx0
        go_wp2
        go_ret
        exact ⟨rfl, hbl.out⟩

set_option maxRecDepth 100000 in
theorem lifted (os : Os) (started : os.Started) (H : Type) (enc : TypeId × Value → H) :
    ReturnsInHanded {} Try.checked os 5 .any (Rows.fnRouteSpec.pre6 enc Try.prog Try.f5 Rows.fnRouteRow.domain false) (Rows.fnRouteSpec.post enc Try.prog Try.f5 false true false false) := by
  refine returnsInHanded_of_change (C := Try.checked) own started (by kernel_rfl) Try.func5
    (ChangeSpec.witness6 (enc := enc) (C := Try.checked) false ⟨#[], #[.slice none 0 0], []⟩ 8 (by kernel_rfl) (by kernel_rfl) (by kernel_rfl) (by kernel_rfl)) ?_
  intro W base args ds gs before hval0 hW hcnd _
  have hval : ∀ (j : Nat) t v, Try.f5.params[j]? = some t → args[j]? = some v → Value.okWide Try.prog W .any base t v := hval0
  have hW' := hW
  obtain ⟨p, q, hA0, hV, rfl, hfz, hnd⟩ := hW
  have hA : DataW.TrodAll enc Try.prog W 0 (fun _ => true) true Try.f5.params.toList args.toList ds p := hA0
  rw [Try.params5] at hA hval
  obtain ⟨v0, vs0, d0, ds0, p0, q0, hargs, rfl, rfl, h0, r0⟩ := trodAll_cons hA
  obtain ⟨rfl, rfl, rfl⟩ := trodAll_nil r0
  obtain rfl : args = #[v0] := by cases args; simp_all
  obtain ⟨rfl, rfl⟩ := trodVars_none hV
  have g0 := h0
  have lt0 : ∀ x ∈ p0, x.block < W.heap.size := by obtain ⟨m, hm⟩ := g0; exact DataW.trod_lt m _ _ _ hm
  obtain ⟨a0, l0, k0, rfl⟩ := okWide_slice Try.underlying22 (hval 0 22 v0 rfl rfl)
  obtain ⟨z0, w0⟩ : ∃ zs, IsRow .u8 W a0 l0 k0 zs := by
    obtain ⟨fuel, hf⟩ := h0
    rcases open_ints Try.underlying22 Try.underlying5 (by kernel_rfl) hf with ⟨hcs, _⟩ | ⟨x, l, c, zs, hcs, _, hl, hm, hz, _, hcell, hwz⟩
    · simp [Value.cells] at hcs
      obtain ⟨rfl, rfl, rfl⟩ := hcs
      exact ⟨[], .inl ⟨rfl, rfl, rfl, rfl⟩⟩
    · simp [Value.cells] at hcs
      obtain ⟨rfl, rfl, rfl⟩ := hcs
      exact ⟨zs, .inr ⟨_, rfl, hl, hm, by simpa using hz, hcell, hwz⟩⟩
  clear hA0 hval0
  refine (walk W a0 l0 k0 z0 w0).mono fun e W' ⟨he, bel⟩ => ?_
  subst he
  exact ⟨_, rfl, _, _, _, [], _, [], hW', trodAll_mk1 (shut_bool Try.underlying4 _), (trodAll_cons_mk (Below.trod laidOut (by kernel_rfl) (of_decide_eq_true (by kernel_rfl)) g0 bel lt0) trodAll_mk0), rfl, bel.frame _, fun h => by cases h⟩

theorem proved : Rows.FnRouteSaid :=
  OpenClaim.holds_of_wide 5 Try.f5 rfl rfl rfl rfl rfl rfl rfl ⟨rfl, rfl, rfl, rfl, rfl⟩ rfl rfl rfl rfl rfl (by kernel_rfl) Try.func5 (by kernel_rfl)
    (of_decide_eq_true (by kernel_rfl)) (by unfold Func.isWrapper; first | (rw [if_pos (by decide +kernel)]; kernel_rfl) | (rw [if_neg (by decide +kernel)]; exact ⟨rfl, rfl⟩))
    (fun os started H enc _ => lifted os started H enc)
#print axioms proved
end Go.Proofs.Ytabmbbnfpfkcaaa.fnRoute
