/-
  For every slice of bytes, laws.FnAddRefused returns true.
-/
import Derived.Test.YtbfbbpmddgfeiaaRows
import Derived.Test.YtbfbbpmddgfeiaaDrawF2
import Derived.Test.YtbfbbpmddgfeiaaRefM
import Derived.WalkKit
import Derived.ProofKit
import Derived.OpenShut
import Derived.ShutString
import Derived.ChangeOld
import Derived.Below
import Derived.Handy
import Derived.Lib.Hide
namespace Go.Proofs.Ytbfbbpmddgfeiaa.fnAddRefused
open Go.ChangeShapes Go.WideShapes Go.ChangeAt Go.RowKit
open Go.ChangeMaps (open_string shut_string)
open Go.PlainAid (bt get_bt bt_nonneg bt_le)
set_option linter.unusedVariables false

theorem own : ownKnob Try.prog.godebug = none := by kernel_rfl
theorem laidOut : laidOutB Try.prog = true := by kernel_rfl

set_option maxHeartbeats 8000000 in
set_option maxRecDepth 100000 in
theorem walk (w : World) (a0 : Option Addr) (l0 k0 : Nat) (z0 : List Int) (w0 : IsRow .u8 w a0 l0 k0 z0) :
    Calls Try.prog 8 #[.slice a0 l0 k0] w fun e w' => e = .returned (.bool true) ∧ Below w.heap.size w w' := by
  by_cases hl : 1048576 < l0
  · go_enter Try.func8, Try.ntmps8
    go_wp2
    go_ret
    exact ⟨rfl, Below.refl _ _⟩
  go_enter Try.func8, Try.ntmps8
  go_wp2_with fail
  refine (DrawAddForward_any a0 l0 k0 z0 w w0).mono ?_
  rintro e u ⟨v, s, s2, rfl, hs, hs2, a, n, c, F, T, rfl, lt, fi, hn, bl⟩
  have LT := Lib.hid lt
  have FI := Lib.hid fi
  have BL := Lib.hid bl
  clear lt fi bl
  have hn2 : n ≤ 1048576 := by omega
  have hsm : s.size ≤ maxLen := by unfold maxLen; omega
  have hsm2 : s2.size ≤ maxLen := by unfold maxLen; omega
  cases hok : M.fwd n F T
  · obtain ⟨ok, hok2⟩ : ∃ ok, M.addOk F T n s s2 = ok := ⟨_, rfl⟩
    have HOK := Lib.hid hok2
    have HO := Lib.hid hok
    clear hok hok2
    cases ok
    all_goals
      go_wp2_with fail
      refine (impl_AddForward _ _ _ _ _ _ LT.out FI.out hn2 s s2 hsm hsm2).mono ?_
      rw [HOK.out]
      rintro e v1 ⟨v1, rfl, _, k1⟩
      replace LT := Lib.hid (LT.out.on k1)
      replace BL := Lib.hid (step BL.out k1)
      clear k1
      go_wp2_with fail
      refine (spec_AddForward _ _ _ _ _ _ LT.out FI.out hn2 s s2 hsm hsm2).mono ?_
      rw [HOK.out]
      rintro e v2 ⟨v2, rfl, _, k2⟩
      replace LT := Lib.hid (LT.out.on k2)
      replace BL := Lib.hid (step BL.out k2)
      clear k2
      go_wp2_with fail
      refine (impl_ForwardsValid _ _ _ _ _ _ LT.out FI.out).mono ?_
      rw [HO.out]
      rintro e v3 ⟨rfl, k3⟩
      replace LT := Lib.hid (LT.out.on k3)
      replace BL := Lib.hid (step BL.out k3)
      clear k3
      go_wp2
      go_ret
      exact ⟨rfl, BL.out⟩
  · cases hc1 : M.code s
    · obtain ⟨ok, hok2⟩ : ∃ ok, M.addOk F T n s s2 = ok := ⟨_, rfl⟩
      have HOK := Lib.hid hok2
      have HO := Lib.hid hok
      have HC1 := Lib.hid hc1
      clear hok hok2 hc1
      cases ok
      all_goals
        go_wp2_with fail
        refine (impl_AddForward _ _ _ _ _ _ LT.out FI.out hn2 s s2 hsm hsm2).mono ?_
        rw [HOK.out]
        rintro e v1 ⟨v1, rfl, _, k1⟩
        replace LT := Lib.hid (LT.out.on k1)
        replace BL := Lib.hid (step BL.out k1)
        clear k1
        go_wp2_with fail
        refine (spec_AddForward _ _ _ _ _ _ LT.out FI.out hn2 s s2 hsm hsm2).mono ?_
        rw [HOK.out]
        rintro e v2 ⟨v2, rfl, _, k2⟩
        replace LT := Lib.hid (LT.out.on k2)
        replace BL := Lib.hid (step BL.out k2)
        clear k2
        go_wp2_with fail
        refine (impl_ForwardsValid _ _ _ _ _ _ LT.out FI.out).mono ?_
        rw [HO.out]
        rintro e v3 ⟨rfl, k3⟩
        replace LT := Lib.hid (LT.out.on k3)
        replace BL := Lib.hid (step BL.out k3)
        clear k3
        go_wp2_with fail
        refine (impl_CodeValid _ _ hsm).mono ?_
        rw [HC1.out]
        rintro e v4 ⟨rfl, k4⟩
        replace k4 := k4.below
        replace LT := Lib.hid (LT.out.on k4)
        replace BL := Lib.hid (step BL.out k4)
        clear k4
        go_wp2
        go_ret
        exact ⟨rfl, BL.out⟩
    · cases hc2 : M.code s2
      · obtain ⟨ok, hok2⟩ : ∃ ok, M.addOk F T n s s2 = ok := ⟨_, rfl⟩
        have HOK := Lib.hid hok2
        have HO := Lib.hid hok
        have HC1 := Lib.hid hc1
        have HC2 := Lib.hid hc2
        clear hok hok2 hc1 hc2
        cases ok
        all_goals
          go_wp2_with fail
          refine (impl_AddForward _ _ _ _ _ _ LT.out FI.out hn2 s s2 hsm hsm2).mono ?_
          rw [HOK.out]
          rintro e v1 ⟨v1, rfl, _, k1⟩
          replace LT := Lib.hid (LT.out.on k1)
          replace BL := Lib.hid (step BL.out k1)
          clear k1
          go_wp2_with fail
          refine (spec_AddForward _ _ _ _ _ _ LT.out FI.out hn2 s s2 hsm hsm2).mono ?_
          rw [HOK.out]
          rintro e v2 ⟨v2, rfl, _, k2⟩
          replace LT := Lib.hid (LT.out.on k2)
          replace BL := Lib.hid (step BL.out k2)
          clear k2
          go_wp2_with fail
          refine (impl_ForwardsValid _ _ _ _ _ _ LT.out FI.out).mono ?_
          rw [HO.out]
          rintro e v3 ⟨rfl, k3⟩
          replace LT := Lib.hid (LT.out.on k3)
          replace BL := Lib.hid (step BL.out k3)
          clear k3
          go_wp2_with fail
          refine (impl_CodeValid _ _ hsm).mono ?_
          rw [HC1.out]
          rintro e v4 ⟨rfl, k4⟩
          replace k4 := k4.below
          replace LT := Lib.hid (LT.out.on k4)
          replace BL := Lib.hid (step BL.out k4)
          clear k4
          go_wp2_with fail
          refine (impl_CodeValid _ _ hsm2).mono ?_
          rw [HC2.out]
          rintro e v5 ⟨rfl, k5⟩
          replace k5 := k5.below
          replace LT := Lib.hid (LT.out.on k5)
          replace BL := Lib.hid (step BL.out k5)
          clear k5
          go_wp2
          go_ret
          exact ⟨rfl, BL.out⟩
      · have hwhen := M.add_when (x := s) (y := s2) hok hc1 hc2
        have HO := Lib.hid hok
        have HC1 := Lib.hid hc1
        have HC2 := Lib.hid hc2
        rcases M.rank_cases F s n with ⟨hr, hno⟩ | ⟨k, hk, hFk, hno, hr⟩
        · have hwo : M.wo s (M.flst F T n) = M.flst F T n := M.wo_same fun p hp => by
            unfold M.flst at hp
            obtain ⟨i, hi, rfl⟩ := List.mem_map.1 hp
            exact hno i (List.mem_range.1 hi)
          rw [hwo, M.res_flst, M.flst_length] at hwhen
          obtain ⟨e1, e2⟩ := M.rem_no (F := F) (T := T) (n := n) (x := s) (Or.inr hr)
          have HE1 := Lib.hid e1
          have HE2 := Lib.hid e2
          have hV := congrArg resV (M.resCode_yes hok hc2)
          obtain ⟨r, hres⟩ : ∃ r, M.res F T n s2 = r := ⟨_, rfl⟩
          rw [hres] at hwhen hV
          clear e1 e2 hres hwo hno hr hok hc1 hc2
          cases r with
          | none =>
            have HOK : Hid (M.addOk F T n s s2 = false) := by rw [Hid, hwhen]; rfl
            have HV : Hid (resV (M.resCode F T n s2) = .tuple #[.string ⟨#[]⟩, .int .i64 0, .bool false]) := hV
            clear hwhen hV
            go_wp2_with fail
            refine (impl_AddForward _ _ _ _ _ _ LT.out FI.out hn2 s s2 hsm hsm2).mono ?_
            rw [HOK.out]
            rintro e v1 ⟨v1, rfl, _, k1⟩
            replace LT := Lib.hid (LT.out.on k1)
            replace BL := Lib.hid (step BL.out k1)
            clear k1
            go_wp2_with fail
            refine (spec_AddForward _ _ _ _ _ _ LT.out FI.out hn2 s s2 hsm hsm2).mono ?_
            rw [HOK.out]
            rintro e v2 ⟨v2, rfl, _, k2⟩
            replace LT := Lib.hid (LT.out.on k2)
            replace BL := Lib.hid (step BL.out k2)
            clear k2
            go_wp2_with fail
            refine (impl_ForwardsValid _ _ _ _ _ _ LT.out FI.out).mono ?_
            rw [HO.out]
            rintro e v3 ⟨rfl, k3⟩
            replace LT := Lib.hid (LT.out.on k3)
            replace BL := Lib.hid (step BL.out k3)
            clear k3
            go_wp2_with fail
            refine (impl_CodeValid _ _ hsm).mono ?_
            rw [HC1.out]
            rintro e v4 ⟨rfl, k4⟩
            replace k4 := k4.below
            replace LT := Lib.hid (LT.out.on k4)
            replace BL := Lib.hid (step BL.out k4)
            clear k4
            go_wp2_with fail
            refine (impl_CodeValid _ _ hsm2).mono ?_
            rw [HC2.out]
            rintro e v5 ⟨rfl, k5⟩
            replace k5 := k5.below
            replace LT := Lib.hid (LT.out.on k5)
            replace BL := Lib.hid (step BL.out k5)
            clear k5
            go_wp2_with fail
            refine (impl_RemoveForward _ _ _ _ _ _ LT.out FI.out hn2 s hsm).mono ?_
            rw [HE1.out, HE2.out]
            rintro e v6 ⟨v3, rfl, _, k6⟩
            replace LT := Lib.hid (LT.out.on k6)
            replace BL := Lib.hid (step BL.out k6)
            clear k6
            go_wp2_with fail
            refine (impl_ResolveCode _ _ _ _ _ _ LT.out FI.out s2 hsm2).mono ?_
            rw [HV.out]
            rintro e v7 ⟨rfl, k7⟩
            replace LT := Lib.hid (LT.out.on k7)
            replace BL := Lib.hid (step BL.out k7)
            clear k7
            go_wp2
            go_ret
            exact ⟨rfl, BL.out⟩
          | some p =>
            obtain ⟨e', t⟩ := p
            by_cases he : e' = s
            · have hd : (e'.toList == s.toList) = true := by rw [he]; simp
              have HOK : Hid (M.addOk F T n s s2 = false) := by rw [Hid, hwhen]; show (!decide (e' = s) && _) = false; rw [decide_eq_true he]; rfl
              have HV : Hid (resV (M.resCode F T n s2) = .tuple #[.string e', .int .i64 t, .bool true]) := hV
              clear hwhen hV
              go_wp2_with fail
              refine (impl_AddForward _ _ _ _ _ _ LT.out FI.out hn2 s s2 hsm hsm2).mono ?_
              rw [HOK.out]
              rintro e v1 ⟨v1, rfl, _, k1⟩
              replace LT := Lib.hid (LT.out.on k1)
              replace BL := Lib.hid (step BL.out k1)
              clear k1
              go_wp2_with fail
              refine (spec_AddForward _ _ _ _ _ _ LT.out FI.out hn2 s s2 hsm hsm2).mono ?_
              rw [HOK.out]
              rintro e v2 ⟨v2, rfl, _, k2⟩
              replace LT := Lib.hid (LT.out.on k2)
              replace BL := Lib.hid (step BL.out k2)
              clear k2
              go_wp2_with fail
              refine (impl_ForwardsValid _ _ _ _ _ _ LT.out FI.out).mono ?_
              rw [HO.out]
              rintro e v3 ⟨rfl, k3⟩
              replace LT := Lib.hid (LT.out.on k3)
              replace BL := Lib.hid (step BL.out k3)
              clear k3
              go_wp2_with fail
              refine (impl_CodeValid _ _ hsm).mono ?_
              rw [HC1.out]
              rintro e v4 ⟨rfl, k4⟩
              replace k4 := k4.below
              replace LT := Lib.hid (LT.out.on k4)
              replace BL := Lib.hid (step BL.out k4)
              clear k4
              go_wp2_with fail
              refine (impl_CodeValid _ _ hsm2).mono ?_
              rw [HC2.out]
              rintro e v5 ⟨rfl, k5⟩
              replace k5 := k5.below
              replace LT := Lib.hid (LT.out.on k5)
              replace BL := Lib.hid (step BL.out k5)
              clear k5
              go_wp2_with fail
              refine (impl_RemoveForward _ _ _ _ _ _ LT.out FI.out hn2 s hsm).mono ?_
              rw [HE1.out, HE2.out]
              rintro e v6 ⟨v3, rfl, _, k6⟩
              replace LT := Lib.hid (LT.out.on k6)
              replace BL := Lib.hid (step BL.out k6)
              clear k6
              go_wp2_with fail
              refine (impl_ResolveCode _ _ _ _ _ _ LT.out FI.out s2 hsm2).mono ?_
              rw [HV.out]
              rintro e v7 ⟨rfl, k7⟩
              replace LT := Lib.hid (LT.out.on k7)
              replace BL := Lib.hid (step BL.out k7)
              clear k7
              go_wp2
              go_ret
              exact ⟨rfl, BL.out⟩
            · by_cases hlt : n + 1 ≤ 30
              · have hd : (e'.toList == s.toList) = false := neq_list0 he
                have HOK : Hid (M.addOk F T n s s2 = true) := by rw [Hid, hwhen]; show (!decide (e' = s) && _) = true; rw [decide_eq_false he, decide_eq_true hlt]; rfl
                have HV : Hid (resV (M.resCode F T n s2) = .tuple #[.string e', .int .i64 t, .bool true]) := hV
                clear hwhen hV
                go_wp2_with fail
                refine (impl_AddForward _ _ _ _ _ _ LT.out FI.out hn2 s s2 hsm hsm2).mono ?_
                rw [HOK.out]
                rintro e v1 ⟨v1, rfl, _, k1⟩
                replace LT := Lib.hid (LT.out.on k1)
                replace BL := Lib.hid (step BL.out k1)
                clear k1
                go_wp2_with fail
                refine (spec_AddForward _ _ _ _ _ _ LT.out FI.out hn2 s s2 hsm hsm2).mono ?_
                rw [HOK.out]
                rintro e v2 ⟨v2, rfl, _, k2⟩
                replace LT := Lib.hid (LT.out.on k2)
                replace BL := Lib.hid (step BL.out k2)
                clear k2
                go_wp2_with fail
                refine (impl_ForwardsValid _ _ _ _ _ _ LT.out FI.out).mono ?_
                rw [HO.out]
                rintro e v3 ⟨rfl, k3⟩
                replace LT := Lib.hid (LT.out.on k3)
                replace BL := Lib.hid (step BL.out k3)
                clear k3
                go_wp2_with fail
                refine (impl_CodeValid _ _ hsm).mono ?_
                rw [HC1.out]
                rintro e v4 ⟨rfl, k4⟩
                replace k4 := k4.below
                replace LT := Lib.hid (LT.out.on k4)
                replace BL := Lib.hid (step BL.out k4)
                clear k4
                go_wp2_with fail
                refine (impl_CodeValid _ _ hsm2).mono ?_
                rw [HC2.out]
                rintro e v5 ⟨rfl, k5⟩
                replace k5 := k5.below
                replace LT := Lib.hid (LT.out.on k5)
                replace BL := Lib.hid (step BL.out k5)
                clear k5
                go_wp2_with fail
                refine (impl_RemoveForward _ _ _ _ _ _ LT.out FI.out hn2 s hsm).mono ?_
                rw [HE1.out, HE2.out]
                rintro e v6 ⟨v3, rfl, _, k6⟩
                replace LT := Lib.hid (LT.out.on k6)
                replace BL := Lib.hid (step BL.out k6)
                clear k6
                go_wp2_with fail
                refine (impl_ResolveCode _ _ _ _ _ _ LT.out FI.out s2 hsm2).mono ?_
                rw [HV.out]
                rintro e v7 ⟨rfl, k7⟩
                replace LT := Lib.hid (LT.out.on k7)
                replace BL := Lib.hid (step BL.out k7)
                clear k7
                go_wp2
                go_ret
                exact ⟨ret_bool (by first | exact decide_eq_true (by omega) | (rw [decide_eq_false (by omega)]; rfl)), BL.out⟩
              · have hd : (e'.toList == s.toList) = false := neq_list0 he
                have HOK : Hid (M.addOk F T n s s2 = false) := by rw [Hid, hwhen]; show (!decide (e' = s) && _) = false; rw [decide_eq_false he, decide_eq_false hlt]; rfl
                have HV : Hid (resV (M.resCode F T n s2) = .tuple #[.string e', .int .i64 t, .bool true]) := hV
                clear hwhen hV
                go_wp2_with fail
                refine (impl_AddForward _ _ _ _ _ _ LT.out FI.out hn2 s s2 hsm hsm2).mono ?_
                rw [HOK.out]
                rintro e v1 ⟨v1, rfl, _, k1⟩
                replace LT := Lib.hid (LT.out.on k1)
                replace BL := Lib.hid (step BL.out k1)
                clear k1
                go_wp2_with fail
                refine (spec_AddForward _ _ _ _ _ _ LT.out FI.out hn2 s s2 hsm hsm2).mono ?_
                rw [HOK.out]
                rintro e v2 ⟨v2, rfl, _, k2⟩
                replace LT := Lib.hid (LT.out.on k2)
                replace BL := Lib.hid (step BL.out k2)
                clear k2
                go_wp2_with fail
                refine (impl_ForwardsValid _ _ _ _ _ _ LT.out FI.out).mono ?_
                rw [HO.out]
                rintro e v3 ⟨rfl, k3⟩
                replace LT := Lib.hid (LT.out.on k3)
                replace BL := Lib.hid (step BL.out k3)
                clear k3
                go_wp2_with fail
                refine (impl_CodeValid _ _ hsm).mono ?_
                rw [HC1.out]
                rintro e v4 ⟨rfl, k4⟩
                replace k4 := k4.below
                replace LT := Lib.hid (LT.out.on k4)
                replace BL := Lib.hid (step BL.out k4)
                clear k4
                go_wp2_with fail
                refine (impl_CodeValid _ _ hsm2).mono ?_
                rw [HC2.out]
                rintro e v5 ⟨rfl, k5⟩
                replace k5 := k5.below
                replace LT := Lib.hid (LT.out.on k5)
                replace BL := Lib.hid (step BL.out k5)
                clear k5
                go_wp2_with fail
                refine (impl_RemoveForward _ _ _ _ _ _ LT.out FI.out hn2 s hsm).mono ?_
                rw [HE1.out, HE2.out]
                rintro e v6 ⟨v3, rfl, _, k6⟩
                replace LT := Lib.hid (LT.out.on k6)
                replace BL := Lib.hid (step BL.out k6)
                clear k6
                go_wp2_with fail
                refine (impl_ResolveCode _ _ _ _ _ _ LT.out FI.out s2 hsm2).mono ?_
                rw [HV.out]
                rintro e v7 ⟨rfl, k7⟩
                replace LT := Lib.hid (LT.out.on k7)
                replace BL := Lib.hid (step BL.out k7)
                clear k7
                go_wp2
                go_ret
                exact ⟨ret_bool (by first | exact decide_eq_true (by omega) | (rw [decide_eq_false (by omega)]; rfl)), BL.out⟩
        · obtain ⟨e1, e2⟩ := M.rem_yes hok hr
          have HE1 := Lib.hid e1
          have hlen := M.rem_len hok hr hk
          have hN30 := (M.fwd_yes hok).1
          have hfit := Lib.hid (fits_wo FI.out s)
          have hV := congrArg resV (M.resCode_yes (M.rem_good hok s) hc2)
          obtain ⟨L, hL⟩ : ∃ L, M.wo s (M.flst F T n) = L := ⟨_, rfl⟩
          rw [hL] at hwhen e2 hlen hfit hV
          have HE2 := Lib.hid e2
          obtain ⟨r, hres⟩ : ∃ r, M.res (nF L) (nT L) L.length s2 = r := ⟨_, rfl⟩
          rw [hres] at hwhen hV
          clear e1 e2 hres hno hr hok hc1 hc2 hL hFk
          cases r with
          | none =>
            have HOK : Hid (M.addOk F T n s s2 = false) := by rw [Hid, hwhen]; rfl
            have HV : Hid (resV (M.resCode (nF L) (nT L) L.length s2) = .tuple #[.string ⟨#[]⟩, .int .i64 0, .bool false]) := hV
            clear hwhen hV
            go_wp2_with fail
            refine (impl_AddForward _ _ _ _ _ _ LT.out FI.out hn2 s s2 hsm hsm2).mono ?_
            rw [HOK.out]
            rintro e v1 ⟨v1, rfl, _, k1⟩
            replace LT := Lib.hid (LT.out.on k1)
            replace BL := Lib.hid (step BL.out k1)
            clear k1
            go_wp2_with fail
            refine (spec_AddForward _ _ _ _ _ _ LT.out FI.out hn2 s s2 hsm hsm2).mono ?_
            rw [HOK.out]
            rintro e v2 ⟨v2, rfl, _, k2⟩
            replace LT := Lib.hid (LT.out.on k2)
            replace BL := Lib.hid (step BL.out k2)
            clear k2
            go_wp2_with fail
            refine (impl_ForwardsValid _ _ _ _ _ _ LT.out FI.out).mono ?_
            rw [HO.out]
            rintro e v3 ⟨rfl, k3⟩
            replace LT := Lib.hid (LT.out.on k3)
            replace BL := Lib.hid (step BL.out k3)
            clear k3
            go_wp2_with fail
            refine (impl_CodeValid _ _ hsm).mono ?_
            rw [HC1.out]
            rintro e v4 ⟨rfl, k4⟩
            replace k4 := k4.below
            replace LT := Lib.hid (LT.out.on k4)
            replace BL := Lib.hid (step BL.out k4)
            clear k4
            go_wp2_with fail
            refine (impl_CodeValid _ _ hsm2).mono ?_
            rw [HC2.out]
            rintro e v5 ⟨rfl, k5⟩
            replace k5 := k5.below
            replace LT := Lib.hid (LT.out.on k5)
            replace BL := Lib.hid (step BL.out k5)
            clear k5
            go_wp2_with fail
            refine (impl_RemoveForward _ _ _ _ _ _ LT.out FI.out hn2 s hsm).mono ?_
            rw [HE1.out, HE2.out]
            rintro e v6 ⟨v3, rfl, r3, k6⟩
            replace LT := Lib.hid (LT.out.on k6)
            replace BL := Lib.hid (step BL.out k6)
            have R3 := Lib.hid r3
            clear r3
            clear k6
            obtain ⟨a3, c3, hv3, _, hw3⟩ := R3.out.form
            have W3 := Lib.hid hw3
            subst hv3
            clear hw3 R3
            go_wp2_with fail
            refine (impl_ResolveCode _ a3 L.length c3 _ _ W3.out hfit.out s2 hsm2).mono ?_
            rw [HV.out]
            rintro e v7 ⟨rfl, k7⟩
            replace LT := Lib.hid (LT.out.on k7)
            replace BL := Lib.hid (step BL.out k7)
            replace W3 := Lib.hid (W3.out.on k7)
            clear k7
            go_wp2
            go_ret
            exact ⟨rfl, BL.out⟩
          | some p =>
            obtain ⟨e', t⟩ := p
            by_cases he : e' = s
            · have hd : (e'.toList == s.toList) = true := by rw [he]; simp
              have HOK : Hid (M.addOk F T n s s2 = false) := by rw [Hid, hwhen]; show (!decide (e' = s) && _) = false; rw [decide_eq_true he]; rfl
              have HV : Hid (resV (M.resCode (nF L) (nT L) L.length s2) = .tuple #[.string e', .int .i64 t, .bool true]) := hV
              clear hwhen hV
              go_wp2_with fail
              refine (impl_AddForward _ _ _ _ _ _ LT.out FI.out hn2 s s2 hsm hsm2).mono ?_
              rw [HOK.out]
              rintro e v1 ⟨v1, rfl, _, k1⟩
              replace LT := Lib.hid (LT.out.on k1)
              replace BL := Lib.hid (step BL.out k1)
              clear k1
              go_wp2_with fail
              refine (spec_AddForward _ _ _ _ _ _ LT.out FI.out hn2 s s2 hsm hsm2).mono ?_
              rw [HOK.out]
              rintro e v2 ⟨v2, rfl, _, k2⟩
              replace LT := Lib.hid (LT.out.on k2)
              replace BL := Lib.hid (step BL.out k2)
              clear k2
              go_wp2_with fail
              refine (impl_ForwardsValid _ _ _ _ _ _ LT.out FI.out).mono ?_
              rw [HO.out]
              rintro e v3 ⟨rfl, k3⟩
              replace LT := Lib.hid (LT.out.on k3)
              replace BL := Lib.hid (step BL.out k3)
              clear k3
              go_wp2_with fail
              refine (impl_CodeValid _ _ hsm).mono ?_
              rw [HC1.out]
              rintro e v4 ⟨rfl, k4⟩
              replace k4 := k4.below
              replace LT := Lib.hid (LT.out.on k4)
              replace BL := Lib.hid (step BL.out k4)
              clear k4
              go_wp2_with fail
              refine (impl_CodeValid _ _ hsm2).mono ?_
              rw [HC2.out]
              rintro e v5 ⟨rfl, k5⟩
              replace k5 := k5.below
              replace LT := Lib.hid (LT.out.on k5)
              replace BL := Lib.hid (step BL.out k5)
              clear k5
              go_wp2_with fail
              refine (impl_RemoveForward _ _ _ _ _ _ LT.out FI.out hn2 s hsm).mono ?_
              rw [HE1.out, HE2.out]
              rintro e v6 ⟨v3, rfl, r3, k6⟩
              replace LT := Lib.hid (LT.out.on k6)
              replace BL := Lib.hid (step BL.out k6)
              have R3 := Lib.hid r3
              clear r3
              clear k6
              obtain ⟨a3, c3, hv3, _, hw3⟩ := R3.out.form
              have W3 := Lib.hid hw3
              subst hv3
              clear hw3 R3
              go_wp2_with fail
              refine (impl_ResolveCode _ a3 L.length c3 _ _ W3.out hfit.out s2 hsm2).mono ?_
              rw [HV.out]
              rintro e v7 ⟨rfl, k7⟩
              replace LT := Lib.hid (LT.out.on k7)
              replace BL := Lib.hid (step BL.out k7)
              replace W3 := Lib.hid (W3.out.on k7)
              clear k7
              go_wp2
              go_ret
              exact ⟨rfl, BL.out⟩
            · have hd : (e'.toList == s.toList) = false := neq_list0 he
              have HOK : Hid (M.addOk F T n s s2 = true) := by rw [Hid, hwhen]; show (!decide (e' = s) && _) = true; rw [decide_eq_false he, decide_eq_true (show L.length + 1 ≤ 30 by omega)]; rfl
              have HV : Hid (resV (M.resCode (nF L) (nT L) L.length s2) = .tuple #[.string e', .int .i64 t, .bool true]) := hV
              clear hwhen hV
              go_wp2_with fail
              refine (impl_AddForward _ _ _ _ _ _ LT.out FI.out hn2 s s2 hsm hsm2).mono ?_
              rw [HOK.out]
              rintro e v1 ⟨v1, rfl, _, k1⟩
              replace LT := Lib.hid (LT.out.on k1)
              replace BL := Lib.hid (step BL.out k1)
              clear k1
              go_wp2_with fail
              refine (spec_AddForward _ _ _ _ _ _ LT.out FI.out hn2 s s2 hsm hsm2).mono ?_
              rw [HOK.out]
              rintro e v2 ⟨v2, rfl, _, k2⟩
              replace LT := Lib.hid (LT.out.on k2)
              replace BL := Lib.hid (step BL.out k2)
              clear k2
              go_wp2_with fail
              refine (impl_ForwardsValid _ _ _ _ _ _ LT.out FI.out).mono ?_
              rw [HO.out]
              rintro e v3 ⟨rfl, k3⟩
              replace LT := Lib.hid (LT.out.on k3)
              replace BL := Lib.hid (step BL.out k3)
              clear k3
              go_wp2_with fail
              refine (impl_CodeValid _ _ hsm).mono ?_
              rw [HC1.out]
              rintro e v4 ⟨rfl, k4⟩
              replace k4 := k4.below
              replace LT := Lib.hid (LT.out.on k4)
              replace BL := Lib.hid (step BL.out k4)
              clear k4
              go_wp2_with fail
              refine (impl_CodeValid _ _ hsm2).mono ?_
              rw [HC2.out]
              rintro e v5 ⟨rfl, k5⟩
              replace k5 := k5.below
              replace LT := Lib.hid (LT.out.on k5)
              replace BL := Lib.hid (step BL.out k5)
              clear k5
              go_wp2_with fail
              refine (impl_RemoveForward _ _ _ _ _ _ LT.out FI.out hn2 s hsm).mono ?_
              rw [HE1.out, HE2.out]
              rintro e v6 ⟨v3, rfl, r3, k6⟩
              replace LT := Lib.hid (LT.out.on k6)
              replace BL := Lib.hid (step BL.out k6)
              have R3 := Lib.hid r3
              clear r3
              clear k6
              obtain ⟨a3, c3, hv3, _, hw3⟩ := R3.out.form
              have W3 := Lib.hid hw3
              subst hv3
              clear hw3 R3
              go_wp2_with fail
              refine (impl_ResolveCode _ a3 L.length c3 _ _ W3.out hfit.out s2 hsm2).mono ?_
              rw [HV.out]
              rintro e v7 ⟨rfl, k7⟩
              replace LT := Lib.hid (LT.out.on k7)
              replace BL := Lib.hid (step BL.out k7)
              replace W3 := Lib.hid (W3.out.on k7)
              clear k7
              go_wp2
              go_ret
              exact ⟨rfl, BL.out⟩

set_option maxRecDepth 100000 in
theorem lifted (os : Os) (started : os.Started) (H : Type) (enc : TypeId × Value → H) :
    ReturnsInHanded {} Try.checked os 8 .any (Rows.fnAddRefusedSpec.pre6 enc Try.prog Try.f8 Rows.fnAddRefusedRow.domain false) (Rows.fnAddRefusedSpec.post enc Try.prog Try.f8 false true false false) := by
  refine returnsInHanded_of_change (C := Try.checked) own started (by kernel_rfl) Try.func8
    (ChangeSpec.witness6 (enc := enc) (C := Try.checked) false ⟨#[], #[.slice none 0 0], []⟩ 8 (by kernel_rfl) (by kernel_rfl) (by kernel_rfl) (by kernel_rfl)) ?_
  intro W base args ds gs before hval0 hW hcnd _
  have hval : ∀ (j : Nat) t v, Try.f8.params[j]? = some t → args[j]? = some v → Value.okWide Try.prog W .any base t v := hval0
  have hW' := hW
  obtain ⟨p, q, hA0, hV, rfl, hfz, hnd⟩ := hW
  have hA : DataW.TrodAll enc Try.prog W 0 (fun _ => true) true Try.f8.params.toList args.toList ds p := hA0
  rw [Try.params8] at hA hval
  obtain ⟨v0, vs0, d0, ds0, p0, q0, hargs, rfl, rfl, h0, r0⟩ := trodAll_cons hA
  obtain ⟨rfl, rfl, rfl⟩ := trodAll_nil r0
  obtain rfl : args = #[v0] := by cases args; simp_all
  obtain ⟨rfl, rfl⟩ := trodVars_none hV
  have g0 := h0
  have lt0 : ∀ x ∈ p0, x.block < W.heap.size := by obtain ⟨m, hm⟩ := g0; exact DataW.trod_lt m _ _ _ hm
  obtain ⟨a0, l0, k0, rfl⟩ := okWide_slice Try.underlying22 (hval 0 22 v0 rfl rfl)
  obtain ⟨z0, w0⟩ : ∃ zs, IsRow .u8 W a0 l0 k0 zs := by
    obtain ⟨fuel, hf⟩ := h0
    rcases open_ints Try.underlying22 Try.underlying5 (by kernel_rfl) hf with ⟨hcs, _⟩ | ⟨x, l, c, zs, hcs, _, hl, hm, hz, _, hcell, hwz⟩
    · simp [Value.cells] at hcs
      obtain ⟨rfl, rfl, rfl⟩ := hcs
      exact ⟨[], .inl ⟨rfl, rfl, rfl, rfl⟩⟩
    · simp [Value.cells] at hcs
      obtain ⟨rfl, rfl, rfl⟩ := hcs
      exact ⟨zs, .inr ⟨_, rfl, hl, hm, by simpa using hz, hcell, hwz⟩⟩
  clear hA0 hval0
  refine (walk W a0 l0 k0 z0 w0).mono fun e W' ⟨he, bel⟩ => ?_
  subst he
  exact ⟨_, rfl, _, _, _, [], _, [], hW', trodAll_mk1 (shut_bool Try.underlying4 _), (trodAll_cons_mk (Below.trod laidOut (by kernel_rfl) (of_decide_eq_true (by kernel_rfl)) g0 bel lt0) trodAll_mk0), rfl, bel.frame _, fun h => by cases h⟩

theorem proved : Rows.FnAddRefusedSaid :=
  OpenClaim.holds_of_wide 8 Try.f8 rfl rfl rfl rfl rfl rfl rfl ⟨rfl, rfl, rfl, rfl, rfl⟩ rfl rfl rfl rfl rfl (by kernel_rfl) Try.func8 (by kernel_rfl)
    (of_decide_eq_true (by kernel_rfl)) (by unfold Func.isWrapper; first | (rw [if_pos (by decide +kernel)]; kernel_rfl) | (rw [if_neg (by decide +kernel)]; exact ⟨rfl, rfl⟩))
    (fun os started H enc _ => lifted os started H enc)
#print axioms proved
end Go.Proofs.Ytbfbbpmddgfeiaa.fnAddRefused
