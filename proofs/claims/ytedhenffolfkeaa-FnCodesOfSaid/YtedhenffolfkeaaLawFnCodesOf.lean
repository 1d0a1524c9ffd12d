/-
  For every slice of bytes, laws.FnCodesOf returns true.
-/
import Derived.Test.YtedhenffolfkeaaRows
import Derived.Test.YtedhenffolfkeaaStbH
import Derived.Test.YtedhenffolfkeaaCodesD
import Derived.Deep.RegionHeld3
import Derived.BigQuiet
import Derived.WalkKit
import Derived.ProofKit
import Derived.OpenShut
import Derived.ShutString
import Derived.ChangeOld
import Derived.Below
import Derived.Handy
import Derived.Lib.Hide
namespace Go.Proofs.Ytedhenffolfkeaa.fnCodesOf
open Go.ChangeShapes Go.WideShapes Go.ChangeAt Go.RowKit
open Go.ChangeMaps (open_string shut_string)
open Go.PlainAid (bt get_bt bt_nonneg bt_le)
set_option linter.unusedVariables false

theorem own : ownKnob Try.prog.godebug = none := by kernel_rfl
theorem laidOut : laidOutB Try.prog = true := by kernel_rfl

set_option maxHeartbeats 40000000 in
set_option maxRecDepth 100000 in
theorem walk (w : World) (a0 : Option Addr) (l0 k0 : Nat) (z0 : List Int) (w0 : IsRow .u8 w a0 l0 k0 z0) :
    Calls Try.prog 7 #[.slice a0 l0 k0] w fun e w' => e = .returned (.bool true) ∧ Below w.heap.size w w' := by
  by_cases hl : 1048576 < l0
  · go_enter Try.func7, Try.ntmps7
    go_wp2
    go_ret
    exact ⟨rfl, Below.refl _ _⟩
  go_enter Try.func7, Try.ntmps7
  go_wp2_with fail
  refine (DrawCodesOf_any a0 l0 k0 z0 w w0).mono ?_
  rintro e u ⟨v, rfl, a, n, c, I, C, rfl, lt, fi, hn, bl⟩
  obtain ⟨L, hLe, hlt2, hfi2⟩ : ∃ L : List (Int × ByteArray), L.length = n ∧ Lts u a n (nI L) (nC L) ∧ Fits n (nI L) (nC L) := ⟨M.lst I C n, M.lst_length I C n, lt.congr fun i hi => ⟨(lst_at hi).1.symm, (lst_at hi).2.symm⟩, fun i hi => by rw [(lst_at hi).1, (lst_at hi).2]; exact fi i hi⟩
  subst hLe
  have LT := Lib.hid hlt2
  have FI := Lib.hid hfi2
  have BL := Lib.hid bl
  have hn2 : L.length ≤ 1048576 := by omega
  clear lt fi bl hlt2 hfi2
  cases hok : M.batch L.length (nI L) (nC L)
  · have HV := Lib.hid (fun W h => impl_BatchValid W a L.length c (nI L) (nC L) h FI.out)
    have hK : M.codesL L.length (nI L) (nC L) = [] := by unfold M.codesL; rw [sortL_no hok]; rfl
    have HK := Lib.hid hK
    rw [hok] at HV
    clear hK hok
    go_wp2_with fail
    refine (impl_CodesOf _ a L.length c (nI L) (nC L) LT.out FI.out).mono ?_
    rw [HK.out]
    rintro e v1 ⟨p1, rfl, r1, k1⟩
    replace BL := Lib.hid (step BL.out k1)
    replace LT := Lib.hid (LT.out.on k1)
    clear k1
    obtain ⟨a4, c4, rfl, _, l4⟩ := r1.form
    have S1 := Lib.hid l4
    clear r1 l4
    go_wp2_with fail
    refine (spec_CodesOf _ a L.length c (nI L) (nC L) LT.out FI.out hn2).mono ?_
    rw [HK.out]
    rintro e v2 ⟨p2, rfl, r2, k2⟩
    replace BL := Lib.hid (step BL.out k2)
    replace LT := Lib.hid (LT.out.on k2)
    replace S1 := Lib.hid (S1.out.on k2)
    clear k2
    obtain ⟨a5, c5, rfl, _, l5⟩ := r2.form
    have S2 := Lib.hid l5
    clear r2 l5
    go_wp2_with fail
    refine (HV.out _ LT.out).mono ?_
    rintro e v3 ⟨rfl, k3⟩
    replace BL := Lib.hid (step BL.out k3)
    replace LT := Lib.hid (LT.out.on k3)
    replace S1 := Lib.hid (S1.out.on k3)
    replace S2 := Lib.hid (S2.out.on k3)
    clear k3
    go_wp2
    go_ret
    exact ⟨rfl, BL.out⟩
  · have HV := Lib.hid (fun W h => impl_BatchValid W a L.length c (nI L) (nC L) h FI.out)
    have hbl := (batchL_list L).1 hok
    have h60 := hbl.2.2
    obtain ⟨R, hRR⟩ : ∃ R, M.codesL L.length (nI L) (nC L) = R := ⟨_, rfl⟩
    have HK := Lib.hid hRR
    have hlw := codes_law hbl hRR
    have hq1 : R.length ≤ 60 := by rw [← hRR]; exact M.codesL_le _ _ _
    obtain ⟨c1, c2, c3, c4⟩ := hlw
    have HC1 := Lib.hid c1
    have HC2 := Lib.hid c2
    have HC3 := Lib.hid c3
    have HC4 := Lib.hid c4
    rw [hok] at HV
    clear hbl hRR hok c1 c2 c3 c4
    go_wp2_with fail
    refine (impl_CodesOf _ a L.length c (nI L) (nC L) LT.out FI.out).mono ?_
    rw [HK.out]
    rintro e v1 ⟨p1, rfl, r1, k1⟩
    replace BL := Lib.hid (step BL.out k1)
    replace LT := Lib.hid (LT.out.on k1)
    clear k1
    obtain ⟨a4, c4, rfl, _, l4⟩ := r1.form
    have S1 := Lib.hid l4
    clear r1 l4
    go_wp2_with fail
    refine (spec_CodesOf _ a L.length c (nI L) (nC L) LT.out FI.out hn2).mono ?_
    rw [HK.out]
    rintro e v2 ⟨p2, rfl, r2, k2⟩
    replace BL := Lib.hid (step BL.out k2)
    replace LT := Lib.hid (LT.out.on k2)
    replace S1 := Lib.hid (S1.out.on k2)
    clear k2
    obtain ⟨a5, c5, rfl, _, l5⟩ := r2.form
    have S2 := Lib.hid l5
    clear r2 l5
    go_wp2_with fail
    refine (HV.out _ LT.out).mono ?_
    rintro e v3 ⟨rfl, k3⟩
    replace BL := Lib.hid (step BL.out k3)
    replace LT := Lib.hid (LT.out.on k3)
    replace S1 := Lib.hid (S1.out.on k3)
    replace S2 := Lib.hid (S2.out.on k3)
    clear k3
    have HV6 := Lib.hid BL.out
    clear BL HV
    obtain ⟨Z, hZ⟩ : ∃ Z, v3 = Z := ⟨_, rfl⟩
    rw [hZ] at LT S1 S2 HV6 ⊢
    clear hZ
    go_wp2
    go_loopw [6, 7] (fun vn vi wr => ∃ (k N : Nat), k ≤ R.length ∧ vn = .int .i64 N ∧ vi = .int .i64 k ∧ Hid (cumC L R k = N) ∧ Hid (Below Z.heap.size Z wr)) (fun _ vi _ => R.length - (intOf vi).toNat)
    case atStart => exact ⟨0, 0, Nat.zero_le _, rfl, rfl, rfl, Below.refl _ _⟩
    case round =>
      obtain ⟨k, N, hk, rfl, rfl, hcu, hbw⟩ := hrel
      by_cases hlt : k < R.length
      · have hki : (k : Int) < (R.length : Int) := by omega
        have hk0 : (0 : Int) ≤ (k : Int) := by omega
        obtain ⟨e1, e2, e3⟩ := HC1.out k hlt
        have e4 := HC4.out (k + 1) hlt
        have hcu2 : Hid (cumC L R (k + 1) = N + cntC L (sC R k)) := by unfold Hid; rw [← hcu.out]; rfl
        rw [hcu2.out] at e4
        obtain ⟨m, hm⟩ : ∃ m, cntC L (sC R k) = m := ⟨_, rfl⟩
        rw [hm] at e1 e2 e4 hcu2
        have LTb := Lib.hid (LT.out.on hbw.out)
        have hls1 := S1.out.on hbw.out
        obtain ⟨g4, o4, h4, t0⟩ := hls1 k hlt
        obtain ⟨g5, o5, h5, t1⟩ := (S2.out.on hbw.out) k hlt
        subst h4 h5
        have hprev : ∀ j, k = j + 1 → ∃ sp, M.less sp (sC R k) = true ∧ wr.cell? ⟨g4, o4 + j, none⟩ = some (.string sp) := fun j e => by
          subst e
          obtain ⟨b9, o9, e9, t9⟩ := hls1 j (by omega)
          obtain ⟨rfl, rfl, _⟩ := Addr.mk.inj (Option.some.inj e9)
          exact ⟨_, HC2.out j hlt, t9⟩
        clear hm hls1
        generalize sC R k = s at t0 t1 e1 e3 hprev
        have HCP := Lib.hid e1
        have hsm : s.size ≤ maxLen := by unfold maxLen; omega
        have HCC : Hid (∀ W, Below wr.heap.size wr W → Calls Try.prog 27 #[.slice a L.length c, .string s] W fun e w' => e = .returned (.int .i64 (m : Int)) ∧ Below W.heap.size W w') := fun W h => by
          have := impl_CountPrefix W a L.length c (nI L) (nC L) s (LTb.out.on h) FI.out hsm
          rw [HCP.out] at this
          exact this
        have hb1 : (s.toList == s.toList) = true := by simp
        have hb2 : (s.toList != s.toList) = false := by rw [bne, hb1]; rfl
        have hm1 : ¬ (m : Int) < 1 := by omega
        have hm2 : ¬ m < 1 := by omega
        have hm3 : decide ((m : Int) < 1) = false := decide_eq_false hm1
        have hws : IntKind.i64.wrap ((N : Int) + (m : Int)) = (N : Int) + (m : Int) := IntWalk.i64_in _ (by omega)
        have lb4 := World.block_lt_of_cell? _ _ t0
        have lb5 := World.block_lt_of_cell? _ _ t1
        have t9 := t0
        have KL : Below wr.heap.size wr wr := Below.refl _ _
        clear e1 e3 HCP LTb hcu
        by_cases h0 : k = 0
        · subst h0
          rw [Nat.add_zero] at t0 t1 t9
          have hi00 : ¬ (0 : Int) < 0 := by omega
          have s0 : wr.cell? ⟨g4, o4, none⟩ = some (.string s) ∧ wr.cell? ⟨g5, o5, none⟩ = some (.string s) := ⟨t0, t1⟩
          clear t0 t1 hprev
          go_wp2_with fail
          refine wp_region_noPanic ?_
          refine wp_region_held_drew (S := fun w' => w'.cell? ⟨g4, o4, none⟩ = some (.string s) ∧ w'.cell? ⟨g5, o5, none⟩ = some (.string s)) (by kernel_rfl) (by exact s0) (fun hHeld => ?_)
          refine wpAnyH_take (i := 0) (oi := ⟨some 38, _, _, _, _, _⟩) (v := .slice (some ⟨g4, o4, none⟩) R.length c4) rfl (by kernel_rfl) (by kernel_rfl) (by kernel_rfl) (fun _ _ _ h => h) (Or.inl ⟨by rfl, ?_⟩) (by assumption) ?_
          · intro w' hSw
            obtain ⟨c0, c1⟩ := hSw
            go_simp
          try simp only [Act.put, List.setIfInBounds_toArray, List.set_cons_zero, List.set_cons_succ]
          refine wpAnyH_take (i := 1) (oi := ⟨some 39, _, _, _, _, _⟩) (v := .int .i64 0) rfl (by kernel_rfl) (by kernel_rfl) (by kernel_rfl) (fun _ _ _ h => h) (Or.inl ⟨by rfl, ?_⟩) (by assumption) ?_
          · intro w' hSw
            obtain ⟨c0, c1⟩ := hSw
            go_simp
          try simp only [Act.put, List.setIfInBounds_toArray, List.set_cons_zero, List.set_cons_succ]
          refine wpAnyH_take (i := 2) (oi := ⟨some 40, _, _, _, _, _⟩) (v := .pointer (some ⟨g4, o4, none⟩)) rfl (by kernel_rfl) (by kernel_rfl) (by kernel_rfl) (fun _ _ _ h => h) (Or.inl ⟨by rfl, ?_⟩) (by assumption) ?_
          · intro w' hSw
            obtain ⟨c0, c1⟩ := hSw
            go_simp
          try simp only [Act.put, List.setIfInBounds_toArray, List.set_cons_zero, List.set_cons_succ]
          refine wpAnyH_take (i := 3) (oi := ⟨some 41, _, _, _, _, _⟩) (v := .string s) rfl (by kernel_rfl) (by kernel_rfl) (by kernel_rfl) (fun _ _ _ h => h) (Or.inl ⟨by rfl, ?_⟩) (by assumption) ?_
          · intro w' hSw
            obtain ⟨c0, c1⟩ := hSw
            go_simp
          try simp only [Act.put, List.setIfInBounds_toArray, List.set_cons_zero, List.set_cons_succ]
          refine wpAnyH_take (i := 4) (oi := ⟨some 42, _, _, _, _, _⟩) (v := .slice (some ⟨g5, o5, none⟩) R.length c5) rfl (by kernel_rfl) (by kernel_rfl) (by kernel_rfl) (fun _ _ _ h => h) (Or.inl ⟨by rfl, ?_⟩) (by assumption) ?_
          · intro w' hSw
            obtain ⟨c0, c1⟩ := hSw
            go_simp
          try simp only [Act.put, List.setIfInBounds_toArray, List.set_cons_zero, List.set_cons_succ]
          refine wpAnyH_take (i := 5) (oi := ⟨some 43, _, _, _, _, _⟩) (v := .int .i64 0) rfl (by kernel_rfl) (by kernel_rfl) (by kernel_rfl) (fun _ _ _ h => h) (Or.inl ⟨by rfl, ?_⟩) (by assumption) ?_
          · intro w' hSw
            obtain ⟨c0, c1⟩ := hSw
            go_simp
          try simp only [Act.put, List.setIfInBounds_toArray, List.set_cons_zero, List.set_cons_succ]
          refine wpAnyH_take (i := 6) (oi := ⟨some 44, _, _, _, _, _⟩) (v := .pointer (some ⟨g5, o5, none⟩)) rfl (by kernel_rfl) (by kernel_rfl) (by kernel_rfl) (fun _ _ _ h => h) (Or.inl ⟨by rfl, ?_⟩) (by assumption) ?_
          · intro w' hSw
            obtain ⟨c0, c1⟩ := hSw
            go_simp
          try simp only [Act.put, List.setIfInBounds_toArray, List.set_cons_zero, List.set_cons_succ]
          refine wpAnyH_take (i := 7) (oi := ⟨some 45, _, _, _, _, _⟩) (v := .string s) rfl (by kernel_rfl) (by kernel_rfl) (by kernel_rfl) (fun _ _ _ h => h) (Or.inl ⟨by rfl, ?_⟩) (by assumption) ?_
          · intro w' hSw
            obtain ⟨c0, c1⟩ := hSw
            go_simp
          try simp only [Act.put, List.setIfInBounds_toArray, List.set_cons_zero, List.set_cons_succ]
          refine wpAnyH_take (i := 8) (oi := ⟨some 46, _, _, _, _, _⟩) (v := .bool false) rfl (by kernel_rfl) (by kernel_rfl) (by kernel_rfl) (fun _ _ _ h => h) (Or.inl ⟨by rfl, ?_⟩) (by assumption) ?_
          · intro w' hSw
            obtain ⟨c0, c1⟩ := hSw
            go_simp
          try simp only [Act.put, List.setIfInBounds_toArray, List.set_cons_zero, List.set_cons_succ]
          refine wpAnyH_take (i := 9) (oi := ⟨some 47, _, _, _, _, _⟩) (v := .bool false) rfl (by kernel_rfl) (by kernel_rfl) (by kernel_rfl) (fun _ _ _ h => h) (Or.inl ⟨by rfl, ?_⟩) (by assumption) ?_
          · intro w' hSw
            obtain ⟨c0, c1⟩ := hSw
            go_simp
          try simp only [Act.put, List.setIfInBounds_toArray, List.set_cons_zero, List.set_cons_succ]
          refine wpAnyH_take (i := 10) (oi := ⟨some 48, _, _, _, _, _⟩) (v := .int .i64 0) rfl (by kernel_rfl) (by kernel_rfl) (by kernel_rfl) (fun _ _ _ h => h) (Or.inl ⟨by rfl, ?_⟩) (by assumption) ?_
          · intro w' hSw
            obtain ⟨c0, c1⟩ := hSw
            go_simp
          try simp only [Act.put, List.setIfInBounds_toArray, List.set_cons_zero, List.set_cons_succ]
          refine wpAnyH_take (i := 11) (oi := ⟨some 49, _, _, _, _, _⟩) (v := .bool false) rfl (by kernel_rfl) (by kernel_rfl) (by kernel_rfl) (fun _ _ _ h => h) (Or.inl ⟨by rfl, ?_⟩) (by assumption) ?_
          · intro w' hSw
            obtain ⟨c0, c1⟩ := hSw
            go_simp
          try simp only [Act.put, List.setIfInBounds_toArray, List.set_cons_zero, List.set_cons_succ]
          refine wpAnyH_take (i := 12) (oi := ⟨some 50, _, _, _, _, _⟩) (v := .bool false) rfl (by kernel_rfl) (by kernel_rfl) (by kernel_rfl) (fun _ _ _ h => h) (Or.inl ⟨by rfl, ?_⟩) (by assumption) ?_
          · intro w' hSw
            obtain ⟨c0, c1⟩ := hSw
            go_simp
          try simp only [Act.put, List.setIfInBounds_toArray, List.set_cons_zero, List.set_cons_succ]
          refine wpAnyH_take (i := 13) (oi := ⟨some 51, _, _, _, _, _⟩) (v := undef) rfl (by kernel_rfl) (by kernel_rfl) (by kernel_rfl) (fun _ _ _ h => h) (Or.inr ⟨by kernel_rfl, rfl⟩) (by assumption) ?_
          try simp only [Act.put, List.setIfInBounds_toArray, List.set_cons_zero, List.set_cons_succ]
          refine wpAnyH_take (i := 14) (oi := ⟨some 52, _, _, _, _, _⟩) (v := undef) rfl (by kernel_rfl) (by kernel_rfl) (by kernel_rfl) (fun _ _ _ h => h) (Or.inr ⟨by kernel_rfl, rfl⟩) (by assumption) ?_
          try simp only [Act.put, List.setIfInBounds_toArray, List.set_cons_zero, List.set_cons_succ]
          refine wpAnyH_take (i := 15) (oi := ⟨some 53, _, _, _, _, _⟩) (v := undef) rfl (by kernel_rfl) (by kernel_rfl) (by kernel_rfl) (fun _ _ _ h => h) (Or.inr ⟨by kernel_rfl, rfl⟩) (by assumption) ?_
          try simp only [Act.put, List.setIfInBounds_toArray, List.set_cons_zero, List.set_cons_succ]
          refine wpAnyH_take (i := 16) (oi := ⟨some 54, _, _, _, _, _⟩) (v := undef) rfl (by kernel_rfl) (by kernel_rfl) (by kernel_rfl) (fun _ _ _ h => h) (Or.inr ⟨by kernel_rfl, rfl⟩) (by assumption) ?_
          try simp only [Act.put, List.setIfInBounds_toArray, List.set_cons_zero, List.set_cons_succ]
          refine wpAnyH_take (i := 17) (oi := ⟨some 55, _, _, _, _, _⟩) (v := undef) rfl (by kernel_rfl) (by kernel_rfl) (by kernel_rfl) (fun _ _ _ h => h) (Or.inr ⟨by kernel_rfl, rfl⟩) (by assumption) ?_
          try simp only [Act.put, List.setIfInBounds_toArray, List.set_cons_zero, List.set_cons_succ]
          refine wpAnyH_take (i := 18) (oi := ⟨some 56, _, _, _, _, _⟩) (v := undef) rfl (by kernel_rfl) (by kernel_rfl) (by kernel_rfl) (fun _ _ _ h => h) (Or.inr ⟨by kernel_rfl, rfl⟩) (by assumption) ?_
          try simp only [Act.put, List.setIfInBounds_toArray, List.set_cons_zero, List.set_cons_succ]
          refine wpAnyH_take (i := 19) (oi := ⟨some 57, _, _, _, _, _⟩) (v := undef) rfl (by kernel_rfl) (by kernel_rfl) (by kernel_rfl) (fun _ _ _ h => h) (Or.inr ⟨by kernel_rfl, rfl⟩) (by assumption) ?_
          try simp only [Act.put, List.setIfInBounds_toArray, List.set_cons_zero, List.set_cons_succ]
          refine wpAnyH_take (i := 20) (oi := ⟨some 58, _, _, _, _, _⟩) (v := undef) rfl (by kernel_rfl) (by kernel_rfl) (by kernel_rfl) (fun _ _ _ h => h) (Or.inr ⟨by kernel_rfl, rfl⟩) (by assumption) ?_
          try simp only [Act.put, List.setIfInBounds_toArray, List.set_cons_zero, List.set_cons_succ]
          refine wpAnyH_take (i := 21) (oi := ⟨some 59, _, _, _, _, _⟩) (v := undef) rfl (by kernel_rfl) (by kernel_rfl) (by kernel_rfl) (fun _ _ _ h => h) (Or.inr ⟨by kernel_rfl, rfl⟩) (by assumption) ?_
          try simp only [Act.put, List.setIfInBounds_toArray, List.set_cons_zero, List.set_cons_succ]
          refine wpAnyH_take (i := 22) (oi := ⟨some 60, _, _, _, _, _⟩) (v := undef) rfl (by kernel_rfl) (by kernel_rfl) (by kernel_rfl) (fun _ _ _ h => h) (Or.inr ⟨by kernel_rfl, rfl⟩) (by assumption) ?_
          try simp only [Act.put, List.setIfInBounds_toArray, List.set_cons_zero, List.set_cons_succ]
          refine wpAnyH_take (i := 23) (oi := ⟨some 61, _, _, _, _, _⟩) (v := .bool false) rfl (by kernel_rfl) (by kernel_rfl) (by kernel_rfl) (fun _ _ _ h => h) (Or.inl ⟨by kernel_rfl, fun _ _ => by kernel_rfl⟩) (by assumption) ?_
          try simp only [Act.put, List.setIfInBounds_toArray, List.set_cons_zero, List.set_cons_succ]
          refine wpAnyH_take (i := 24) (oi := ⟨some 62, _, _, _, _, _⟩) (v := .bool false) rfl (by kernel_rfl) (by kernel_rfl) (by kernel_rfl) (fun _ _ _ h => h) (Or.inl ⟨by kernel_rfl, fun _ _ => by kernel_rfl⟩) (by assumption) ?_
          try simp only [Act.put, List.setIfInBounds_toArray, List.set_cons_zero, List.set_cons_succ]
          refine wpAnyH_take (i := 25) (oi := ⟨some 63, _, _, _, _, _⟩) (v := .bool false) rfl (by kernel_rfl) (by kernel_rfl) (by kernel_rfl) (fun _ _ _ h => h) (Or.inl ⟨by kernel_rfl, fun _ _ => by kernel_rfl⟩) (by assumption) ?_
          try simp only [Act.put, List.setIfInBounds_toArray, List.set_cons_zero, List.set_cons_succ]
          refine wpAnyH_take (i := 26) (oi := ⟨some 64, _, _, _, _, _⟩) (v := .slice a L.length c) rfl (by kernel_rfl) (by kernel_rfl) (by kernel_rfl) (fun _ _ _ h => h) (Or.inl ⟨by kernel_rfl, ?_⟩) (by assumption) ?_
          · intro w' hSw
            obtain ⟨c0, c1⟩ := hSw
            go_simp
          try simp only [Act.put, List.setIfInBounds_toArray, List.set_cons_zero, List.set_cons_succ]
          refine wpAnyH_take (i := 27) (oi := ⟨some 65, _, _, _, _, _⟩) (v := .slice (some ⟨g4, o4, none⟩) R.length c4) rfl (by kernel_rfl) (by kernel_rfl) (by kernel_rfl) (fun _ _ _ h => h) (Or.inl ⟨by kernel_rfl, ?_⟩) (by assumption) ?_
          · intro w' hSw
            obtain ⟨c0, c1⟩ := hSw
            go_simp
          try simp only [Act.put, List.setIfInBounds_toArray, List.set_cons_zero, List.set_cons_succ]
          refine wpAnyH_take (i := 28) (oi := ⟨some 66, _, _, _, _, _⟩) (v := .int .i64 0) rfl (by kernel_rfl) (by kernel_rfl) (by kernel_rfl) (fun _ _ _ h => h) (Or.inl ⟨by kernel_rfl, ?_⟩) (by assumption) ?_
          · intro w' hSw
            obtain ⟨c0, c1⟩ := hSw
            go_simp
          try simp only [Act.put, List.setIfInBounds_toArray, List.set_cons_zero, List.set_cons_succ]
          refine wpAnyH_take (i := 29) (oi := ⟨some 67, _, _, _, _, _⟩) (v := .pointer (some ⟨g4, o4, none⟩)) rfl (by kernel_rfl) (by kernel_rfl) (by kernel_rfl) (fun _ _ _ h => h) (Or.inl ⟨by kernel_rfl, ?_⟩) (by assumption) ?_
          · intro w' hSw
            obtain ⟨c0, c1⟩ := hSw
            go_simp
          try simp only [Act.put, List.setIfInBounds_toArray, List.set_cons_zero, List.set_cons_succ]
          refine wpAnyH_take (i := 30) (oi := ⟨some 68, _, _, _, _, _⟩) (v := .string s) rfl (by kernel_rfl) (by kernel_rfl) (by kernel_rfl) (fun _ _ _ h => h) (Or.inl ⟨by kernel_rfl, ?_⟩) (by assumption) ?_
          · intro w' hSw
            obtain ⟨c0, c1⟩ := hSw
            go_simp
          try simp only [Act.put, List.setIfInBounds_toArray, List.set_cons_zero, List.set_cons_succ]
          refine wpAnyH_ready (rs := [31]) (by kernel_rfl) (by simp) ?_
          refine AllReadyH.cons (o := ⟨some 69, _, _, _, _, _⟩) rfl (fun K hK => ?_) AllReadyH.nil
          go_simp
          refine (HCC.out _ (sstep KL (by go_grown))).mono ?_
          rintro e w8 ⟨rfl, k8⟩
          have KM : Below wr.heap.size wr w8 := sstep (sstep KL (by go_grown)) k8
          have s8 : w8.cell? ⟨g4, o4, none⟩ = some (.string s) ∧ w8.cell? ⟨g5, o5, none⟩ = some (.string s) := ⟨(KM.cell (p := ⟨g4, o4, none⟩) lb4).trans s0.1, (KM.cell (p := ⟨g5, o5, none⟩) lb5).trans s0.2⟩
          refine hK.out _ _ s8 (fun hHeld2 => ?_)
          clear hK K hHeld
          try simp only [Act.put, List.setIfInBounds_toArray, List.set_cons_zero, List.set_cons_succ]
          refine wpAnyH_take (i := 32) (oi := ⟨some 70, _, _, _, _, _⟩) (v := .bool false) rfl (by kernel_rfl) (by kernel_rfl) (by kernel_rfl) (fun _ _ _ h => h) (Or.inl ⟨by kernel_rfl, ?_⟩) (by assumption) ?_
          · intro w' hSw
            obtain ⟨c0, c1⟩ := hSw
            go_simp
          try simp only [Act.put, List.setIfInBounds_toArray, List.set_cons_zero, List.set_cons_succ]
          refine wpAnyH_take (i := 33) (oi := ⟨some 71, _, _, _, _, _⟩) (v := .bool false) rfl (by kernel_rfl) (by kernel_rfl) (by kernel_rfl) (fun _ _ _ h => h) (Or.inl ⟨by kernel_rfl, fun _ _ => by kernel_rfl⟩) (by assumption) ?_
          try simp only [Act.put, List.setIfInBounds_toArray, List.set_cons_zero, List.set_cons_succ]
          refine wpAnyH_done (by kernel_rfl) ?_ _
          refine NoPanic.normal ?_
          clear hHeld2
          have s9 : w8.cell? ⟨g4, o4, none⟩ = some (.string s) := s8.1
          clear k8 s0 s8
          go_wp2_with fail
          refine (HCC.out _ KM).mono ?_
          rintro e w9 ⟨rfl, k9⟩
          have KN : Below wr.heap.size wr w9 := sstep KM k9
          have B9 := Lib.hid (sstep hbw.out KN)
          clear k9 s9 KM KN
          go_wp2
          go_roundw
          case rel => exact ⟨0 + 1, N + m, by omega, by go_num, by go_num, hcu2.out, by first | exact B9.out | exact below_drewS B9.out _⟩
          case measure => first | (simp [intOf]; done) | (simp [intOf]; omega)
        · obtain ⟨j, hj⟩ : ∃ j, k = j + 1 := ⟨k - 1, by omega⟩
          obtain ⟨sp, hlp, t2⟩ := hprev j hj
          have hlq : Op.bytesLess s.toList sp.toList = false := bl_asym hlp
          have hlr : (s.toList == sp.toList) = false := by
            rw [beq_eq_false_iff_ne]
            intro e
            rw [ByteArray.toList_eq, ByteArray.toList_eq] at e
            exact less_ne hlp (WideShapes.bytes_inj e).symm
          have hjw : IntKind.i64.wrap ((k : Int) - 1) = (j : Int) := (IntWalk.i64_in _ (by omega)).trans (by omega)
          have hj0 : (0 : Int) ≤ (j : Int) := by omega
          have hj1 : (j : Int) < (R.length : Int) := by omega
          have hi1i : (0 : Int) < (k : Int) := by omega
          have hi1n : 0 < k := by omega
          have hi1d : decide ((0 : Int) < (k : Int)) = true := decide_eq_true hi1i
          have s0 : (wr.cell? ⟨g4, o4 + k, none⟩ = some (.string s) ∧ wr.cell? ⟨g5, o5 + k, none⟩ = some (.string s)) ∧ wr.cell? ⟨g4, o4 + j, none⟩ = some (.string sp) := ⟨⟨t0, t1⟩, t2⟩
          clear t0 t1 t2 hprev hlp hj h0
          go_wp2_with fail
          go_region_held3 (fun w' => (w'.cell? ⟨g4, o4 + k, none⟩ = some (.string s) ∧ w'.cell? ⟨g5, o5 + k, none⟩ = some (.string s)) ∧ w'.cell? ⟨g4, o4 + j, none⟩ = some (.string sp)) (first | exact s0 | exact s8) (first
            | (go_at_call 27; refine (HCC.out _ (sstep KL (by go_grown))).mono ?_; rintro e w8 ⟨rfl, k8⟩; have KM : Below wr.heap.size wr w8 := (by exact sstep (sstep KL (by go_grown)) k8); have s8 : (w8.cell? ⟨g4, o4 + k, none⟩ = some (.string s) ∧ w8.cell? ⟨g5, o5 + k, none⟩ = some (.string s)) ∧ w8.cell? ⟨g4, o4 + j, none⟩ = some (.string sp) := ⟨⟨(KM.cell (p := ⟨g4, o4 + k, none⟩) lb4).trans s0.1.1, (KM.cell (p := ⟨g5, o5 + k, none⟩) lb5).trans s0.1.2⟩, (KM.cell (p := ⟨g4, o4 + j, none⟩) lb4).trans s0.2⟩))
          all_goals
            have s9 : w8.cell? ⟨g4, o4 + k, none⟩ = some (.string s) := s8.1.1
            clear k8 s0 s8
            go_wp2_with fail
            refine (HCC.out _ KM).mono ?_
            rintro e w9 ⟨rfl, k9⟩
            have KN : Below wr.heap.size wr w9 := sstep KM k9
            have B9 := Lib.hid (sstep hbw.out KN)
            clear k9 s9 KM KN
            go_wp2
            go_roundw
            case rel => exact ⟨k + 1, N + m, by omega, by go_num, by go_num, hcu2.out, by first | exact B9.out | exact below_drewS B9.out _⟩
            case measure => first | (simp [intOf]; done) | (simp [intOf]; omega)
      · obtain rfl : k = R.length := by omega
        have hN := hcu.out
        rw [HC3.out] at hN
        subst hN
        have e1 : ((L.length : Int) == (L.length : Int)) = true := by simp
        have B9 := Lib.hid (step HV6.out hbw.out)
        go_wp2
        go_ret
        exact ⟨rfl, B9.out⟩

set_option maxRecDepth 100000 in
theorem lifted (os : Os) (started : os.Started) (H : Type) (enc : TypeId × Value → H) :
    ReturnsInHanded {} Try.checked os 7 .any (Rows.fnCodesOfSpec.pre6 enc Try.prog Try.f7 Rows.fnCodesOfRow.domain false) (Rows.fnCodesOfSpec.post enc Try.prog Try.f7 false true false false) := by
  refine returnsInHanded_of_change (C := Try.checked) own started (by kernel_rfl) Try.func7
    (ChangeSpec.witness6 (enc := enc) (C := Try.checked) false ⟨#[], #[.slice none 0 0], []⟩ 8 (by kernel_rfl) (by kernel_rfl) (by kernel_rfl) (by kernel_rfl)) ?_
  intro W base args ds gs before hval0 hW hcnd _
  have hval : ∀ (j : Nat) t v, Try.f7.params[j]? = some t → args[j]? = some v → Value.okWide Try.prog W .any base t v := hval0
  have hW' := hW
  obtain ⟨p, q, hA0, hV, rfl, hfz, hnd⟩ := hW
  have hA : DataW.TrodAll enc Try.prog W 0 (fun _ => true) true Try.f7.params.toList args.toList ds p := hA0
  rw [Try.params7] at hA hval
  obtain ⟨v0, vs0, d0, ds0, p0, q0, hargs, rfl, rfl, h0, r0⟩ := trodAll_cons hA
  obtain ⟨rfl, rfl, rfl⟩ := trodAll_nil r0
  obtain rfl : args = #[v0] := by cases args; simp_all
  obtain ⟨rfl, rfl⟩ := trodVars_none hV
  have g0 := h0
  have lt0 : ∀ x ∈ p0, x.block < W.heap.size := by obtain ⟨m, hm⟩ := g0; exact DataW.trod_lt m _ _ _ hm
  obtain ⟨a0, l0, k0, rfl⟩ := okWide_slice Try.underlying22 (hval 0 22 v0 rfl rfl)
  obtain ⟨z0, w0⟩ : ∃ zs, IsRow .u8 W a0 l0 k0 zs := by
    obtain ⟨fuel, hf⟩ := h0
    rcases open_ints Try.underlying22 Try.underlying5 (by kernel_rfl) hf with ⟨hcs, _⟩ | ⟨x, l, c, zs, hcs, _, hl, hm, hz, _, hcell, hwz⟩
    · simp [Value.cells] at hcs
      obtain ⟨rfl, rfl, rfl⟩ := hcs
      exact ⟨[], .inl ⟨rfl, rfl, rfl, rfl⟩⟩
    · simp [Value.cells] at hcs
      obtain ⟨rfl, rfl, rfl⟩ := hcs
      exact ⟨zs, .inr ⟨_, rfl, hl, hm, by simpa using hz, hcell, hwz⟩⟩
  clear hA0 hval0
  refine (walk W a0 l0 k0 z0 w0).mono fun e W' ⟨he, bel⟩ => ?_
  subst he
  exact ⟨_, rfl, _, _, _, [], _, [], hW', trodAll_mk1 (shut_bool Try.underlying4 _), (trodAll_cons_mk (Below.trod laidOut (by kernel_rfl) (of_decide_eq_true (by kernel_rfl)) g0 bel lt0) trodAll_mk0), rfl, bel.frame _, fun h => by cases h⟩

theorem proved : Rows.FnCodesOfSaid :=
  OpenClaim.holds_of_wide 7 Try.f7 rfl rfl rfl rfl rfl rfl rfl ⟨rfl, rfl, rfl, rfl, rfl⟩ rfl rfl rfl rfl rfl (by kernel_rfl) Try.func7 (by kernel_rfl)
    (of_decide_eq_true (by kernel_rfl)) (by unfold Func.isWrapper; first | (rw [if_pos (by decide +kernel)]; kernel_rfl) | (rw [if_neg (by decide +kernel)]; exact ⟨rfl, rfl⟩))
    (fun os started H enc _ => lifted os started H enc)
#print axioms proved
end Go.Proofs.Ytedhenffolfkeaa.fnCodesOf
