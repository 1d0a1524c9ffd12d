/-
  For every slice of bytes, laws.FnMissing returns true.
-/
import Derived.Test.YtlamckdnnnifcaaRows
import Derived.Test.YtlamckdnnnifcaaDrawM
import Derived.Test.YtlamckdnnnifcaaMissD
import Derived.Test.YtlamckdnnnifcaaSoB
import Derived.Test.YtlamckdnnnifcaaSoTurn
import Derived.Deep.RegionHeld3
import Derived.BigQuiet
import Derived.WalkKit
import Derived.ProofKit
import Derived.OpenShut
import Derived.ShutString
import Derived.ChangeOld
import Derived.Below
import Derived.Handy
import Derived.Lib.Hide
namespace Go.Proofs.Ytlamckdnnnifcaa.fnMissing
open Go.ChangeShapes Go.WideShapes Go.ChangeAt Go.RowKit
open Go.ChangeMaps (open_string shut_string)
open Go.PlainAid (bt get_bt bt_nonneg bt_le)
set_option linter.unusedVariables false

theorem own : ownKnob Try.prog.godebug = none := by kernel_rfl
theorem laidOut : laidOutB Try.prog = true := by kernel_rfl

set_option maxHeartbeats 40000000 in
set_option maxRecDepth 100000 in
theorem walk (w : World) (a0 : Option Addr) (l0 k0 : Nat) (z0 : List Int) (w0 : IsRow .u8 w a0 l0 k0 z0) :
    Calls Try.prog 4 #[.slice a0 l0 k0] w fun e w' => e = .returned (.bool true) ∧ Below w.heap.size w w' := by
  by_cases hl : 1048576 < l0
  · go_enter Try.func4, Try.ntmps4
    go_wp2
    go_ret
    exact ⟨rfl, Below.refl _ _⟩
  go_enter Try.func4, Try.ntmps4
  go_wp2_with fail
  refine (DrawMissingIds_any a0 l0 k0 z0 w w0).mono ?_
  rintro e u ⟨a, c, A, a2, c2, B, rfl, la, fa, na, lb, fb, nb, bl⟩
  have LA := Lib.hid la
  have LB := Lib.hid lb
  have FA : Hid (Fits A.length (nI A) (nC A)) := fa
  have FB : Hid (Fits B.length (nI B) (nC B)) := fb
  have BL := Lib.hid bl
  have na2 : A.length ≤ 1048576 := by omega
  have nb2 : B.length ≤ 1048576 := by omega
  clear la fa lb fb bl
  have HI := Lib.hid (fun W ha hb => impl_MissingIds W a A.length c (nI A) (nC A) ha FA.out a2 B.length c2 (nI B) (nC B) hb FB.out)
  have HS := Lib.hid (fun W ha hb => spec_MissingIds W a A.length c (nI A) (nC A) ha FA.out na2 a2 B.length c2 (nI B) (nC B) hb FB.out nb2)
  have HVA := Lib.hid (fun W h => impl_BatchValid W a A.length c (nI A) (nC A) h FA.out)
  have HVB := Lib.hid (fun W h => impl_BatchValid W a2 B.length c2 (nI B) (nC B) h FB.out)
  obtain ⟨X, hX⟩ : ∃ X, M.missing A.length (nI A) (nC A) B.length (nI B) (nC B) = X := ⟨_, rfl⟩
  have hx60 := M.missing_len A.length (nI A) (nC A) B.length (nI B) (nC B)
  rw [hX] at HI HS hx60
  have hx9 : X.length ≤ 1048576 := by omega
  cases hA : M.batch A.length (nI A) (nC A)
  · rw [hA] at HVA
    clear hX hA
    go_wp2_with fail
    refine (HI.out _ LA.out LB.out).mono ?_
    rintro e v1 ⟨p1, rfl, r1, k1⟩
    replace BL := Lib.hid (step BL.out k1)
    replace LA := Lib.hid (LA.out.on k1)
    replace LB := Lib.hid (LB.out.on k1)
    have R1 := Lib.hid r1
    clear k1
    obtain ⟨a4, c4, rfl, _⟩ := r1.cells
    clear r1
    go_wp2_with fail
    refine (HS.out _ LA.out LB.out).mono ?_
    rintro e v2 ⟨p2, rfl, r2, k2⟩
    replace BL := Lib.hid (step BL.out k2)
    replace LA := Lib.hid (LA.out.on k2)
    replace LB := Lib.hid (LB.out.on k2)
    replace R1 := Lib.hid (R1.out.on k2)
    have R2 := Lib.hid r2
    clear k2
    obtain ⟨a5, c5, rfl, _⟩ := r2.cells
    clear r2
    go_wp2_with fail
    refine (soInts_same _ _ _ _ _ X R1.out R2.out hx9).mono ?_
    rintro e v3 ⟨rfl, k3⟩
    replace BL := Lib.hid (step BL.out k3)
    replace LA := Lib.hid (LA.out.on k3)
    replace LB := Lib.hid (LB.out.on k3)
    replace R1 := Lib.hid (R1.out.on k3)
    replace R2 := Lib.hid (R2.out.on k3)
    clear k3
    clear R2
    go_wp2_with fail
    refine (HVA.out _ LA.out).mono ?_
    rintro e v4 ⟨rfl, k4⟩
    replace BL := Lib.hid (step BL.out k4)
    replace LA := Lib.hid (LA.out.on k4)
    replace LB := Lib.hid (LB.out.on k4)
    replace R1 := Lib.hid (R1.out.on k4)
    clear k4
    go_wp2_with fail
    refine (HS.out _ LA.out LB.out).mono ?_
    rintro e v5 ⟨p3, rfl, r3, k5⟩
    replace BL := Lib.hid (step BL.out k5)
    replace LA := Lib.hid (LA.out.on k5)
    replace LB := Lib.hid (LB.out.on k5)
    replace R1 := Lib.hid (R1.out.on k5)
    have R3 := Lib.hid r3
    clear k5
    obtain ⟨a6, c6, rfl, _⟩ := r3.cells
    clear r3
    go_wp2_with fail
    refine (soInts_same _ _ _ _ _ X R1.out R3.out hx9).mono ?_
    rintro e v6 ⟨rfl, k6⟩
    replace BL := Lib.hid (step BL.out k6)
    replace LA := Lib.hid (LA.out.on k6)
    replace LB := Lib.hid (LB.out.on k6)
    replace R1 := Lib.hid (R1.out.on k6)
    replace R3 := Lib.hid (R3.out.on k6)
    clear k6
    go_wp2
    go_ret
    exact ⟨rfl, BL.out⟩
  · cases hB : M.batch B.length (nI B) (nC B)
    · rw [hA] at HVA
      rw [hB] at HVB
      clear hX hA hB
      go_wp2_with fail
      refine (HI.out _ LA.out LB.out).mono ?_
      rintro e v1 ⟨p1, rfl, r1, k1⟩
      replace BL := Lib.hid (step BL.out k1)
      replace LA := Lib.hid (LA.out.on k1)
      replace LB := Lib.hid (LB.out.on k1)
      have R1 := Lib.hid r1
      clear k1
      obtain ⟨a4, c4, rfl, _⟩ := r1.cells
      clear r1
      go_wp2_with fail
      refine (HS.out _ LA.out LB.out).mono ?_
      rintro e v2 ⟨p2, rfl, r2, k2⟩
      replace BL := Lib.hid (step BL.out k2)
      replace LA := Lib.hid (LA.out.on k2)
      replace LB := Lib.hid (LB.out.on k2)
      replace R1 := Lib.hid (R1.out.on k2)
      have R2 := Lib.hid r2
      clear k2
      obtain ⟨a5, c5, rfl, _⟩ := r2.cells
      clear r2
      go_wp2_with fail
      refine (soInts_same _ _ _ _ _ X R1.out R2.out hx9).mono ?_
      rintro e v3 ⟨rfl, k3⟩
      replace BL := Lib.hid (step BL.out k3)
      replace LA := Lib.hid (LA.out.on k3)
      replace LB := Lib.hid (LB.out.on k3)
      replace R1 := Lib.hid (R1.out.on k3)
      replace R2 := Lib.hid (R2.out.on k3)
      clear k3
      clear R2
      go_wp2_with fail
      refine (HVA.out _ LA.out).mono ?_
      rintro e v4 ⟨rfl, k4⟩
      replace BL := Lib.hid (step BL.out k4)
      replace LA := Lib.hid (LA.out.on k4)
      replace LB := Lib.hid (LB.out.on k4)
      replace R1 := Lib.hid (R1.out.on k4)
      clear k4
      go_wp2_with fail
      refine (HVB.out _ LB.out).mono ?_
      rintro e v5 ⟨rfl, k5⟩
      replace BL := Lib.hid (step BL.out k5)
      replace LA := Lib.hid (LA.out.on k5)
      replace LB := Lib.hid (LB.out.on k5)
      replace R1 := Lib.hid (R1.out.on k5)
      clear k5
      go_wp2_with fail
      refine (HS.out _ LA.out LB.out).mono ?_
      rintro e v6 ⟨p3, rfl, r3, k6⟩
      replace BL := Lib.hid (step BL.out k6)
      replace LA := Lib.hid (LA.out.on k6)
      replace LB := Lib.hid (LB.out.on k6)
      replace R1 := Lib.hid (R1.out.on k6)
      have R3 := Lib.hid r3
      clear k6
      obtain ⟨a6, c6, rfl, _⟩ := r3.cells
      clear r3
      go_wp2_with fail
      refine (soInts_same _ _ _ _ _ X R1.out R3.out hx9).mono ?_
      rintro e v7 ⟨rfl, k7⟩
      replace BL := Lib.hid (step BL.out k7)
      replace LA := Lib.hid (LA.out.on k7)
      replace LB := Lib.hid (LB.out.on k7)
      replace R1 := Lib.hid (R1.out.on k7)
      replace R3 := Lib.hid (R3.out.on k7)
      clear k7
      go_wp2
      go_ret
      exact ⟨rfl, BL.out⟩
    · have bA := (batchL_list A).1 hA
      have bB := (batchL_list B).1 hB
      obtain ⟨Y, hY⟩ : ∃ Y, M.missing B.length (nI B) (nC B) A.length (nI A) (nC A) = Y := ⟨_, rfl⟩
      obtain ⟨m1, m2, m3, m4, m5, m6⟩ := miss_law bA bB hX hY
      have h60a := bA.2.2
      have h60b := bB.2.2
      have HJ := Lib.hid (fun W ha hb => impl_MissingIds W a2 B.length c2 (nI B) (nC B) hb FB.out a A.length c (nI A) (nC A) ha FA.out)
      rw [hY] at HJ
      rw [hA] at HVA
      rw [hB] at HVB
      have hbr : BatchL A.reverse := bA.perm (List.reverse_perm A).symm
      have hlr : A.reverse.length = A.length := by simp
      have hfr := hbr.fits
      rw [hlr] at hfr
      have hHT := fun W h => soTurned_any W a A.length c (nI A) (nC A) h na
      rw [lst_nI] at hHT
      obtain ⟨RV, hRV⟩ : ∃ R, A.reverse = R := ⟨_, rfl⟩
      rw [hRV] at hlr hfr hHT m6
      have HK := Lib.hid (fun W a9 c9 ha hb => impl_MissingIds W a A.length c (nI A) (nC A) ha FA.out a9 A.length c9 (nI RV) (nC RV) hb hfr)
      rw [m6] at HK
      have HHT := Lib.hid hHT
      have HLR := Lib.hid hlr
      have M1 := Lib.hid m1
      have M2 := Lib.hid m2
      have HPA := Lib.hid (fun W h x => soPlace_any W a A.length c (nI A) (nC A) h FA.out x)
      have HPB := Lib.hid (fun W h x => soPlace_any W a2 B.length c2 (nI B) (nC B) h FB.out x)
      clear hX hY hA hB bA bB m1 m2 m6 hbr hlr hfr hHT hRV
      go_wp2_with fail
      refine (HI.out _ LA.out LB.out).mono ?_
      rintro e v1 ⟨p1, rfl, r1, k1⟩
      replace BL := Lib.hid (step BL.out k1)
      replace LA := Lib.hid (LA.out.on k1)
      replace LB := Lib.hid (LB.out.on k1)
      have R1 := Lib.hid r1
      clear k1
      obtain ⟨a4, c4, rfl, _⟩ := r1.cells
      clear r1
      go_wp2_with fail
      refine (HS.out _ LA.out LB.out).mono ?_
      rintro e v2 ⟨p2, rfl, r2, k2⟩
      replace BL := Lib.hid (step BL.out k2)
      replace LA := Lib.hid (LA.out.on k2)
      replace LB := Lib.hid (LB.out.on k2)
      replace R1 := Lib.hid (R1.out.on k2)
      have R2 := Lib.hid r2
      clear k2
      obtain ⟨a5, c5, rfl, _⟩ := r2.cells
      clear r2
      go_wp2_with fail
      refine (soInts_same _ _ _ _ _ X R1.out R2.out hx9).mono ?_
      rintro e v3 ⟨rfl, k3⟩
      replace BL := Lib.hid (step BL.out k3)
      replace LA := Lib.hid (LA.out.on k3)
      replace LB := Lib.hid (LB.out.on k3)
      replace R1 := Lib.hid (R1.out.on k3)
      replace R2 := Lib.hid (R2.out.on k3)
      clear k3
      clear R2
      go_wp2_with fail
      refine (HVA.out _ LA.out).mono ?_
      rintro e v4 ⟨rfl, k4⟩
      replace BL := Lib.hid (step BL.out k4)
      replace LA := Lib.hid (LA.out.on k4)
      replace LB := Lib.hid (LB.out.on k4)
      replace R1 := Lib.hid (R1.out.on k4)
      clear k4
      go_wp2_with fail
      refine (HVB.out _ LB.out).mono ?_
      rintro e v5 ⟨rfl, k5⟩
      replace BL := Lib.hid (step BL.out k5)
      replace LA := Lib.hid (LA.out.on k5)
      replace LB := Lib.hid (LB.out.on k5)
      replace R1 := Lib.hid (R1.out.on k5)
      clear k5
      go_wp2_with fail
      refine (HJ.out _ LA.out LB.out).mono ?_
      rintro e v6 ⟨p3, rfl, r3, k6⟩
      replace BL := Lib.hid (step BL.out k6)
      replace LA := Lib.hid (LA.out.on k6)
      replace LB := Lib.hid (LB.out.on k6)
      replace R1 := Lib.hid (R1.out.on k6)
      clear k6
      obtain ⟨a6, c6, rfl, _⟩ := r3.cells
      clear r3
      have HV6 := Lib.hid BL.out
      clear BL HVA HVB HI HS HJ
      obtain ⟨Z, hZ⟩ : ∃ Z, v6 = Z := ⟨_, rfl⟩
      rw [hZ] at LA LB R1 HV6 ⊢
      clear hZ
      go_wp2
      go_loopw [7] (fun vi wr => ∃ (k : Nat), k ≤ X.length ∧ vi = .int .i64 k ∧ Hid (Below Z.heap.size Z wr)) (fun vi _ => X.length - (intOf vi).toNat)
      case atStart => exact ⟨0, Nat.zero_le _, rfl, Below.refl _ _⟩
      case round =>
        obtain ⟨k, hk, rfl, hbw⟩ := hrel
        have LA2 := Lib.hid (LA.out.on hbw.out)
        have LB2 := Lib.hid (LB.out.on hbw.out)
        by_cases hlt : k < X.length
        · have hki : (k : Int) < (X.length : Int) := by omega
          have hk0 : (0 : Int) ≤ (k : Int) := by omega
          obtain ⟨f0, f1, f2⟩ := M1.out k hlt
          obtain ⟨a9, c9, e9, hcl⟩ := (R1.out.on hbw.out).cells
          injection e9 with q1 q2 q3
          subst q1
          obtain ⟨g4, hg4, t0⟩ := hcl k hlt
          subst hg4
          have hprev : ∀ j, k = j + 1 → ∃ y, y < X[k] ∧ wr.cell? ⟨g4, j, none⟩ = some (.int .i64 y) := fun j e => by
            subst e
            obtain ⟨g9, e9, t9⟩ := hcl j (by omega)
            injection e9 with e9
            injection e9 with e9
            subst e9
            exact ⟨_, M2.out j hlt, t9⟩
          clear hcl q2 q3
          generalize X[k] = x at t0 f0 f1 f2 hprev
          obtain ⟨P, hP⟩ : ∃ P, M.findLetter A.length (nI A) (nC A) x = P := ⟨_, rfl⟩
          rw [hP] at f0 f1
          have HP := Lib.hid hP
          have HQ := Lib.hid f2
          have HCA : Hid (∀ W, Below wr.heap.size wr W → Calls Try.prog 17 #[.slice a A.length c, .int .i64 x] W fun e w' => e = .returned (.int .i64 P) ∧ Below W.heap.size W w') := fun W h => by
            have := HPA.out W (LA2.out.on h) x
            rw [HP.out] at this
            exact this
          have HCB : Hid (∀ W, Below wr.heap.size wr W → Calls Try.prog 17 #[.slice a2 B.length c2, .int .i64 x] W fun e w' => e = .returned (.int .i64 (-1)) ∧ Below W.heap.size W w') := fun W h => by
            have := HPB.out W (LB2.out.on h) x
            rw [HQ.out] at this
            exact this
          have p1 : ¬ P < 0 := by omega
          have p2 : decide (P < 0) = false := decide_eq_false p1
          have p3 : ¬ (0 : Int) ≤ -1 := by decide
          have lb4 := World.block_lt_of_cell? _ _ t0
          have KL : Below wr.heap.size wr wr := Below.refl _ _
          clear hP f2 HP HQ
          by_cases h0 : k = 0
          · subst h0
            have hi00 : ¬ (0 : Int) < 0 := by omega
            have s0 : wr.cell? ⟨g4, 0, none⟩ = some (.int .i64 x) := t0
            clear t0 hprev
            go_wp2_with fail
            refine wp_region_noPanic ?_
            refine wp_region_held_drew (S := fun w' => w'.cell? ⟨g4, 0, none⟩ = some (.int .i64 x)) (by kernel_rfl) (by exact s0) (fun hHeld => ?_)
            refine wpAnyH_take (i := 0) (oi := ⟨some 49, _, _, _, _, _⟩) (v := .slice a A.length c) rfl (by kernel_rfl) (by kernel_rfl) (by kernel_rfl) (fun _ _ _ h => h) (Or.inl ⟨by first | rfl | kernel_rfl, ?_⟩) (by assumption) ?_
            · intro w' hSw
              have c0 := hSw
              go_simp
            try simp only [Act.put, List.setIfInBounds_toArray, List.set_cons_zero, List.set_cons_succ]
            refine wpAnyH_take (i := 1) (oi := ⟨some 50, _, _, _, _, _⟩) (v := .slice (some ⟨g4, 0, none⟩) X.length c4) rfl (by kernel_rfl) (by kernel_rfl) (by kernel_rfl) (fun _ _ _ h => h) (Or.inl ⟨by first | rfl | kernel_rfl, ?_⟩) (by assumption) ?_
            · intro w' hSw
              have c0 := hSw
              go_simp
            try simp only [Act.put, List.setIfInBounds_toArray, List.set_cons_zero, List.set_cons_succ]
            refine wpAnyH_take (i := 2) (oi := ⟨some 51, _, _, _, _, _⟩) (v := .int .i64 0) rfl (by kernel_rfl) (by kernel_rfl) (by kernel_rfl) (fun _ _ _ h => h) (Or.inl ⟨by first | rfl | kernel_rfl, ?_⟩) (by assumption) ?_
            · intro w' hSw
              have c0 := hSw
              go_simp
            try simp only [Act.put, List.setIfInBounds_toArray, List.set_cons_zero, List.set_cons_succ]
            refine wpAnyH_take (i := 3) (oi := ⟨some 52, _, _, _, _, _⟩) (v := .pointer (some ⟨g4, 0, none⟩)) rfl (by kernel_rfl) (by kernel_rfl) (by kernel_rfl) (fun _ _ _ h => h) (Or.inl ⟨by first | rfl | kernel_rfl, ?_⟩) (by assumption) ?_
            · intro w' hSw
              have c0 := hSw
              go_simp
            try simp only [Act.put, List.setIfInBounds_toArray, List.set_cons_zero, List.set_cons_succ]
            refine wpAnyH_take (i := 4) (oi := ⟨some 53, _, _, _, _, _⟩) (v := .int .i64 x) rfl (by kernel_rfl) (by kernel_rfl) (by kernel_rfl) (fun _ _ _ h => h) (Or.inl ⟨by first | rfl | kernel_rfl, ?_⟩) (by assumption) ?_
            · intro w' hSw
              have c0 := hSw
              go_simp
            try simp only [Act.put, List.setIfInBounds_toArray, List.set_cons_zero, List.set_cons_succ]
            refine wpAnyH_ready (rs := [5]) (by kernel_rfl) (by simp) ?_
            refine AllReadyH.cons (o := ⟨some 54, _, _, _, _, _⟩) rfl (fun K hK => ?_) AllReadyH.nil
            go_simp
            refine (HCA.out _ (sstep KL (by go_grown))).mono ?_
            rintro e w8 ⟨rfl, k8⟩
            have KL : Below wr.heap.size wr w8 := sstep (sstep KL (by go_grown)) k8
            have s8 : w8.cell? ⟨g4, 0, none⟩ = some (.int .i64 x) := (KL.cell (p := ⟨g4, 0, none⟩) lb4).trans s0
            refine hK.out _ _ s8 (fun hHeld => ?_)
            clear hK K
            try simp only [Act.put, List.setIfInBounds_toArray, List.set_cons_zero, List.set_cons_succ]
            refine wpAnyH_take (i := 6) (oi := ⟨some 55, _, _, _, _, _⟩) (v := .bool false) rfl (by kernel_rfl) (by kernel_rfl) (by kernel_rfl) (fun _ _ _ h => h) (Or.inl ⟨by first | rfl | kernel_rfl, ?_⟩) (by assumption) ?_
            · intro w' hSw
              have c0 := hSw
              go_simp
            try simp only [Act.put, List.setIfInBounds_toArray, List.set_cons_zero, List.set_cons_succ]
            refine wpAnyH_take (i := 7) (oi := ⟨some 56, _, _, _, _, _⟩) (v := .bool false) rfl (by kernel_rfl) (by kernel_rfl) (by kernel_rfl) (fun _ _ _ h => h) (Or.inl ⟨by first | rfl | kernel_rfl, ?_⟩) (by assumption) ?_
            · intro w' hSw
              have c0 := hSw
              go_simp
            try simp only [Act.put, List.setIfInBounds_toArray, List.set_cons_zero, List.set_cons_succ]
            refine wpAnyH_take (i := 8) (oi := ⟨some 57, _, _, _, _, _⟩) (v := .slice a2 B.length c2) rfl (by kernel_rfl) (by kernel_rfl) (by kernel_rfl) (fun _ _ _ h => h) (Or.inl ⟨by first | rfl | kernel_rfl, ?_⟩) (by assumption) ?_
            · intro w' hSw
              have c0 := hSw
              go_simp
            try simp only [Act.put, List.setIfInBounds_toArray, List.set_cons_zero, List.set_cons_succ]
            refine wpAnyH_take (i := 9) (oi := ⟨some 58, _, _, _, _, _⟩) (v := .slice (some ⟨g4, 0, none⟩) X.length c4) rfl (by kernel_rfl) (by kernel_rfl) (by kernel_rfl) (fun _ _ _ h => h) (Or.inl ⟨by first | rfl | kernel_rfl, ?_⟩) (by assumption) ?_
            · intro w' hSw
              have c0 := hSw
              go_simp
            try simp only [Act.put, List.setIfInBounds_toArray, List.set_cons_zero, List.set_cons_succ]
            refine wpAnyH_take (i := 10) (oi := ⟨some 59, _, _, _, _, _⟩) (v := .int .i64 0) rfl (by kernel_rfl) (by kernel_rfl) (by kernel_rfl) (fun _ _ _ h => h) (Or.inl ⟨by first | rfl | kernel_rfl, ?_⟩) (by assumption) ?_
            · intro w' hSw
              have c0 := hSw
              go_simp
            try simp only [Act.put, List.setIfInBounds_toArray, List.set_cons_zero, List.set_cons_succ]
            refine wpAnyH_take (i := 11) (oi := ⟨some 60, _, _, _, _, _⟩) (v := .pointer (some ⟨g4, 0, none⟩)) rfl (by kernel_rfl) (by kernel_rfl) (by kernel_rfl) (fun _ _ _ h => h) (Or.inl ⟨by first | rfl | kernel_rfl, ?_⟩) (by assumption) ?_
            · intro w' hSw
              have c0 := hSw
              go_simp
            try simp only [Act.put, List.setIfInBounds_toArray, List.set_cons_zero, List.set_cons_succ]
            refine wpAnyH_take (i := 12) (oi := ⟨some 61, _, _, _, _, _⟩) (v := .int .i64 x) rfl (by kernel_rfl) (by kernel_rfl) (by kernel_rfl) (fun _ _ _ h => h) (Or.inl ⟨by first | rfl | kernel_rfl, ?_⟩) (by assumption) ?_
            · intro w' hSw
              have c0 := hSw
              go_simp
            try simp only [Act.put, List.setIfInBounds_toArray, List.set_cons_zero, List.set_cons_succ]
            refine wpAnyH_ready (rs := [13]) (by kernel_rfl) (by simp) ?_
            refine AllReadyH.cons (o := ⟨some 62, _, _, _, _, _⟩) rfl (fun K hK => ?_) AllReadyH.nil
            go_simp
            refine (HCB.out _ (sstep KL (by go_grown))).mono ?_
            rintro e w9 ⟨rfl, k9⟩
            have KL : Below wr.heap.size wr w9 := sstep (sstep KL (by go_grown)) k9
            have s9 : w9.cell? ⟨g4, 0, none⟩ = some (.int .i64 x) := (KL.cell (p := ⟨g4, 0, none⟩) lb4).trans s0
            refine hK.out _ _ s9 (fun hHeld => ?_)
            clear hK K
            try simp only [Act.put, List.setIfInBounds_toArray, List.set_cons_zero, List.set_cons_succ]
            refine wpAnyH_take (i := 14) (oi := ⟨some 63, _, _, _, _, _⟩) (v := .bool false) rfl (by kernel_rfl) (by kernel_rfl) (by kernel_rfl) (fun _ _ _ h => h) (Or.inl ⟨by first | rfl | kernel_rfl, ?_⟩) (by assumption) ?_
            · intro w' hSw
              have c0 := hSw
              go_simp
            try simp only [Act.put, List.setIfInBounds_toArray, List.set_cons_zero, List.set_cons_succ]
            refine wpAnyH_take (i := 15) (oi := ⟨some 64, _, _, _, _, _⟩) (v := .bool false) rfl (by kernel_rfl) (by kernel_rfl) (by kernel_rfl) (fun _ _ _ h => h) (Or.inl ⟨by kernel_rfl, fun _ _ => by kernel_rfl⟩) (by assumption) ?_
            try simp only [Act.put, List.setIfInBounds_toArray, List.set_cons_zero, List.set_cons_succ]
            refine wpAnyH_take (i := 16) (oi := ⟨some 65, _, _, _, _, _⟩) (v := .bool false) rfl (by kernel_rfl) (by kernel_rfl) (by kernel_rfl) (fun _ _ _ h => h) (Or.inl ⟨by kernel_rfl, fun _ _ => by kernel_rfl⟩) (by assumption) ?_
            try simp only [Act.put, List.setIfInBounds_toArray, List.set_cons_zero, List.set_cons_succ]
            refine wpAnyH_take (i := 17) (oi := ⟨some 66, _, _, _, _, _⟩) (v := .int .i64 0) rfl (by kernel_rfl) (by kernel_rfl) (by kernel_rfl) (fun _ _ _ h => h) (Or.inl ⟨by first | rfl | kernel_rfl, ?_⟩) (by assumption) ?_
            · intro w' hSw
              have c0 := hSw
              go_simp
            try simp only [Act.put, List.setIfInBounds_toArray, List.set_cons_zero, List.set_cons_succ]
            refine wpAnyH_take (i := 18) (oi := ⟨some 67, _, _, _, _, _⟩) (v := .bool false) rfl (by kernel_rfl) (by kernel_rfl) (by kernel_rfl) (fun _ _ _ h => h) (Or.inl ⟨by first | rfl | kernel_rfl, ?_⟩) (by assumption) ?_
            · intro w' hSw
              have c0 := hSw
              go_simp
            try simp only [Act.put, List.setIfInBounds_toArray, List.set_cons_zero, List.set_cons_succ]
            refine wpAnyH_take (i := 19) (oi := ⟨some 68, _, _, _, _, _⟩) (v := .bool false) rfl (by kernel_rfl) (by kernel_rfl) (by kernel_rfl) (fun _ _ _ h => h) (Or.inl ⟨by first | rfl | kernel_rfl, ?_⟩) (by assumption) ?_
            · intro w' hSw
              have c0 := hSw
              go_simp
            try simp only [Act.put, List.setIfInBounds_toArray, List.set_cons_zero, List.set_cons_succ]
            refine wpAnyH_take (i := 20) (oi := ⟨some 69, _, _, _, _, _⟩) (v := undef) rfl (by kernel_rfl) (by kernel_rfl) (by kernel_rfl) (fun _ _ _ h => h) (Or.inr ⟨by kernel_rfl, rfl⟩) (by assumption) ?_
            try simp only [Act.put, List.setIfInBounds_toArray, List.set_cons_zero, List.set_cons_succ]
            refine wpAnyH_take (i := 21) (oi := ⟨some 70, _, _, _, _, _⟩) (v := undef) rfl (by kernel_rfl) (by kernel_rfl) (by kernel_rfl) (fun _ _ _ h => h) (Or.inr ⟨by kernel_rfl, rfl⟩) (by assumption) ?_
            try simp only [Act.put, List.setIfInBounds_toArray, List.set_cons_zero, List.set_cons_succ]
            refine wpAnyH_take (i := 22) (oi := ⟨some 71, _, _, _, _, _⟩) (v := undef) rfl (by kernel_rfl) (by kernel_rfl) (by kernel_rfl) (fun _ _ _ h => h) (Or.inr ⟨by kernel_rfl, rfl⟩) (by assumption) ?_
            try simp only [Act.put, List.setIfInBounds_toArray, List.set_cons_zero, List.set_cons_succ]
            refine wpAnyH_take (i := 23) (oi := ⟨some 72, _, _, _, _, _⟩) (v := undef) rfl (by kernel_rfl) (by kernel_rfl) (by kernel_rfl) (fun _ _ _ h => h) (Or.inr ⟨by kernel_rfl, rfl⟩) (by assumption) ?_
            try simp only [Act.put, List.setIfInBounds_toArray, List.set_cons_zero, List.set_cons_succ]
            refine wpAnyH_take (i := 24) (oi := ⟨some 73, _, _, _, _, _⟩) (v := undef) rfl (by kernel_rfl) (by kernel_rfl) (by kernel_rfl) (fun _ _ _ h => h) (Or.inr ⟨by kernel_rfl, rfl⟩) (by assumption) ?_
            try simp only [Act.put, List.setIfInBounds_toArray, List.set_cons_zero, List.set_cons_succ]
            refine wpAnyH_take (i := 25) (oi := ⟨some 74, _, _, _, _, _⟩) (v := undef) rfl (by kernel_rfl) (by kernel_rfl) (by kernel_rfl) (fun _ _ _ h => h) (Or.inr ⟨by kernel_rfl, rfl⟩) (by assumption) ?_
            try simp only [Act.put, List.setIfInBounds_toArray, List.set_cons_zero, List.set_cons_succ]
            refine wpAnyH_take (i := 26) (oi := ⟨some 75, _, _, _, _, _⟩) (v := undef) rfl (by kernel_rfl) (by kernel_rfl) (by kernel_rfl) (fun _ _ _ h => h) (Or.inr ⟨by kernel_rfl, rfl⟩) (by assumption) ?_
            try simp only [Act.put, List.setIfInBounds_toArray, List.set_cons_zero, List.set_cons_succ]
            refine wpAnyH_take (i := 27) (oi := ⟨some 76, _, _, _, _, _⟩) (v := undef) rfl (by kernel_rfl) (by kernel_rfl) (by kernel_rfl) (fun _ _ _ h => h) (Or.inr ⟨by kernel_rfl, rfl⟩) (by assumption) ?_
            try simp only [Act.put, List.setIfInBounds_toArray, List.set_cons_zero, List.set_cons_succ]
            refine wpAnyH_take (i := 28) (oi := ⟨some 77, _, _, _, _, _⟩) (v := undef) rfl (by kernel_rfl) (by kernel_rfl) (by kernel_rfl) (fun _ _ _ h => h) (Or.inr ⟨by kernel_rfl, rfl⟩) (by assumption) ?_
            try simp only [Act.put, List.setIfInBounds_toArray, List.set_cons_zero, List.set_cons_succ]
            refine wpAnyH_take (i := 29) (oi := ⟨some 78, _, _, _, _, _⟩) (v := undef) rfl (by kernel_rfl) (by kernel_rfl) (by kernel_rfl) (fun _ _ _ h => h) (Or.inr ⟨by kernel_rfl, rfl⟩) (by assumption) ?_
            try simp only [Act.put, List.setIfInBounds_toArray, List.set_cons_zero, List.set_cons_succ]
            refine wpAnyH_take (i := 30) (oi := ⟨some 79, _, _, _, _, _⟩) (v := .bool false) rfl (by kernel_rfl) (by kernel_rfl) (by kernel_rfl) (fun _ _ _ h => h) (Or.inl ⟨by kernel_rfl, fun _ _ => by kernel_rfl⟩) (by assumption) ?_
            try simp only [Act.put, List.setIfInBounds_toArray, List.set_cons_zero, List.set_cons_succ]
            refine wpAnyH_take (i := 31) (oi := ⟨some 80, _, _, _, _, _⟩) (v := .bool false) rfl (by kernel_rfl) (by kernel_rfl) (by kernel_rfl) (fun _ _ _ h => h) (Or.inl ⟨by kernel_rfl, fun _ _ => by kernel_rfl⟩) (by assumption) ?_
            try simp only [Act.put, List.setIfInBounds_toArray, List.set_cons_zero, List.set_cons_succ]
            refine wpAnyH_done (by kernel_rfl) ?_ _
            refine NoPanic.normal ?_
            have B9 := Lib.hid (sstep hbw.out KL)
            clear k8 k9 s0 s8 s9 KL hHeld
            go_wp2
            go_roundw
            case rel => exact ⟨0 + 1, by omega, by go_num, by first | exact B9.out | exact below_drewS B9.out _⟩
            case measure => first | (simp [intOf]; done) | (simp [intOf]; omega)
          · obtain ⟨j, hj⟩ : ∃ j, k = j + 1 := ⟨k - 1, by omega⟩
            obtain ⟨y, hy, t2⟩ := hprev j hj
            have hjw : IntKind.i64.wrap ((k : Int) - 1) = (j : Int) := (IntWalk.i64_in _ (by omega)).trans (by omega)
            have hj0 : (0 : Int) ≤ (j : Int) := by omega
            have hj1 : (j : Int) < (X.length : Int) := by omega
            have hi1i : (0 : Int) < (k : Int) := by omega
            have hi1n : 0 < k := by omega
            have hi1d : decide ((0 : Int) < (k : Int)) = true := decide_eq_true hi1i
            have hy1 : ¬ x ≤ y := by omega
            have hy2 : decide (x ≤ y) = false := decide_eq_false hy1
            have s0 : wr.cell? ⟨g4, k, none⟩ = some (.int .i64 x) ∧ wr.cell? ⟨g4, j, none⟩ = some (.int .i64 y) := ⟨t0, t2⟩
            clear t0 t2 hprev hy hj h0
            go_wp2_with fail
            go_region_held3 (fun w' => w'.cell? ⟨g4, k, none⟩ = some (.int .i64 x) ∧ w'.cell? ⟨g4, j, none⟩ = some (.int .i64 y)) (first | exact s0 | exact s8 | exact s9) (first
              | (go_at_call_of 17 (Value.slice a A.length c); refine (HCA.out _ (sstep KL (by go_grown))).mono ?_; rintro e w8 ⟨rfl, k8⟩; have KL : Below wr.heap.size wr w8 := (by exact sstep (sstep KL (by go_grown)) k8); have s8 : w8.cell? ⟨g4, k, none⟩ = some (.int .i64 x) ∧ w8.cell? ⟨g4, j, none⟩ = some (.int .i64 y) := ⟨(KL.cell (p := ⟨g4, k, none⟩) lb4).trans s0.1, (KL.cell (p := ⟨g4, j, none⟩) lb4).trans s0.2⟩)
              | (go_at_call_of 17 (Value.slice a2 B.length c2); refine (HCB.out _ (sstep KL (by go_grown))).mono ?_; rintro e w9 ⟨rfl, k9⟩; have KL : Below wr.heap.size wr w9 := (by exact sstep (sstep KL (by go_grown)) k9); have s9 : w9.cell? ⟨g4, k, none⟩ = some (.int .i64 x) ∧ w9.cell? ⟨g4, j, none⟩ = some (.int .i64 y) := ⟨(KL.cell (p := ⟨g4, k, none⟩) lb4).trans s0.1, (KL.cell (p := ⟨g4, j, none⟩) lb4).trans s0.2⟩))
            all_goals
              have B9 := Lib.hid (sstep hbw.out KL)
              clear k8 k9 s0 s8 s9 KL
              go_wp2
              go_roundw
              case rel => exact ⟨k + 1, by omega, by go_num, by first | exact B9.out | exact below_drewS B9.out _⟩
              case measure => first | (simp [intOf]; done) | (simp [intOf]; omega)
        · obtain rfl : k = X.length := by omega
          obtain ⟨D, hD⟩ : ∃ D, (A.length : Int) - (X.length : Int) = D := ⟨_, rfl⟩
          have d1 : IntKind.i64.wrap ((A.length : Int) - (X.length : Int)) = D := (IntWalk.i64_in _ (by omega)).trans hD
          have d2 : IntKind.i64.wrap ((B.length : Int) - (Y.length : Int)) = D := (IntWalk.i64_in _ (by omega)).trans (by omega)
          have d3 : (D == D) = true := by simp
          have LA3 := LA2
          clear hD
          go_wp2_with fail
          refine (HHT.out wr LA2.out).mono ?_
          rintro e w1 ⟨p9, rfl, r9, k9⟩
          obtain ⟨a9, c9, rfl, _, l9⟩ := r9.form
          rw [HLR.out] at l9 ⊢
          have L9 := Lib.hid l9
          have B1 := Lib.hid (step hbw.out k9)
          have LA4 := Lib.hid (LA2.out.on k9)
          clear r9 k9 l9
          go_wp2_with fail
          refine (HK.out w1 a9 c9 LA4.out L9.out).mono ?_
          rintro e w2 ⟨p8, rfl, r8, k8⟩
          obtain ⟨a8, c8, rfl, _⟩ := r8.cells
          have B2 := Lib.hid (step B1.out k8)
          clear r8 k8
          go_wp2
          go_ret
          exact ⟨rfl, step HV6.out B2.out⟩

set_option maxRecDepth 100000 in
theorem lifted (os : Os) (started : os.Started) (H : Type) (enc : TypeId × Value → H) :
    ReturnsInHanded {} Try.checked os 4 .any (Rows.fnMissingSpec.pre6 enc Try.prog Try.f4 Rows.fnMissingRow.domain false) (Rows.fnMissingSpec.post enc Try.prog Try.f4 false true false false) := by
  refine returnsInHanded_of_change (C := Try.checked) own started (by kernel_rfl) Try.func4
    (ChangeSpec.witness6 (enc := enc) (C := Try.checked) false ⟨#[], #[.slice none 0 0], []⟩ 8 (by kernel_rfl) (by kernel_rfl) (by kernel_rfl) (by kernel_rfl)) ?_
  intro W base args ds gs before hval0 hW hcnd _
  have hval : ∀ (j : Nat) t v, Try.f4.params[j]? = some t → args[j]? = some v → Value.okWide Try.prog W .any base t v := hval0
  have hW' := hW
  obtain ⟨p, q, hA0, hV, rfl, hfz, hnd⟩ := hW
  have hA : DataW.TrodAll enc Try.prog W 0 (fun _ => true) true Try.f4.params.toList args.toList ds p := hA0
  rw [Try.params4] at hA hval
  obtain ⟨v0, vs0, d0, ds0, p0, q0, hargs, rfl, rfl, h0, r0⟩ := trodAll_cons hA
  obtain ⟨rfl, rfl, rfl⟩ := trodAll_nil r0
  obtain rfl : args = #[v0] := by cases args; simp_all
  obtain ⟨rfl, rfl⟩ := trodVars_none hV
  have g0 := h0
  have lt0 : ∀ x ∈ p0, x.block < W.heap.size := by obtain ⟨m, hm⟩ := g0; exact DataW.trod_lt m _ _ _ hm
  obtain ⟨a0, l0, k0, rfl⟩ := okWide_slice Try.underlying22 (hval 0 22 v0 rfl rfl)
  obtain ⟨z0, w0⟩ : ∃ zs, IsRow .u8 W a0 l0 k0 zs := by
    obtain ⟨fuel, hf⟩ := h0
    rcases open_ints Try.underlying22 Try.underlying5 (by kernel_rfl) hf with ⟨hcs, _⟩ | ⟨x, l, c, zs, hcs, _, hl, hm, hz, _, hcell, hwz⟩
    · simp [Value.cells] at hcs
      obtain ⟨rfl, rfl, rfl⟩ := hcs
      exact ⟨[], .inl ⟨rfl, rfl, rfl, rfl⟩⟩
    · simp [Value.cells] at hcs
      obtain ⟨rfl, rfl, rfl⟩ := hcs
      exact ⟨zs, .inr ⟨_, rfl, hl, hm, by simpa using hz, hcell, hwz⟩⟩
  clear hA0 hval0
  refine (walk W a0 l0 k0 z0 w0).mono fun e W' ⟨he, bel⟩ => ?_
  subst he
  exact ⟨_, rfl, _, _, _, [], _, [], hW', trodAll_mk1 (shut_bool Try.underlying4 _), (trodAll_cons_mk (Below.trod laidOut (by kernel_rfl) (of_decide_eq_true (by kernel_rfl)) g0 bel lt0) trodAll_mk0), rfl, bel.frame _, fun h => by cases h⟩

theorem proved : Rows.FnMissingSaid :=
  OpenClaim.holds_of_wide 4 Try.f4 rfl rfl rfl rfl rfl rfl rfl ⟨rfl, rfl, rfl, rfl, rfl⟩ rfl rfl rfl rfl rfl (by kernel_rfl) Try.func4 (by kernel_rfl)
    (of_decide_eq_true (by kernel_rfl)) (by unfold Func.isWrapper; first | (rw [if_pos (by decide +kernel)]; kernel_rfl) | (rw [if_neg (by decide +kernel)]; exact ⟨rfl, rfl⟩))
    (fun os started H enc _ => lifted os started H enc)
#print axioms proved
end Go.Proofs.Ytlamckdnnnifcaa.fnMissing
