/-
  For every slice of bytes, laws.FnAddRule returns true.
-/
import Derived.Test.YtkbebpadbdhnhaaRows
import Derived.Test.YtkbebpadbdhnhaaDrawAr
import Derived.Test.YtkbebpadbdhnhaaAddR2
import Derived.Test.YtkbebpadbdhnhaaSoRu
import Derived.Test.YtkbebpadbdhnhaaSoPb
import Derived.Test.YtkbebpadbdhnhaaArM
import Derived.BigQuiet
import Derived.IntWalk
import Derived.Deep.RegionHeld3
import Derived.WalkKit
import Derived.ProofKit
import Derived.OpenShut
import Derived.ShutString
import Derived.ChangeOld
import Derived.Below
import Derived.Handy
import Derived.Lib.Hide
namespace Go.Proofs.Ytkbebpadbdhnhaa.fnAddRule
open Go.ChangeShapes Go.WideShapes Go.ChangeAt Go.RowKit
open Go.ChangeMaps (open_string shut_string)
open Go.PlainAid (bt get_bt bt_nonneg bt_le)
set_option linter.unusedVariables false

theorem own : ownKnob Try.prog.godebug = none := by kernel_rfl
theorem laidOut : laidOutB Try.prog = true := by kernel_rfl

set_option maxHeartbeats 8000000 in
set_option maxRecDepth 100000 in
theorem walk (w : World) (a0 : Option Addr) (l0 k0 : Nat) (z0 : List Int) (w0 : IsRow .u8 w a0 l0 k0 z0) :
    Calls Try.prog 3 #[.slice a0 l0 k0] w fun e w' => e = .returned (.bool true) ∧ Below w.heap.size w w' := by
  by_cases hl : 1048576 < l0
  · go_enter Try.func3, Try.ntmps3
    go_wp2
    go_ret
    exact ⟨rfl, Below.refl _ _⟩
  go_enter Try.func3, Try.ntmps3
  go_wp2_with fail
  refine (DrawAddRule_any a0 l0 k0 z0 w w0).mono ?_
  rintro e u ⟨v, p, y, rfl, hps, hys, a, cp, L, rfl, lt, fi, hn31, hsm, bl⟩
  have LT := Lib.hid lt
  have FI := Lib.hid fi
  have BL := Lib.hid bl
  have hpm : p.size ≤ maxLen := by unfold maxLen; omega
  have hym : y.size ≤ maxLen := by unfold maxLen; omega
  clear lt fi bl hsm
  obtain ⟨n, hn⟩ : ∃ n, L.length = n := ⟨_, rfl⟩
  rw [hn] at LT FI hn31 ⊢
  clear hn
  generalize nF L = F at LT FI
  generalize nT L = T at LT FI
  clear L
  have HI := Lib.hid (fun X hw => impl_AddRule X a n cp F T hw FI.out (by omega) p y hpm hym)
  have HS := Lib.hid (fun X hw => spec_AddRule X a n cp F T hw FI.out (by omega) p y hpm hym)
  have hz := M.addRL_le F T n p y
  have HLW := fun h => ar_law (F := F) (T := T) (n := n) (p := p) (y := y) h hps
  have hfit := fits_addR FI.out hpm hym
  obtain ⟨ok, hok⟩ : ∃ ok, M.addROk F T n p y = ok := ⟨_, rfl⟩
  rw [hok] at HI HS HLW
  cases ok
  · clear HLW hok hfit
    go_wp2_with fail
    refine (HI.out _ LT.out).mono ?_
    rintro e v1 ⟨p1, rfl, r1, k1⟩
    replace LT := Lib.hid (LT.out.on k1)
    replace BL := Lib.hid (step BL.out k1)
    have R1 := Lib.hid r1
    clear r1
    clear k1
    go_wp2_with fail
    refine (HS.out _ LT.out).mono ?_
    rintro e v2 ⟨p2, rfl, r2, k2⟩
    replace LT := Lib.hid (LT.out.on k2)
    replace BL := Lib.hid (step BL.out k2)
    replace R1 := Lib.hid (R1.out.on k2)
    have R2 := Lib.hid r2
    clear r2
    clear k2
    go_wp2_with fail
    refine (soRules_row _ _ _ _ _ _ R1.out R2.out (by omega)).mono ?_
    rintro e v3 ⟨rfl, k3⟩
    replace LT := Lib.hid (LT.out.on k3)
    replace BL := Lib.hid (step BL.out k3)
    replace R1 := Lib.hid (R1.out.on k3)
    replace R2 := Lib.hid (R2.out.on k3)
    clear k3
    go_wp2_with fail
    refine (soRules_row _ _ _ _ _ _ R1.out R2.out (by omega)).mono ?_
    rintro e v4 ⟨rfl, k4⟩
    replace LT := Lib.hid (LT.out.on k4)
    replace BL := Lib.hid (step BL.out k4)
    clear k4
    go_wp2
    go_ret
    exact ⟨rfl, BL.out⟩
  · obtain ⟨A, hA, hr, hrA, hlen, hlk, hok2, hag⟩ := HLW rfl
    clear HLW
    rw [hA] at HI HS hz
    have hraw : M.addRaw F T n p y = A := by rw [← hA]; exact (M.addR_yes hr (by unfold M.addROk at hok; rw [Bool.and_eq_true] at hok; exact hok.2)).2.symm
    rw [hraw] at hfit
    have FA := Lib.hid hfit
    have HLK := Lib.hid hlk
    have hA7 : Hid (∀ i, i < A.length → (nF A i).size ≤ 30) := fun i hi => by
      have := (M.prefix_digs ((M.rul_yes hrA).2 i hi).1).2
      omega
    have HRA := Lib.hid hrA
    clear hlk hr hA hraw hok hfit
    go_wp2_with fail
    refine (HI.out _ LT.out).mono ?_
    rintro e v1 ⟨p1, rfl, r1, k1⟩
    replace LT := Lib.hid (LT.out.on k1)
    replace BL := Lib.hid (step BL.out k1)
    have R1 := Lib.hid r1
    clear r1
    clear k1
    go_wp2_with fail
    refine (HS.out _ LT.out).mono ?_
    rintro e v2 ⟨p2, rfl, r2, k2⟩
    replace LT := Lib.hid (LT.out.on k2)
    replace BL := Lib.hid (step BL.out k2)
    replace R1 := Lib.hid (R1.out.on k2)
    have R2 := Lib.hid r2
    clear r2
    clear k2
    go_wp2_with fail
    refine (soRules_row _ _ _ _ _ _ R1.out R2.out (by omega)).mono ?_
    rintro e v3 ⟨rfl, k3⟩
    replace LT := Lib.hid (LT.out.on k3)
    replace BL := Lib.hid (step BL.out k3)
    replace R1 := Lib.hid (R1.out.on k3)
    replace R2 := Lib.hid (R2.out.on k3)
    clear k3
    clear HI HS R2
    obtain ⟨ax, cx, hvx, _, lx⟩ := R1.out.form
    subst hvx
    have LX := Lib.hid lx
    clear lx
    have HAG := Lib.hid (fun W h => impl_AddRule W ax A.length cx (nF A) (nT A) h FA.out (by omega) p y hpm hym)
    rw [hok2, hag] at HAG
    have HRV := Lib.hid (fun W h => impl_RulesValid W ax A.length cx (nF A) (nT A) h FA.out)
    rw [HRA.out] at HRV
    clear hok2 hag hrA
    go_wp2_with fail
    refine (soProbes_any _ ax A.length cx (nF A) (nT A) LX.out (by omega) hA7.out).mono ?_
    rintro e v4 ⟨p4, PB, rfl, r4, hpl, hps4, k4⟩
    replace LT := Lib.hid (LT.out.on k4)
    replace BL := Lib.hid (step BL.out k4)
    replace R1 := Lib.hid (R1.out.on k4)
    replace LX := Lib.hid (LX.out.on k4)
    have R4 := Lib.hid r4
    clear r4
    clear k4
    have HPZ := Lib.hid hps4
    clear hps4
    obtain ⟨a4, c4, hv4, _, l4⟩ := R4.out.form
    subst hv4
    have L4 := Lib.hid l4
    clear l4 R4
    go_wp2
    go_loopw [11] (fun i wr => ∃ k : Nat, k ≤ PB.length ∧ i = .int .i64 k ∧ Hid (Below v4.heap.size v4 wr)) (fun i _ => PB.length - (intOf i).toNat)
    case atStart => exact ⟨0, Nat.zero_le _, rfl, Below.refl _ _⟩
    case round =>
      obtain ⟨k, hk, rfl, hbw⟩ := hrel
      have LTk := Lib.hid (LT.out.on hbw.out)
      have LXk := Lib.hid (LX.out.on hbw.out)
      by_cases hlt : k < PB.length
      · have hki : (k : Int) < (PB.length : Int) := by omega
        have hk0 : (0 : Int) ≤ (k : Int) := by omega
        obtain ⟨b4, o4, e4, t0⟩ := (L4.out.on hbw.out) k hlt
        subst e4
        have hcz : (sC PB k).size ≤ 30 := by rw [sC_at hlt]; exact HPZ.out _ (List.getElem_mem hlt)
        obtain ⟨c, hc⟩ : ∃ c, sC PB k = c := ⟨_, rfl⟩
        rw [hc] at t0 hcz
        clear hc
        have hcm : c.size ≤ maxLen := by unfold maxLen; omega
        have KL : Below wr.heap.size wr wr := Below.refl _ _
        cases hb : M.begins c p
        · obtain ⟨q, hq⟩ : ∃ q, (M.lookUp F T n c).getD ⟨#[]⟩ = q := ⟨_, rfl⟩
          have HNR : Hid (∀ W, Below wr.heap.size wr W → Calls Try.prog 10 #[.slice a n cp, .string c] W fun e w' => e = .returned (.string q) ∧ Below W.heap.size W w') := fun W h => by
            have := soNext_ar W a n cp F T (LTk.out.on h) FI.out c hcm
            rw [hq] at this
            exact this
          have HNX : Hid (∀ W, Below wr.heap.size wr W → Calls Try.prog 10 #[.slice ax A.length cx, .string c] W fun e w' => e = .returned (.string q) ∧ Below W.heap.size W w') := fun W h => by
            have := soNext_ar W ax A.length cx (nF A) (nT A) (LXk.out.on h) FA.out c hcm
            rw [HLK.out c hb, hq] at this
            exact this
          have q1 : (q.toList == q.toList) = true := by simp
          have q2 : (q.toList != q.toList) = false := by simp
          clear hq
          have s0 : wr.cell? ⟨b4, o4 + k, none⟩ = some (.string c) := t0
          have lb4 := World.block_lt_of_cell? _ _ t0
          clear t0
          go_wp2_with fail
          go_region_held3 (fun w' => w'.cell? ⟨b4, o4 + k, none⟩ = some (.string c)) (first | exact s0 | exact s8 | exact s9) (first
            | (go_at_call 9; refine (soBegins_any _ _ _).mono ?_; rw [hb]; rintro e w7 ⟨rfl, rfl⟩)
            | (go_at_call_of 10 (Value.slice ax A.length cx); refine (HNX.out _ (sstep KL (by go_grown))).mono ?_; rintro e w8 ⟨rfl, k8⟩; have KL : Below wr.heap.size wr w8 := (by exact sstep (sstep KL (by go_grown)) k8); have s8 : w8.cell? ⟨b4, o4 + k, none⟩ = some (.string c) := (KL.cell (p := ⟨b4, o4 + k, none⟩) lb4).trans s0)
            | (go_at_call_of 10 (Value.slice a n cp); refine (HNR.out _ (sstep KL (by go_grown))).mono ?_; rintro e w9 ⟨rfl, k9⟩; have KL : Below wr.heap.size wr w9 := (by exact sstep (sstep KL (by go_grown)) k9); have s9 : w9.cell? ⟨b4, o4 + k, none⟩ = some (.string c) := (KL.cell (p := ⟨b4, o4 + k, none⟩) lb4).trans s0))
          all_goals
            have B9 := Lib.hid (sstep hbw.out KL)
            clear KL
            go_wp2
            go_roundw
            case rel => exact ⟨k + 1, by omega, by go_num, by first | exact B9.out | exact below_drewS B9.out _⟩
            case measure => first | (simp [intOf]; done) | (simp [intOf]; omega)
        · have HBG : Hid (∀ W, Below wr.heap.size wr W → Calls Try.prog 9 #[.string c, .string p] W fun e w' => e = .returned (.bool true) ∧ Below W.heap.size W w') := fun W h => by
            have := soBegins_any c p W
            rw [hb] at this
            exact this.mono fun e w' h => ⟨h.1, h.2 ▸ Below.refl _ _⟩
          have s0 : wr.cell? ⟨b4, o4 + k, none⟩ = some (.string c) := t0
          have lb4 := World.block_lt_of_cell? _ _ t0
          clear t0
          go_wp2_with fail
          refine wp_region_noPanic ?_
          refine wp_region_held_drew (S := fun w' => w'.cell? ⟨b4, o4 + k, none⟩ = some (.string c)) (by kernel_rfl) (by exact s0) (fun hHeld => ?_)
          refine wpAnyH_take (i := 0) (oi := ⟨some 67, _, _, _, _, _⟩) (v := .slice (some ⟨b4, o4, none⟩) PB.length c4) rfl (by kernel_rfl) (by kernel_rfl) (by kernel_rfl) (fun _ _ _ h => h) (Or.inl ⟨by first | rfl | kernel_rfl, ?_⟩) (by assumption) ?_
          · intro w' hSw
            have c0 := hSw
            go_simp
          try simp only [Act.put, List.setIfInBounds_toArray, List.set_cons_zero, List.set_cons_succ]
          refine wpAnyH_take (i := 1) (oi := ⟨some 68, _, _, _, _, _⟩) (v := .int .i64 k) rfl (by kernel_rfl) (by kernel_rfl) (by kernel_rfl) (fun _ _ _ h => h) (Or.inl ⟨by first | rfl | kernel_rfl, ?_⟩) (by assumption) ?_
          · intro w' hSw
            have c0 := hSw
            go_simp
          try simp only [Act.put, List.setIfInBounds_toArray, List.set_cons_zero, List.set_cons_succ]
          refine wpAnyH_take (i := 2) (oi := ⟨some 69, _, _, _, _, _⟩) (v := .pointer (some ⟨b4, o4 + k, none⟩)) rfl (by kernel_rfl) (by kernel_rfl) (by kernel_rfl) (fun _ _ _ h => h) (Or.inl ⟨by first | rfl | kernel_rfl, ?_⟩) (by assumption) ?_
          · intro w' hSw
            have c0 := hSw
            go_simp
          try simp only [Act.put, List.setIfInBounds_toArray, List.set_cons_zero, List.set_cons_succ]
          refine wpAnyH_take (i := 3) (oi := ⟨some 70, _, _, _, _, _⟩) (v := .string c) rfl (by kernel_rfl) (by kernel_rfl) (by kernel_rfl) (fun _ _ _ h => h) (Or.inl ⟨by first | rfl | kernel_rfl, ?_⟩) (by assumption) ?_
          · intro w' hSw
            have c0 := hSw
            go_simp
          try simp only [Act.put, List.setIfInBounds_toArray, List.set_cons_zero, List.set_cons_succ]
          refine wpAnyH_take (i := 4) (oi := ⟨some 71, _, _, _, _, _⟩) (v := .string p) rfl (by kernel_rfl) (by kernel_rfl) (by kernel_rfl) (fun _ _ _ h => h) (Or.inl ⟨by first | rfl | kernel_rfl, ?_⟩) (by assumption) ?_
          · intro w' hSw
            have c0 := hSw
            go_simp
          try simp only [Act.put, List.setIfInBounds_toArray, List.set_cons_zero, List.set_cons_succ]
          refine wpAnyH_ready (rs := [5]) (by kernel_rfl) (by simp) ?_
          refine AllReadyH.cons (o := ⟨some 72, _, _, _, _, _⟩) rfl (fun K hK => ?_) AllReadyH.nil
          go_simp
          refine (HBG.out _ (sstep KL (by go_grown))).mono ?_
          rintro e w8 ⟨rfl, k8⟩
          have KL : Below wr.heap.size wr w8 := sstep (sstep KL (by go_grown)) k8
          have s8 : w8.cell? ⟨b4, o4 + k, none⟩ = some (.string c) := (KL.cell (p := ⟨b4, o4 + k, none⟩) lb4).trans s0
          refine hK.out _ _ s8 (fun hHeld => ?_)
          clear hK K
          try simp only [Act.put, List.setIfInBounds_toArray, List.set_cons_zero, List.set_cons_succ]
          refine wpAnyH_take (i := 6) (oi := ⟨some 73, _, _, _, _, _⟩) (v := .bool false) rfl (by kernel_rfl) (by kernel_rfl) (by kernel_rfl) (fun _ _ _ h => h) (Or.inl ⟨by first | rfl | kernel_rfl, ?_⟩) (by assumption) ?_
          · intro w' hSw
            have c0 := hSw
            go_simp
          try simp only [Act.put, List.setIfInBounds_toArray, List.set_cons_zero, List.set_cons_succ]
          refine wpAnyH_take (i := 7) (oi := ⟨some 74, _, _, _, _, _⟩) (v := .bool false) rfl (by kernel_rfl) (by kernel_rfl) (by kernel_rfl) (fun _ _ _ h => h) (Or.inl ⟨by first | rfl | kernel_rfl, ?_⟩) (by assumption) ?_
          · intro w' hSw
            have c0 := hSw
            go_simp
          try simp only [Act.put, List.setIfInBounds_toArray, List.set_cons_zero, List.set_cons_succ]
          refine wpAnyH_take (i := 8) (oi := ⟨some 75, _, _, _, _, _⟩) (v := undef) rfl (by kernel_rfl) (by kernel_rfl) (by kernel_rfl) (fun _ _ _ h => h) (Or.inr ⟨by kernel_rfl, rfl⟩) (by assumption) ?_
          try simp only [Act.put, List.setIfInBounds_toArray, List.set_cons_zero, List.set_cons_succ]
          refine wpAnyH_take (i := 9) (oi := ⟨some 76, _, _, _, _, _⟩) (v := undef) rfl (by kernel_rfl) (by kernel_rfl) (by kernel_rfl) (fun _ _ _ h => h) (Or.inr ⟨by kernel_rfl, rfl⟩) (by assumption) ?_
          try simp only [Act.put, List.setIfInBounds_toArray, List.set_cons_zero, List.set_cons_succ]
          refine wpAnyH_take (i := 10) (oi := ⟨some 77, _, _, _, _, _⟩) (v := undef) rfl (by kernel_rfl) (by kernel_rfl) (by kernel_rfl) (fun _ _ _ h => h) (Or.inr ⟨by kernel_rfl, rfl⟩) (by assumption) ?_
          try simp only [Act.put, List.setIfInBounds_toArray, List.set_cons_zero, List.set_cons_succ]
          refine wpAnyH_take (i := 11) (oi := ⟨some 78, _, _, _, _, _⟩) (v := undef) rfl (by kernel_rfl) (by kernel_rfl) (by kernel_rfl) (fun _ _ _ h => h) (Or.inr ⟨by kernel_rfl, rfl⟩) (by assumption) ?_
          try simp only [Act.put, List.setIfInBounds_toArray, List.set_cons_zero, List.set_cons_succ]
          refine wpAnyH_take (i := 12) (oi := ⟨some 79, _, _, _, _, _⟩) (v := undef) rfl (by kernel_rfl) (by kernel_rfl) (by kernel_rfl) (fun _ _ _ h => h) (Or.inr ⟨by kernel_rfl, rfl⟩) (by assumption) ?_
          try simp only [Act.put, List.setIfInBounds_toArray, List.set_cons_zero, List.set_cons_succ]
          refine wpAnyH_take (i := 13) (oi := ⟨some 80, _, _, _, _, _⟩) (v := undef) rfl (by kernel_rfl) (by kernel_rfl) (by kernel_rfl) (fun _ _ _ h => h) (Or.inr ⟨by kernel_rfl, rfl⟩) (by assumption) ?_
          try simp only [Act.put, List.setIfInBounds_toArray, List.set_cons_zero, List.set_cons_succ]
          refine wpAnyH_take (i := 14) (oi := ⟨some 81, _, _, _, _, _⟩) (v := undef) rfl (by kernel_rfl) (by kernel_rfl) (by kernel_rfl) (fun _ _ _ h => h) (Or.inr ⟨by kernel_rfl, rfl⟩) (by assumption) ?_
          try simp only [Act.put, List.setIfInBounds_toArray, List.set_cons_zero, List.set_cons_succ]
          refine wpAnyH_take (i := 15) (oi := ⟨some 82, _, _, _, _, _⟩) (v := undef) rfl (by kernel_rfl) (by kernel_rfl) (by kernel_rfl) (fun _ _ _ h => h) (Or.inr ⟨by kernel_rfl, rfl⟩) (by assumption) ?_
          try simp only [Act.put, List.setIfInBounds_toArray, List.set_cons_zero, List.set_cons_succ]
          refine wpAnyH_take (i := 16) (oi := ⟨some 83, _, _, _, _, _⟩) (v := undef) rfl (by kernel_rfl) (by kernel_rfl) (by kernel_rfl) (fun _ _ _ h => h) (Or.inr ⟨by kernel_rfl, rfl⟩) (by assumption) ?_
          try simp only [Act.put, List.setIfInBounds_toArray, List.set_cons_zero, List.set_cons_succ]
          refine wpAnyH_take (i := 17) (oi := ⟨some 84, _, _, _, _, _⟩) (v := undef) rfl (by kernel_rfl) (by kernel_rfl) (by kernel_rfl) (fun _ _ _ h => h) (Or.inr ⟨by kernel_rfl, rfl⟩) (by assumption) ?_
          try simp only [Act.put, List.setIfInBounds_toArray, List.set_cons_zero, List.set_cons_succ]
          refine wpAnyH_take (i := 18) (oi := ⟨some 85, _, _, _, _, _⟩) (v := undef) rfl (by kernel_rfl) (by kernel_rfl) (by kernel_rfl) (fun _ _ _ h => h) (Or.inr ⟨by kernel_rfl, rfl⟩) (by assumption) ?_
          try simp only [Act.put, List.setIfInBounds_toArray, List.set_cons_zero, List.set_cons_succ]
          refine wpAnyH_take (i := 19) (oi := ⟨some 86, _, _, _, _, _⟩) (v := undef) rfl (by kernel_rfl) (by kernel_rfl) (by kernel_rfl) (fun _ _ _ h => h) (Or.inr ⟨by kernel_rfl, rfl⟩) (by assumption) ?_
          try simp only [Act.put, List.setIfInBounds_toArray, List.set_cons_zero, List.set_cons_succ]
          refine wpAnyH_take (i := 20) (oi := ⟨some 87, _, _, _, _, _⟩) (v := undef) rfl (by kernel_rfl) (by kernel_rfl) (by kernel_rfl) (fun _ _ _ h => h) (Or.inr ⟨by kernel_rfl, rfl⟩) (by assumption) ?_
          try simp only [Act.put, List.setIfInBounds_toArray, List.set_cons_zero, List.set_cons_succ]
          refine wpAnyH_take (i := 21) (oi := ⟨some 88, _, _, _, _, _⟩) (v := .bool false) rfl (by kernel_rfl) (by kernel_rfl) (by kernel_rfl) (fun _ _ _ h => h) (Or.inl ⟨by kernel_rfl, fun _ _ => by kernel_rfl⟩) (by assumption) ?_
          try simp only [Act.put, List.setIfInBounds_toArray, List.set_cons_zero, List.set_cons_succ]
          refine wpAnyH_done (by kernel_rfl) ?_ _
          refine NoPanic.normal ?_
          have B9 := Lib.hid (sstep hbw.out KL)
          clear k8 s0 s8 KL hHeld
          go_wp2
          go_roundw
          case rel => exact ⟨k + 1, by omega, by go_num, by first | exact B9.out | exact below_drewS B9.out _⟩
          case measure => first | (simp [intOf]; done) | (simp [intOf]; omega)
      · obtain rfl : k = PB.length := by omega
        replace LT := LTk
        replace LX := LXk
        replace R1 := Lib.hid (R1.out.on hbw.out)
        replace BL := Lib.hid (step BL.out hbw.out)
        clear hbw LTk LXk
        go_wp2_with fail
        refine (HAG.out _ LX.out).mono ?_
        rintro e v5 ⟨p5, rfl, r5, k5⟩
        replace LT := Lib.hid (LT.out.on k5)
        replace BL := Lib.hid (step BL.out k5)
        replace R1 := Lib.hid (R1.out.on k5)
        replace LX := Lib.hid (LX.out.on k5)
        have R5 := Lib.hid r5
        clear r5
        clear k5
        go_wp2_with fail
        refine (soRules_row _ _ _ _ _ _ R5.out R1.out (by omega)).mono ?_
        rintro e v6 ⟨rfl, k6⟩
        replace LT := Lib.hid (LT.out.on k6)
        replace BL := Lib.hid (step BL.out k6)
        replace LX := Lib.hid (LX.out.on k6)
        clear k6
        go_wp2_with fail
        refine (HRV.out _ LX.out).mono ?_
        rintro e v7 ⟨rfl, k7⟩
        replace LT := Lib.hid (LT.out.on k7)
        replace BL := Lib.hid (step BL.out k7)
        clear k7
        rcases hlen with e | e
        · have e1 : IntKind.i64.wrap ((A.length : Int) - (n : Int)) = 0 := (IntWalk.i64_in _ (by omega)).trans (by omega)
          go_wp2
          go_ret
          exact ⟨rfl, BL.out⟩
        · have e1 : IntKind.i64.wrap ((A.length : Int) - (n : Int)) = 1 := (IntWalk.i64_in _ (by omega)).trans (by omega)
          have e2 : (((n : Int) + 1 - (n : Int) == 0) || ((n : Int) + 1 - (n : Int) == 1)) = true := by rw [show (n : Int) + 1 - (n : Int) = 1 by omega]; rfl
          have HE2 := Lib.hid e2
          clear e2
          go_wp2
          go_ret
          exact ⟨ret_bool HE2.out, BL.out⟩

set_option maxRecDepth 100000 in
theorem lifted (os : Os) (started : os.Started) (H : Type) (enc : TypeId × Value → H) :
    ReturnsInHanded {} Try.checked os 3 .any (Rows.fnAddRuleSpec.pre6 enc Try.prog Try.f3 Rows.fnAddRuleRow.domain false) (Rows.fnAddRuleSpec.post enc Try.prog Try.f3 false true false false) := by
  refine returnsInHanded_of_change (C := Try.checked) own started (by kernel_rfl) Try.func3
    (ChangeSpec.witness6 (enc := enc) (C := Try.checked) false ⟨#[], #[.slice none 0 0], []⟩ 8 (by kernel_rfl) (by kernel_rfl) (by kernel_rfl) (by kernel_rfl)) ?_
  intro W base args ds gs before hval0 hW hcnd _
  have hval : ∀ (j : Nat) t v, Try.f3.params[j]? = some t → args[j]? = some v → Value.okWide Try.prog W .any base t v := hval0
  have hW' := hW
  obtain ⟨p, q, hA0, hV, rfl, hfz, hnd⟩ := hW
  have hA : DataW.TrodAll enc Try.prog W 0 (fun _ => true) true Try.f3.params.toList args.toList ds p := hA0
  rw [Try.params3] at hA hval
  obtain ⟨v0, vs0, d0, ds0, p0, q0, hargs, rfl, rfl, h0, r0⟩ := trodAll_cons hA
  obtain ⟨rfl, rfl, rfl⟩ := trodAll_nil r0
  obtain rfl : args = #[v0] := by cases args; simp_all
  obtain ⟨rfl, rfl⟩ := trodVars_none hV
  have g0 := h0
  have lt0 : ∀ x ∈ p0, x.block < W.heap.size := by obtain ⟨m, hm⟩ := g0; exact DataW.trod_lt m _ _ _ hm
  obtain ⟨a0, l0, k0, rfl⟩ := okWide_slice Try.underlying22 (hval 0 22 v0 rfl rfl)
  obtain ⟨z0, w0⟩ : ∃ zs, IsRow .u8 W a0 l0 k0 zs := by
    obtain ⟨fuel, hf⟩ := h0
    rcases open_ints Try.underlying22 Try.underlying5 (by kernel_rfl) hf with ⟨hcs, _⟩ | ⟨x, l, c, zs, hcs, _, hl, hm, hz, _, hcell, hwz⟩
    · simp [Value.cells] at hcs
      obtain ⟨rfl, rfl, rfl⟩ := hcs
      exact ⟨[], .inl ⟨rfl, rfl, rfl, rfl⟩⟩
    · simp [Value.cells] at hcs
      obtain ⟨rfl, rfl, rfl⟩ := hcs
      exact ⟨zs, .inr ⟨_, rfl, hl, hm, by simpa using hz, hcell, hwz⟩⟩
  clear hA0 hval0
  refine (walk W a0 l0 k0 z0 w0).mono fun e W' ⟨he, bel⟩ => ?_
  subst he
  exact ⟨_, rfl, _, _, _, [], _, [], hW', trodAll_mk1 (shut_bool Try.underlying4 _), (trodAll_cons_mk (Below.trod laidOut (by kernel_rfl) (of_decide_eq_true (by kernel_rfl)) g0 bel lt0) trodAll_mk0), rfl, bel.frame _, fun h => by cases h⟩

theorem proved : Rows.FnAddRuleSaid :=
  OpenClaim.holds_of_wide 3 Try.f3 rfl rfl rfl rfl rfl rfl rfl ⟨rfl, rfl, rfl, rfl, rfl⟩ rfl rfl rfl rfl rfl (by kernel_rfl) Try.func3 (by kernel_rfl)
    (of_decide_eq_true (by kernel_rfl)) (by unfold Func.isWrapper; first | (rw [if_pos (by decide +kernel)]; kernel_rfl) | (rw [if_neg (by decide +kernel)]; exact ⟨rfl, rfl⟩))
    (fun os started H enc _ => lifted os started H enc)
#print axioms proved
end Go.Proofs.Ytkbebpadbdhnhaa.fnAddRule
