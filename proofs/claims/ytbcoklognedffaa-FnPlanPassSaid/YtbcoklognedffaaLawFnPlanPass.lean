/-
  For every slice of bytes, laws.FnPlanPass returns true.
-/
import Derived.Test.YtbcoklognedffaaRows
import Derived.Test.YtbcoklognedffaaDrawX
import Derived.Test.YtbcoklognedffaaPPlM
import Derived.Test.YtbcoklognedffaaWrgA
import Derived.Test.YtbcoklognedffaaPassA
import Derived.Test.YtbcoklognedffaaSoA
import Derived.Test.YtbcoklognedffaaRank
import Derived.Deep.RegionHeld3
import Derived.BigQuiet
import Derived.WalkKit
import Derived.ProofKit
import Derived.OpenShut
import Derived.ShutString
import Derived.ChangeOld
import Derived.Below
import Derived.Handy
import Derived.Lib.Hide
namespace Go.Proofs.Ytbcoklognedffaa.fnPlanPass
open Go.ChangeShapes Go.WideShapes Go.ChangeAt Go.RowKit
open Go.ChangeMaps (open_string shut_string)
open Go.PlainAid (bt get_bt bt_nonneg bt_le)
set_option linter.unusedVariables false

theorem two_made (w : World) (i : Int) (s : ByteArray) : (w.alloc (.cells #[.int .i64 i, .string s] 37)).cell? ⟨w.heap.size, 0, none⟩ = some (.int .i64 i) ∧ (w.alloc (.cells #[.int .i64 i, .string s] 37)).cell? ⟨w.heap.size, 1, none⟩ = some (.string s) := ⟨by simp [go_sem], by simp [go_sem]⟩
theorem own : ownKnob Try.prog.godebug = none := by kernel_rfl
theorem laidOut : laidOutB Try.prog = true := by kernel_rfl

set_option maxHeartbeats 40000000 in
set_option maxRecDepth 100000 in
theorem walk (w : World) (a0 : Option Addr) (l0 k0 : Nat) (z0 : List Int) (w0 : IsRow .u8 w a0 l0 k0 z0) :
    Calls Try.prog 3 #[.slice a0 l0 k0] w fun e w' => e = .returned (.bool true) ∧ Below w.heap.size w w' := by
  by_cases hl : 1048576 < l0
  · go_enter Try.func3, Try.ntmps3
    go_wp2
    go_ret
    exact ⟨rfl, Below.refl _ _⟩
  go_enter Try.func3, Try.ntmps3
  go_wp2_with fail
  refine (DrawPlanPass_any a0 l0 k0 z0 w w0).mono ?_
  rintro e u ⟨b, p, a, n, c, S, a2, m, c2, I, C, x, rfl, hpl, hx9, bl, hcp⟩
  have HCP := Lib.hid hcp
  clear hcp
  obtain ⟨L, hmL, hpl2⟩ := hpl.list
  subst hmL
  clear hpl
  have hpl := hpl2
  clear hpl2
  have ba := below_alloc0 u (.cells #[.int .i64 b, .int .i64 p, .slice a n c] 25)
  have PL := Lib.hid (hpl.on ba)
  have X := Lib.hid (tri_made u (.int .i64 b) (.int .i64 p) (.slice a n c) 25)
  have BL := Lib.hid (step bl ba)
  obtain ⟨v0, hv0⟩ : ∃ v0, u.alloc (.cells #[.int .i64 b, .int .i64 p, .slice a n c] 25) = v0 := ⟨_, rfl⟩
  rw [hv0] at PL X BL
  have HV0 := Lib.hid hv0
  have hn := PL.out.pn
  have hm := PL.out.ln
  have hn2 : n ≤ 1048576 := by omega
  have hm2 : L.length ≤ 1048576 := by omega
  clear hpl bl ba hv0
  cases hok : M.passOk b p n S L.length (nI L) (nC L) x
  · have HOK := Lib.hid hok
    have hzl : ∀ (MM : Nat → List (Int × ByteArray)) i, i < 0 → (MM i).length ≤ 1048576 := fun MM i hi => absurd hi (by omega)
    have HZL := Lib.hid hzl
    have hz9 : (0 : Nat) ≤ 1048576 := by omega
    have hz8 : ([] : List (Int × ByteArray)).length ≤ 1048576 := by simp
    obtain ⟨MM, hMM⟩ : ∃ F, M.binTo (M.planKey b n S (nC L) x.toNat) (nI L) (nC L) L.length = F := ⟨_, rfl⟩
    have HR : Hid (∀ W, PassRet W b p n S L.length (nI L) (nC L) x = PassRes W false 0 MM []) := fun W => by unfold PassRet; rw [hok, if_neg (by decide), if_neg (by decide), hMM]
    clear hok hzl hMM
    obtain ⟨⟨d0, d1, d2⟩, g0, g1, g2⟩ := X.out
    have lx := X.out.lt
    go_wp2_with fail
    rw [HV0.out]
    refine (impl_PlanPass_any _ b p a n c S PL.out.ps PL.out.pf hn2 a2 L.length c2 (nI L) (nC L) PL.out.ls PL.out.lf x).mono ?_
    rw [HR.out]
    rintro e v1 ⟨p1, V1, u1, rfl, m1, r1, _, k1⟩
    clear d0 d1 d2 g0 g1 g2 lx
    replace BL := Lib.hid (step BL.out k1)
    replace PL := Lib.hid (PL.out.on k1)
    replace X := Lib.hid (X.out.on k1)
    have HM1 := Lib.hid (m1)
    have R1 := Lib.hid (r1)
    clear k1
    clear m1 r1
    obtain ⟨⟨d0, d1, d2⟩, g0, g1, g2⟩ := X.out
    have lx := X.out.lt
    go_wp2_with fail
    refine (spec_PlanPass_any _ b p a n c S PL.out.ps PL.out.pf hn2 a2 L.length c2 (nI L) (nC L) PL.out.ls PL.out.lf hm2 x).mono ?_
    rw [HR.out]
    rintro e v2 ⟨p2, V2, u2, rfl, m2, r2, _, k2⟩
    clear d0 d1 d2 g0 g1 g2 lx
    replace BL := Lib.hid (step BL.out k2)
    replace PL := Lib.hid (PL.out.on k2)
    replace X := Lib.hid (X.out.on k2)
    replace HM1 := Lib.hid (HM1.out.on k2)
    replace R1 := Lib.hid (R1.out.on k2)
    have HM2 := Lib.hid (m2)
    have R2 := Lib.hid (r2)
    clear k2
    clear m2 r2
    obtain ⟨⟨d0, d1, d2⟩, g0, g1, g2⟩ := X.out
    have lx := X.out.lt
    go_wp2_with fail
    refine (soBins_mat _ _ _ p1 p2 0 V1 V2 MM HM1.out HM2.out hz9 (HZL.out MM)).mono ?_
    rintro e v3 ⟨rfl, k3⟩
    clear d0 d1 d2 g0 g1 g2 lx
    replace BL := Lib.hid (step BL.out k3)
    replace PL := Lib.hid (PL.out.on k3)
    replace X := Lib.hid (X.out.on k3)
    replace HM1 := Lib.hid (HM1.out.on k3)
    replace R1 := Lib.hid (R1.out.on k3)
    replace HM2 := Lib.hid (HM2.out.on k3)
    replace R2 := Lib.hid (R2.out.on k3)
    clear k3
    obtain ⟨⟨d0, d1, d2⟩, g0, g1, g2⟩ := X.out
    have lx := X.out.lt
    go_wp2_with fail
    refine (soBatch_row _ _ _ _ _ _ R1.out R2.out hz8).mono ?_
    rintro e v4 ⟨rfl, k4⟩
    clear d0 d1 d2 g0 g1 g2 lx
    replace BL := Lib.hid (step BL.out k4)
    replace PL := Lib.hid (PL.out.on k4)
    replace X := Lib.hid (X.out.on k4)
    replace HM1 := Lib.hid (HM1.out.on k4)
    replace R1 := Lib.hid (R1.out.on k4)
    replace HM2 := Lib.hid (HM2.out.on k4)
    replace R2 := Lib.hid (R2.out.on k4)
    clear k4
    obtain ⟨⟨d0, d1, d2⟩, g0, g1, g2⟩ := X.out
    have lx := X.out.lt
    go_wp2_with fail
    refine (soBins_mat _ _ _ p1 p2 0 V1 V2 MM HM1.out HM2.out hz9 (HZL.out MM)).mono ?_
    rintro e v5 ⟨rfl, k5⟩
    clear d0 d1 d2 g0 g1 g2 lx
    replace BL := Lib.hid (step BL.out k5)
    replace PL := Lib.hid (PL.out.on k5)
    replace X := Lib.hid (X.out.on k5)
    replace HM1 := Lib.hid (HM1.out.on k5)
    replace R1 := Lib.hid (R1.out.on k5)
    replace HM2 := Lib.hid (HM2.out.on k5)
    replace R2 := Lib.hid (R2.out.on k5)
    clear k5
    obtain ⟨⟨d0, d1, d2⟩, g0, g1, g2⟩ := X.out
    have lx := X.out.lt
    go_wp2_with fail
    refine (soBatch_row _ _ _ _ _ _ R1.out R2.out hz8).mono ?_
    rintro e v6 ⟨rfl, k6⟩
    clear d0 d1 d2 g0 g1 g2 lx
    replace BL := Lib.hid (step BL.out k6)
    replace PL := Lib.hid (PL.out.on k6)
    replace X := Lib.hid (X.out.on k6)
    replace HM1 := Lib.hid (HM1.out.on k6)
    replace R1 := Lib.hid (R1.out.on k6)
    replace HM2 := Lib.hid (HM2.out.on k6)
    replace R2 := Lib.hid (R2.out.on k6)
    clear k6
    obtain ⟨⟨d0, d1, d2⟩, g0, g1, g2⟩ := X.out
    have lx := X.out.lt
    go_wp2
    go_ret
    exact ⟨rfl, BL.out⟩
  · have hk := hok
    unfold M.passOk at hk
    simp only [Bool.and_eq_true, decide_eq_true_eq] at hk
    obtain ⟨⟨hp, hb⟩, hx⟩ := hk
    obtain ⟨s1, s2, s3, s4⟩ := M.plan_shape hp
    have hbl := (batchL_list L).1 hb
    have h60 := hbl.2.2
    obtain ⟨q, rfl⟩ := Int.eq_ofNat_of_zero_le hx.1
    have hqp : (q : Int) < p := hx.2
    obtain ⟨N, hN⟩ := Int.eq_ofNat_of_zero_le (show 0 ≤ b by omega)
    subst hN
    have hn16 : N ≤ 16 := by omega
    have hkey := fun d i (hi : i < (stepB (N : Int) n S L q d).length) => bin_key hp hqp hi
    have hpla := fun d i (hi : i + 1 < (stepB (N : Int) n S L q d).length) => bin_place hbl hi
    have hlen := pass_len (n := n) (S := S) s1 L q
    rw [Int.toNat_natCast] at hlen
    have hrr := fun R hR i hi => rest_rank (q := q) (L := L) (R := R) (i := i) hp hR hi
    have hld : loads (N : Int) p n S L.length (nI L) (nC L) (q : Int) = lens (stepB (N : Int) n S L q) N := by
      unfold loads loadsN
      rw [hok, if_pos rfl, Int.toNat_natCast, Int.toNat_natCast]
      rfl
    obtain ⟨MM, hMM⟩ : ∃ F, stepB (N : Int) n S L q = F := ⟨_, rfl⟩
    obtain ⟨LL, hLL⟩ : ∃ F, M.restTo (M.planKey (N : Int) n S (nC L) q) (nI L) (nC L) L.length = F := ⟨_, rfl⟩
    have hrk := hrr LL hLL
    have HR : Hid (∀ W, PassRet W (N : Int) p n S L.length (nI L) (nC L) (q : Int) = PassRes W true N MM LL) := fun W => by
      unfold PassRet
      rw [hok, if_pos rfl, if_pos rfl, Int.toNat_natCast, Int.toNat_natCast, hLL, ← hMM]
      rfl
    rw [hMM] at hkey hpla hlen hld
    rw [hLL] at hlen
    obtain ⟨LD, hLD⟩ : ∃ F, lens MM N = F := ⟨_, rfl⟩
    rw [hLD] at hld
    have hldl : LD.length = N := by rw [← hLD, lens_length]
    have hlda : ∀ k (hk : k < LD.length), LD[k] = ((MM k).length : Int) := fun k hk => by subst hLD; exact lens_at MM (by rw [lens_length] at hk; exact hk) hk
    have HLD := Lib.hid hld
    have HLDL := Lib.hid hldl
    have HLDA := Lib.hid hlda
    have HKEY := Lib.hid hkey
    have HPLA := Lib.hid hpla
    have HRK := Lib.hid hrk
    have HBL := Lib.hid hbl
    have hn9 : N ≤ 1048576 := by omega
    have HZM : Hid (∀ i, i < N → (MM i).length ≤ 60) := fun i hi => by have := flat_upto MM hi; omega
    have HZL : Hid (∀ i, i < N → (MM i).length ≤ 1048576) := fun i hi => by have := flat_upto MM hi; omega
    have hll60 : LL.length ≤ 60 := by omega
    have hz8 : LL.length ≤ 1048576 := by omega
    have HLEN := Lib.hid hlen
    have HUP : Hid (∀ k, k < N → LL.length + (M.flat MM k).length + (MM k).length ≤ 60) := fun k hk => by
      have h1 : (M.flat MM (k + 1)).length = (M.flat MM k).length + (MM k).length := by
        show (M.flat MM k ++ MM k).length = _
        rw [List.length_append]
      have h2 : ∀ d, (M.flat MM (k + 1)).length ≤ (M.flat MM (k + 1 + d)).length := fun d => by
        induction d with
        | zero => exact Nat.le_refl _
        | succ d ih =>
          refine Nat.le_trans ih ?_
          show _ ≤ (M.flat MM (k + 1 + d) ++ MM (k + 1 + d)).length
          rw [List.length_append]
          omega
      have h3 := h2 (N - (k + 1))
      rw [show k + 1 + (N - (k + 1)) = N by omega] at h3
      omega
    clear hok hp hb hx hbl hkey hpla hlen hrr hld hrk hldl hlda hMM hLL hLD
    obtain ⟨⟨d0, d1, d2⟩, g0, g1, g2⟩ := X.out
    have lx := X.out.lt
    go_wp2_with fail
    rw [HV0.out]
    refine (impl_PlanPass_any _ (N : Int) p a n c S PL.out.ps PL.out.pf hn2 a2 L.length c2 (nI L) (nC L) PL.out.ls PL.out.lf (q : Int)).mono ?_
    rw [HR.out]
    rintro e v1 ⟨p1, V1, u1, rfl, m1, r1, _, k1⟩
    clear d0 d1 d2 g0 g1 g2 lx
    replace BL := Lib.hid (step BL.out k1)
    replace PL := Lib.hid (PL.out.on k1)
    replace X := Lib.hid (X.out.on k1)
    have HM1 := Lib.hid (m1)
    have R1 := Lib.hid (r1)
    clear k1
    clear m1 r1
    obtain ⟨⟨d0, d1, d2⟩, g0, g1, g2⟩ := X.out
    have lx := X.out.lt
    go_wp2_with fail
    refine (spec_PlanPass_any _ (N : Int) p a n c S PL.out.ps PL.out.pf hn2 a2 L.length c2 (nI L) (nC L) PL.out.ls PL.out.lf hm2 (q : Int)).mono ?_
    rw [HR.out]
    rintro e v2 ⟨p2, V2, u2, rfl, m2, r2, _, k2⟩
    clear d0 d1 d2 g0 g1 g2 lx
    replace BL := Lib.hid (step BL.out k2)
    replace PL := Lib.hid (PL.out.on k2)
    replace X := Lib.hid (X.out.on k2)
    replace HM1 := Lib.hid (HM1.out.on k2)
    replace R1 := Lib.hid (R1.out.on k2)
    have HM2 := Lib.hid (m2)
    have R2 := Lib.hid (r2)
    clear k2
    clear m2 r2
    obtain ⟨⟨d0, d1, d2⟩, g0, g1, g2⟩ := X.out
    have lx := X.out.lt
    go_wp2_with fail
    refine (soBins_mat _ _ _ p1 p2 N V1 V2 MM HM1.out HM2.out hn9 HZL.out).mono ?_
    rintro e v3 ⟨rfl, k3⟩
    clear d0 d1 d2 g0 g1 g2 lx
    replace BL := Lib.hid (step BL.out k3)
    replace PL := Lib.hid (PL.out.on k3)
    replace X := Lib.hid (X.out.on k3)
    replace HM1 := Lib.hid (HM1.out.on k3)
    replace R1 := Lib.hid (R1.out.on k3)
    replace HM2 := Lib.hid (HM2.out.on k3)
    replace R2 := Lib.hid (R2.out.on k3)
    clear k3
    obtain ⟨⟨d0, d1, d2⟩, g0, g1, g2⟩ := X.out
    have lx := X.out.lt
    go_wp2_with fail
    refine (soBatch_row _ _ _ _ _ _ R1.out R2.out hz8).mono ?_
    rintro e v4 ⟨rfl, k4⟩
    clear d0 d1 d2 g0 g1 g2 lx
    replace BL := Lib.hid (step BL.out k4)
    replace PL := Lib.hid (PL.out.on k4)
    replace X := Lib.hid (X.out.on k4)
    replace HM1 := Lib.hid (HM1.out.on k4)
    replace R1 := Lib.hid (R1.out.on k4)
    replace HM2 := Lib.hid (HM2.out.on k4)
    replace R2 := Lib.hid (R2.out.on k4)
    clear k4
    clear R2 HM2
    obtain ⟨⟨d0, d1, d2⟩, g0, g1, g2⟩ := X.out
    have lx := X.out.lt
    go_wp2_with fail
    refine (impl_BinLoads _ (N : Int) p a n c S PL.out.ps PL.out.pf hn2 a2 L.length c2 (nI L) (nC L) PL.out.ls PL.out.lf hm2 (q : Int)).mono ?_
    rw [HLD.out]
    rintro e v5 ⟨p5, rfl, r5, k5⟩
    obtain ⟨a5, c5, rfl, _⟩ := r5.cells
    clear d0 d1 d2 g0 g1 g2 lx
    replace BL := Lib.hid (step BL.out k5)
    replace PL := Lib.hid (PL.out.on k5)
    replace X := Lib.hid (X.out.on k5)
    replace HM1 := Lib.hid (HM1.out.on k5)
    replace R1 := Lib.hid (R1.out.on k5)
    have R5 := Lib.hid (r5)
    clear k5
    clear r5
    obtain ⟨⟨d0, d1, d2⟩, g0, g1, g2⟩ := X.out
    have lx := X.out.lt
    obtain ⟨a1, c1, hu1, _, _⟩ := R1.out.form
    subst hu1
    obtain ⟨G1, C1, hp1⟩ : ∃ g c, p1 = .slice g N c := by
      rcases HM1.out.form with ⟨rfl, rfl⟩ | ⟨g, c, rfl, _⟩
      · exact ⟨_, _, rfl⟩
      · exact ⟨_, _, rfl⟩
    subst hp1
    have HV6 := Lib.hid BL.out
    clear BL
    obtain ⟨Z, hZ⟩ : ∃ Z, v5 = Z := ⟨_, rfl⟩
    rw [hZ] at PL X HM1 R1 R5 HV6 d0 d1 d2 g0 g1 g2 lx ⊢
    clear hZ
    have HF0 : Hid (LL.length = LL.length + (M.flat MM 0).length) := rfl
    go_wp2
    go_loopw [13, 14] (fun nn i wr => ∃ (k s : Nat), k ≤ N ∧ i = .int .i64 k ∧ nn = .int .i64 s ∧ Hid (s = LL.length + (M.flat MM k).length) ∧ Hid (Below Z.heap.size Z wr)) (fun _ i _ => N - (intOf i).toNat)
    case atStart => exact ⟨0, LL.length, Nat.zero_le _, rfl, rfl, HF0, Below.refl _ _⟩
    case round =>
      obtain ⟨k, s, hk, rfl, rfl, hs, hbw⟩ := hrel
      clear d0 d1 d2 g0 g1 g2 lx
      by_cases hlt : k < N
      · have hki : (k : Int) < (N : Int) := by omega
        have hk0 : (0 : Int) ≤ (k : Int) := by omega
        have hmk := HZM.out k hlt
        have hup := HUP.out k hlt
        rw [← hs.out] at hup
        obtain ⟨mk, hmke⟩ : ∃ n, (MM k).length = n := ⟨_, rfl⟩
        have HMK := Lib.hid hmke
        rw [hmke] at hmk hup
        have hsn : Hid (s + mk = LL.length + (M.flat MM (k + 1)).length) := by
          have h1 : (M.flat MM (k + 1)).length = (M.flat MM k).length + (MM k).length := by
            show (M.flat MM k ++ MM k).length = _
            rw [List.length_append]
          show s + mk = LL.length + (M.flat MM (k + 1)).length
          rw [h1, hmke, hs.out]
          omega
        clear hmke
        go_wp2
        go_loopw [15] (fun i wr => ∃ (j : Nat), j ≤ mk ∧ i = .int .i64 j ∧ Hid (Below Z.heap.size Z wr)) (fun i _ => mk - (intOf i).toNat)
        case atStart => exact ⟨0, Nat.zero_le _, rfl, hbw⟩
        case round =>
          obtain ⟨i, hi, rfl, hbi⟩ := hrel
          have X2 := Lib.hid (X.out.on hbi.out)
          have PL2 := Lib.hid (PL.out.on hbi.out)
          have hm := HM1.out.on hbi.out
          obtain ⟨g, cg, hg, t0, _⟩ := hm.cell hlt
          injection hg with hg1 hg2 hg3
          subst hg1
          obtain ⟨ak, ck, hvk, hck, lk⟩ := (hm.2.1 k hlt).form
          rw [hvk, HMK.out] at t0
          rw [HMK.out] at lk
          have LK := Lib.hid lk
          clear hm hvk hck lk hg2 hg3
          obtain ⟨⟨d0, d1, d2⟩, g0, g1, g2⟩ := X2.out
          have lx := X2.out.lt
          by_cases hil : i < mk
          · have hii : (i : Int) < (mk : Int) := by omega
            have hi0 : (0 : Int) ≤ (i : Int) := by omega
            have hkey := HKEY.out k i (by rw [HMK.out]; exact hil)
            have hpla := HPLA.out k (i - 1)
            obtain ⟨gk, ok, hak, y0, y1⟩ := LK.out i hil
            subst hak
            have hplb : ∀ j, i = j + 1 → ∃ k1 k2 : Nat, k1 < k2 ∧ M.findLetter L.length (nI L) (nC L) (nI (MM k) j) = (k1 : Int) ∧ M.findLetter L.length (nI L) (nC L) (nI (MM k) i) = (k2 : Int) := fun j e => by
              subst e
              exact HPLA.out k j (by rw [HMK.out]; exact hil)
            obtain ⟨yi, hyi⟩ : ∃ y, nI (MM k) i = y := ⟨_, rfl⟩
            obtain ⟨yc, hyc⟩ : ∃ y, nC (MM k) i = y := ⟨_, rfl⟩
            rw [hyc] at hkey y1
            rw [hyi] at y0 hplb
            have HKB := Lib.hid hkey
            have HPLB := Lib.hid hplb
            have hkk : ((k : Int) != (k : Int)) = false := by simp
            have ba := below_alloc0 wr (.cells #[.int .i64 yi, .string yc] 37)
            have HBA := Lib.hid ba
            have hb0 := two_made wr yi yc
            obtain ⟨e0, e1⟩ := hb0
            have lg := World.block_lt_of_cell? _ _ t0
            have lgk := World.block_lt_of_cell? _ _ y0
            have D3 : Hid (∀ W, Below wr.heap.size wr W → W.cell? ⟨u.heap.size, 0, none⟩ = some (.int .i64 (N : Int)) ∧ W.cell? ⟨u.heap.size, 1, none⟩ = some (.int .i64 p) ∧ W.cell? ⟨u.heap.size, 2, none⟩ = some (.slice a n c)) := fun W hW => ⟨(hW.cell (p := ⟨u.heap.size, 0, none⟩) lx).trans d0, (hW.cell (p := ⟨u.heap.size, 1, none⟩) lx).trans d1, (hW.cell (p := ⟨u.heap.size, 2, none⟩) lx).trans d2⟩
            have E2 : Hid (∀ W, Below (wr.heap.size + 1) (wr.alloc (.cells #[.int .i64 yi, .string yc] 37)) W → W.cell? ⟨wr.heap.size, 0, none⟩ = some (.int .i64 yi) ∧ W.cell? ⟨wr.heap.size, 1, none⟩ = some (.string yc)) := fun W hW => ⟨(hW.cell (p := ⟨wr.heap.size, 0, none⟩) (by simp)).trans e0, (hW.cell (p := ⟨wr.heap.size, 1, none⟩) (by simp)).trans e1⟩
            have OT := Lib.hid t0
            have OK := Lib.hid LK.out
            have zw1 : (wr.alloc (.cells #[.int .i64 yi, .string yc] 37)).heap.size = wr.heap.size + 1 := by simp
            have HZW := Lib.hid zw1
            clear hyi hyc hkey hpla hplb zw1
            by_cases hi1 : 0 < i
            · obtain ⟨j, hj⟩ : ∃ j, i = j + 1 := ⟨i - 1, by omega⟩
              obtain ⟨k1, k2, hk12, hf1, hf2⟩ := HPLB.out j hj
              obtain ⟨bb9, oo9, e9, z0, _⟩ := OK.out j (by omega)
              obtain ⟨rfl, rfl, _⟩ := Addr.mk.inj (Option.some.inj e9)
              have hjw : IntKind.i64.wrap ((i : Int) - 1) = (j : Int) := (IntWalk.i64_in _ (by omega)).trans (by omega)
              have hj0 : (0 : Int) ≤ (j : Int) := by omega
              have hjm : (j : Int) < (mk : Int) := by omega
              have hi1i : (0 : Int) < (i : Int) := by omega
              have hi1d : decide ((0 : Int) < (i : Int)) = true := decide_eq_true hi1i
              have hi1n : decide (0 < i) = true := decide_eq_true hi1
              have hnle : ¬ (k2 : Int) ≤ (k1 : Int) := by omega
              have hnln : ¬ k2 ≤ k1 := by omega
              have hnld : decide ((k2 : Int) ≤ (k1 : Int)) = false := decide_eq_false hnle
              have hnlm : decide (k2 ≤ k1) = false := decide_eq_false hnln
              obtain ⟨zi, hzi⟩ : ∃ y, nI (MM k) j = y := ⟨_, rfl⟩
              rw [hzi] at hf1 z0
              have HF1 := Lib.hid hf1
              have HF2 := Lib.hid hf2
              have HALL : Hid (∀ W, Below wr.heap.size wr W → W.cell? ⟨g, k, none⟩ = some (.slice (some ⟨gk, ok, none⟩) mk ck) ∧ W.cell? ⟨gk, ok + j * 2, none⟩ = some (.int .i64 zi)) := fun W hW => ⟨(hW.cell (p := ⟨g, k, none⟩) lg).trans t0, (hW.cell (p := ⟨gk, ok + j * 2, none⟩) lgk).trans z0⟩
              have KL : Below (wr.heap.size + 1) (wr.alloc (.cells #[.int .i64 yi, .string yc] 37)) (wr.alloc (.cells #[.int .i64 yi, .string yc] 37)) := Below.refl _ _
              obtain ⟨wa, hwa⟩ : ∃ wa, wr.alloc (.cells #[.int .i64 yi, .string yc] 37) = wa := ⟨_, rfl⟩
              have HWA := Lib.hid hwa
              rw [hwa] at KL E2 HBA HZW
              have zwa := HZW.out
              have KB : Below wr.heap.size wr wa := HBA.out
              have s0 : (wa.cell? ⟨u.heap.size, 0, none⟩ = some (.int .i64 (N : Int)) ∧ wa.cell? ⟨u.heap.size, 1, none⟩ = some (.int .i64 p) ∧ wa.cell? ⟨u.heap.size, 2, none⟩ = some (.slice a n c)) ∧ (wa.cell? ⟨wr.heap.size, 0, none⟩ = some (.int .i64 yi) ∧ wa.cell? ⟨wr.heap.size, 1, none⟩ = some (.string yc)) ∧ (wa.cell? ⟨g, k, none⟩ = some (.slice (some ⟨gk, ok, none⟩) mk ck) ∧ wa.cell? ⟨gk, ok + j * 2, none⟩ = some (.int .i64 zi)) := ⟨D3.out _ KB, E2.out _ KL, HALL.out _ KB⟩
              have CA : Hid (∀ W W', Below (wr.heap.size + 1) wa W → Below W.heap.size W W' → Below (wr.heap.size + 1) wa W') := fun W W' h1 h2 => h1.trans (h2.mono (by have := h1.size; omega))
              have CB : Hid (∀ W, Below (wr.heap.size + 1) wa W → Below wr.heap.size wr W) := fun W h1 => KB.trans (h1.mono (by omega))
              have hw9 : (wr.alloc (.cells #[.int .i64 yi, .string yc] 37)) = wa := hwa
              clear hf1 hf2 hzi hj e9 d0 d1 d2 g0 g1 g2 z0 e0 e1 ba hwa KB
              go_wp2_with fail
              try rw [hw9]
              clear hw9 t0 y0 y1
              go_region_held3 (fun w' => (w'.cell? ⟨u.heap.size, 0, none⟩ = some (.int .i64 (N : Int)) ∧ w'.cell? ⟨u.heap.size, 1, none⟩ = some (.int .i64 p) ∧ w'.cell? ⟨u.heap.size, 2, none⟩ = some (.slice a n c)) ∧ (w'.cell? ⟨wr.heap.size, 0, none⟩ = some (.int .i64 yi) ∧ w'.cell? ⟨wr.heap.size, 1, none⟩ = some (.string yc)) ∧ (w'.cell? ⟨g, k, none⟩ = some (.slice (some ⟨gk, ok, none⟩) mk ck) ∧ w'.cell? ⟨gk, ok + j * 2, none⟩ = some (.int .i64 zi))) (first | exact s0 | exact s7 | exact s8 | exact s9) (first
                | (go_at_call 17; refine (impl_PlanBin _ (N : Int) p a n c S (PL2.out.ps.on (CB.out _ (CA.out _ _ KL (by go_grown)))) PL2.out.pf hn2 yc (q : Int)).mono ?_; rw [HKB.out]; rintro e w7 ⟨rfl, k7⟩; have KL := CA.out _ _ (CA.out _ _ KL (by go_grown)) k7; have s7 : (w7.cell? ⟨u.heap.size, 0, none⟩ = some (.int .i64 (N : Int)) ∧ w7.cell? ⟨u.heap.size, 1, none⟩ = some (.int .i64 p) ∧ w7.cell? ⟨u.heap.size, 2, none⟩ = some (.slice a n c)) ∧ (w7.cell? ⟨wr.heap.size, 0, none⟩ = some (.int .i64 yi) ∧ w7.cell? ⟨wr.heap.size, 1, none⟩ = some (.string yc)) ∧ (w7.cell? ⟨g, k, none⟩ = some (.slice (some ⟨gk, ok, none⟩) mk ck) ∧ w7.cell? ⟨gk, ok + j * 2, none⟩ = some (.int .i64 zi)) := ⟨D3.out _ (CB.out _ KL), E2.out _ KL, HALL.out _ (CB.out _ KL)⟩)
                | (go_at_call_of 18 (Value.int .i64 zi); refine (soPlace_any _ a2 L.length c2 (nI L) (nC L) (PL2.out.ls.on (CB.out _ (CA.out _ _ KL (by go_grown)))) PL2.out.lf zi).mono ?_; rw [HF1.out]; rintro e w8 ⟨rfl, k8⟩; have KL := CA.out _ _ (CA.out _ _ KL (by go_grown)) k8; have s8 : (w8.cell? ⟨u.heap.size, 0, none⟩ = some (.int .i64 (N : Int)) ∧ w8.cell? ⟨u.heap.size, 1, none⟩ = some (.int .i64 p) ∧ w8.cell? ⟨u.heap.size, 2, none⟩ = some (.slice a n c)) ∧ (w8.cell? ⟨wr.heap.size, 0, none⟩ = some (.int .i64 yi) ∧ w8.cell? ⟨wr.heap.size, 1, none⟩ = some (.string yc)) ∧ (w8.cell? ⟨g, k, none⟩ = some (.slice (some ⟨gk, ok, none⟩) mk ck) ∧ w8.cell? ⟨gk, ok + j * 2, none⟩ = some (.int .i64 zi)) := ⟨D3.out _ (CB.out _ KL), E2.out _ KL, HALL.out _ (CB.out _ KL)⟩)
                | (go_at_call_of 18 (Value.int .i64 yi); refine (soPlace_any _ a2 L.length c2 (nI L) (nC L) (PL2.out.ls.on (CB.out _ (CA.out _ _ KL (by go_grown)))) PL2.out.lf yi).mono ?_; rw [HF2.out]; rintro e w9 ⟨rfl, k9⟩; have KL := CA.out _ _ (CA.out _ _ KL (by go_grown)) k9; have s9 : (w9.cell? ⟨u.heap.size, 0, none⟩ = some (.int .i64 (N : Int)) ∧ w9.cell? ⟨u.heap.size, 1, none⟩ = some (.int .i64 p) ∧ w9.cell? ⟨u.heap.size, 2, none⟩ = some (.slice a n c)) ∧ (w9.cell? ⟨wr.heap.size, 0, none⟩ = some (.int .i64 yi) ∧ w9.cell? ⟨wr.heap.size, 1, none⟩ = some (.string yc)) ∧ (w9.cell? ⟨g, k, none⟩ = some (.slice (some ⟨gk, ok, none⟩) mk ck) ∧ w9.cell? ⟨gk, ok + j * 2, none⟩ = some (.int .i64 zi)) := ⟨D3.out _ (CB.out _ KL), E2.out _ KL, HALL.out _ (CB.out _ KL)⟩))
              all_goals
                have B9 := Lib.hid (sstep hbi.out (CB.out _ KL))
                clear k7 k8 k9 s0 s7 s8 s9 KL
                go_wp2
                go_roundw
                case rel => exact ⟨i + 1, by omega, by go_num, by first | exact B9.out | exact below_drewS B9.out _⟩
                case measure => simp [intOf]; omega
            · obtain rfl : i = 0 := by omega
              rw [Nat.zero_mul, Nat.add_zero] at y0 y1
              have hi00 : ¬ (0 : Int) < 0 := by omega
              clear hi1
              have KL : Below (wr.heap.size + 1) (wr.alloc (.cells #[.int .i64 yi, .string yc] 37)) (wr.alloc (.cells #[.int .i64 yi, .string yc] 37)) := Below.refl _ _
              obtain ⟨wa, hwa⟩ : ∃ wa, wr.alloc (.cells #[.int .i64 yi, .string yc] 37) = wa := ⟨_, rfl⟩
              rw [hwa] at KL E2 HBA HZW
              have zwa := HZW.out
              have KB : Below wr.heap.size wr wa := HBA.out
              have s0 : (wa.cell? ⟨u.heap.size, 0, none⟩ = some (.int .i64 (N : Int)) ∧ wa.cell? ⟨u.heap.size, 1, none⟩ = some (.int .i64 p) ∧ wa.cell? ⟨u.heap.size, 2, none⟩ = some (.slice a n c)) ∧ (wa.cell? ⟨wr.heap.size, 0, none⟩ = some (.int .i64 yi) ∧ wa.cell? ⟨wr.heap.size, 1, none⟩ = some (.string yc)) := ⟨D3.out _ KB, E2.out _ KL⟩
              have CA : Hid (∀ W W', Below (wr.heap.size + 1) wa W → Below W.heap.size W W' → Below (wr.heap.size + 1) wa W') := fun W W' h1 h2 => h1.trans (h2.mono (by have := h1.size; omega))
              have CB : Hid (∀ W, Below (wr.heap.size + 1) wa W → Below wr.heap.size wr W) := fun W h1 => KB.trans (h1.mono (by omega))
              have hw9 : (wr.alloc (.cells #[.int .i64 yi, .string yc] 37)) = wa := hwa
              clear d0 d1 d2 g0 g1 g2 e0 e1 ba hwa KB
              go_wp2_with fail
              try rw [hw9]
              clear hw9 t0 y0 y1
              refine wp_region_noPanic ?_
              refine wp_region_held_drew (S := fun w' => (w'.cell? ⟨u.heap.size, 0, none⟩ = some (.int .i64 (N : Int)) ∧ w'.cell? ⟨u.heap.size, 1, none⟩ = some (.int .i64 p) ∧ w'.cell? ⟨u.heap.size, 2, none⟩ = some (.slice a n c)) ∧ (w'.cell? ⟨wr.heap.size, 0, none⟩ = some (.int .i64 yi) ∧ w'.cell? ⟨wr.heap.size, 1, none⟩ = some (.string yc))) (by kernel_rfl) (by exact s0) (fun hHeld => ?_)
              refine wpAnyH_take (i := 0) (oi := ⟨some 103, _, _, _, _, _⟩) (v := .agg #[.int .i64 (N : Int), .int .i64 p, .slice a n c]) rfl (by kernel_rfl) (by kernel_rfl) (by kernel_rfl) (fun _ _ _ h => h) (Or.inl ⟨by rfl, ?_⟩) (by assumption) ?_
              · intro w' hSw
                obtain ⟨⟨c0, c1, c2⟩, c3, c4⟩ := hSw
                go_simp
              try simp only [Act.put, List.setIfInBounds_toArray, List.set_cons_zero, List.set_cons_succ]
              refine wpAnyH_take (i := 1) (oi := ⟨some 104, _, _, _, _, _⟩) (v := .pointer (some ⟨wr.heap.size, 1, none⟩)) rfl (by kernel_rfl) (by kernel_rfl) (by kernel_rfl) (fun _ _ _ h => h) (Or.inl ⟨by rfl, ?_⟩) (by assumption) ?_
              · intro w' hSw
                obtain ⟨⟨c0, c1, c2⟩, c3, c4⟩ := hSw
                go_simp
              try simp only [Act.put, List.setIfInBounds_toArray, List.set_cons_zero, List.set_cons_succ]
              refine wpAnyH_take (i := 2) (oi := ⟨some 105, _, _, _, _, _⟩) (v := .string yc) rfl (by kernel_rfl) (by kernel_rfl) (by kernel_rfl) (fun _ _ _ h => h) (Or.inl ⟨by rfl, ?_⟩) (by assumption) ?_
              · intro w' hSw
                obtain ⟨⟨c0, c1, c2⟩, c3, c4⟩ := hSw
                go_simp
              try simp only [Act.put, List.setIfInBounds_toArray, List.set_cons_zero, List.set_cons_succ]
              refine wpAnyH_take (i := 3) (oi := ⟨some 106, _, _, _, _, _⟩) (v := .int .i64 (q : Int)) rfl (by kernel_rfl) (by kernel_rfl) (by kernel_rfl) (fun _ _ _ h => h) (Or.inl ⟨by rfl, ?_⟩) (by assumption) ?_
              · intro w' hSw
                obtain ⟨⟨c0, c1, c2⟩, c3, c4⟩ := hSw
                go_simp
              try simp only [Act.put, List.setIfInBounds_toArray, List.set_cons_zero, List.set_cons_succ]
              refine wpAnyH_take (i := 5) (oi := ⟨some 108, _, _, _, _, _⟩) (v := .int .i64 (k : Int)) rfl (by kernel_rfl) (by kernel_rfl) (by kernel_rfl) (fun _ _ _ h => h) (Or.inl ⟨by rfl, ?_⟩) (by assumption) ?_
              · intro w' hSw
                obtain ⟨⟨c0, c1, c2⟩, c3, c4⟩ := hSw
                go_simp
              try simp only [Act.put, List.setIfInBounds_toArray, List.set_cons_zero, List.set_cons_succ]
              refine wpAnyH_ready (rs := [4]) (by kernel_rfl) (by simp) ?_
              refine AllReadyH.cons (o := ⟨some 107, _, _, _, _, _⟩) rfl (fun K hK => ?_) AllReadyH.nil
              go_simp
              refine (impl_PlanBin _ (N : Int) p a n c S (PL2.out.ps.on (CB.out _ (CA.out _ _ KL (by go_grown)))) PL2.out.pf hn2 yc (q : Int)).mono ?_
              rw [HKB.out]
              rintro e w7 ⟨rfl, k7⟩
              have KL := CA.out _ _ (CA.out _ _ KL (by go_grown)) k7
              refine hK.out _ _ ⟨D3.out _ (CB.out _ KL), E2.out _ KL⟩ (fun hHeld2 => ?_)
              clear hK K hHeld
              try simp only [Act.put, List.setIfInBounds_toArray, List.set_cons_zero, List.set_cons_succ]
              refine wpAnyH_take (i := 6) (oi := ⟨some 109, _, _, _, _, _⟩) (v := .bool false) rfl (by kernel_rfl) (by kernel_rfl) (by kernel_rfl) (fun _ _ _ h => h) (Or.inl ⟨by rfl, ?_⟩) (by assumption) ?_
              · intro w' hSw
                obtain ⟨⟨c0, c1, c2⟩, c3, c4⟩ := hSw
                go_simp
              try simp only [Act.put, List.setIfInBounds_toArray, List.set_cons_zero, List.set_cons_succ]
              refine wpAnyH_take (i := 7) (oi := ⟨some 110, _, _, _, _, _⟩) (v := .bool false) rfl (by kernel_rfl) (by kernel_rfl) (by kernel_rfl) (fun _ _ _ h => h) (Or.inl ⟨by rfl, ?_⟩) (by assumption) ?_
              · intro w' hSw
                obtain ⟨⟨c0, c1, c2⟩, c3, c4⟩ := hSw
                go_simp
              try simp only [Act.put, List.setIfInBounds_toArray, List.set_cons_zero, List.set_cons_succ]
              refine wpAnyH_take (i := 8) (oi := ⟨some 111, _, _, _, _, _⟩) (v := .int .i64 0) rfl (by kernel_rfl) (by kernel_rfl) (by kernel_rfl) (fun _ _ _ h => h) (Or.inl ⟨by rfl, ?_⟩) (by assumption) ?_
              · intro w' hSw
                obtain ⟨⟨c0, c1, c2⟩, c3, c4⟩ := hSw
                go_simp
              try simp only [Act.put, List.setIfInBounds_toArray, List.set_cons_zero, List.set_cons_succ]
              refine wpAnyH_take (i := 9) (oi := ⟨some 112, _, _, _, _, _⟩) (v := .bool false) rfl (by kernel_rfl) (by kernel_rfl) (by kernel_rfl) (fun _ _ _ h => h) (Or.inl ⟨by rfl, ?_⟩) (by assumption) ?_
              · intro w' hSw
                obtain ⟨⟨c0, c1, c2⟩, c3, c4⟩ := hSw
                go_simp
              try simp only [Act.put, List.setIfInBounds_toArray, List.set_cons_zero, List.set_cons_succ]
              refine wpAnyH_take (i := 10) (oi := ⟨some 113, _, _, _, _, _⟩) (v := .bool false) rfl (by kernel_rfl) (by kernel_rfl) (by kernel_rfl) (fun _ _ _ h => h) (Or.inl ⟨by rfl, ?_⟩) (by assumption) ?_
              · intro w' hSw
                obtain ⟨⟨c0, c1, c2⟩, c3, c4⟩ := hSw
                go_simp
              try simp only [Act.put, List.setIfInBounds_toArray, List.set_cons_zero, List.set_cons_succ]
              refine wpAnyH_take (i := 11) (oi := ⟨some 114, _, _, _, _, _⟩) (v := undef) rfl (by kernel_rfl) (by kernel_rfl) (by kernel_rfl) (fun _ _ _ h => h) (Or.inr ⟨by kernel_rfl, rfl⟩) (by assumption) ?_
              try simp only [Act.put, List.setIfInBounds_toArray, List.set_cons_zero, List.set_cons_succ]
              refine wpAnyH_take (i := 12) (oi := ⟨some 115, _, _, _, _, _⟩) (v := undef) rfl (by kernel_rfl) (by kernel_rfl) (by kernel_rfl) (fun _ _ _ h => h) (Or.inr ⟨by kernel_rfl, rfl⟩) (by assumption) ?_
              try simp only [Act.put, List.setIfInBounds_toArray, List.set_cons_zero, List.set_cons_succ]
              refine wpAnyH_take (i := 13) (oi := ⟨some 116, _, _, _, _, _⟩) (v := undef) rfl (by kernel_rfl) (by kernel_rfl) (by kernel_rfl) (fun _ _ _ h => h) (Or.inr ⟨by kernel_rfl, rfl⟩) (by assumption) ?_
              try simp only [Act.put, List.setIfInBounds_toArray, List.set_cons_zero, List.set_cons_succ]
              refine wpAnyH_take (i := 14) (oi := ⟨some 117, _, _, _, _, _⟩) (v := undef) rfl (by kernel_rfl) (by kernel_rfl) (by kernel_rfl) (fun _ _ _ h => h) (Or.inr ⟨by kernel_rfl, rfl⟩) (by assumption) ?_
              try simp only [Act.put, List.setIfInBounds_toArray, List.set_cons_zero, List.set_cons_succ]
              refine wpAnyH_take (i := 15) (oi := ⟨some 118, _, _, _, _, _⟩) (v := undef) rfl (by kernel_rfl) (by kernel_rfl) (by kernel_rfl) (fun _ _ _ h => h) (Or.inr ⟨by kernel_rfl, rfl⟩) (by assumption) ?_
              try simp only [Act.put, List.setIfInBounds_toArray, List.set_cons_zero, List.set_cons_succ]
              refine wpAnyH_take (i := 16) (oi := ⟨some 119, _, _, _, _, _⟩) (v := undef) rfl (by kernel_rfl) (by kernel_rfl) (by kernel_rfl) (fun _ _ _ h => h) (Or.inr ⟨by kernel_rfl, rfl⟩) (by assumption) ?_
              try simp only [Act.put, List.setIfInBounds_toArray, List.set_cons_zero, List.set_cons_succ]
              refine wpAnyH_take (i := 17) (oi := ⟨some 120, _, _, _, _, _⟩) (v := undef) rfl (by kernel_rfl) (by kernel_rfl) (by kernel_rfl) (fun _ _ _ h => h) (Or.inr ⟨by kernel_rfl, rfl⟩) (by assumption) ?_
              try simp only [Act.put, List.setIfInBounds_toArray, List.set_cons_zero, List.set_cons_succ]
              refine wpAnyH_take (i := 18) (oi := ⟨some 121, _, _, _, _, _⟩) (v := undef) rfl (by kernel_rfl) (by kernel_rfl) (by kernel_rfl) (fun _ _ _ h => h) (Or.inr ⟨by kernel_rfl, rfl⟩) (by assumption) ?_
              try simp only [Act.put, List.setIfInBounds_toArray, List.set_cons_zero, List.set_cons_succ]
              refine wpAnyH_take (i := 19) (oi := ⟨some 122, _, _, _, _, _⟩) (v := undef) rfl (by kernel_rfl) (by kernel_rfl) (by kernel_rfl) (fun _ _ _ h => h) (Or.inr ⟨by kernel_rfl, rfl⟩) (by assumption) ?_
              try simp only [Act.put, List.setIfInBounds_toArray, List.set_cons_zero, List.set_cons_succ]
              refine wpAnyH_take (i := 20) (oi := ⟨some 123, _, _, _, _, _⟩) (v := undef) rfl (by kernel_rfl) (by kernel_rfl) (by kernel_rfl) (fun _ _ _ h => h) (Or.inr ⟨by kernel_rfl, rfl⟩) (by assumption) ?_
              try simp only [Act.put, List.setIfInBounds_toArray, List.set_cons_zero, List.set_cons_succ]
              refine wpAnyH_take (i := 21) (oi := ⟨some 124, _, _, _, _, _⟩) (v := undef) rfl (by kernel_rfl) (by kernel_rfl) (by kernel_rfl) (fun _ _ _ h => h) (Or.inr ⟨by kernel_rfl, rfl⟩) (by assumption) ?_
              try simp only [Act.put, List.setIfInBounds_toArray, List.set_cons_zero, List.set_cons_succ]
              refine wpAnyH_take (i := 22) (oi := ⟨some 125, _, _, _, _, _⟩) (v := undef) rfl (by kernel_rfl) (by kernel_rfl) (by kernel_rfl) (fun _ _ _ h => h) (Or.inr ⟨by kernel_rfl, rfl⟩) (by assumption) ?_
              try simp only [Act.put, List.setIfInBounds_toArray, List.set_cons_zero, List.set_cons_succ]
              refine wpAnyH_take (i := 23) (oi := ⟨some 126, _, _, _, _, _⟩) (v := undef) rfl (by kernel_rfl) (by kernel_rfl) (by kernel_rfl) (fun _ _ _ h => h) (Or.inr ⟨by kernel_rfl, rfl⟩) (by assumption) ?_
              try simp only [Act.put, List.setIfInBounds_toArray, List.set_cons_zero, List.set_cons_succ]
              refine wpAnyH_take (i := 24) (oi := ⟨some 127, _, _, _, _, _⟩) (v := undef) rfl (by kernel_rfl) (by kernel_rfl) (by kernel_rfl) (fun _ _ _ h => h) (Or.inr ⟨by kernel_rfl, rfl⟩) (by assumption) ?_
              try simp only [Act.put, List.setIfInBounds_toArray, List.set_cons_zero, List.set_cons_succ]
              refine wpAnyH_take (i := 25) (oi := ⟨some 128, _, _, _, _, _⟩) (v := undef) rfl (by kernel_rfl) (by kernel_rfl) (by kernel_rfl) (fun _ _ _ h => h) (Or.inr ⟨by kernel_rfl, rfl⟩) (by assumption) ?_
              try simp only [Act.put, List.setIfInBounds_toArray, List.set_cons_zero, List.set_cons_succ]
              refine wpAnyH_take (i := 26) (oi := ⟨some 129, _, _, _, _, _⟩) (v := undef) rfl (by kernel_rfl) (by kernel_rfl) (by kernel_rfl) (fun _ _ _ h => h) (Or.inr ⟨by kernel_rfl, rfl⟩) (by assumption) ?_
              try simp only [Act.put, List.setIfInBounds_toArray, List.set_cons_zero, List.set_cons_succ]
              refine wpAnyH_take (i := 27) (oi := ⟨some 130, _, _, _, _, _⟩) (v := .bool false) rfl (by kernel_rfl) (by kernel_rfl) (by kernel_rfl) (fun _ _ _ h => h) (Or.inl ⟨by kernel_rfl, fun _ _ => by kernel_rfl⟩) (by assumption) ?_
              try simp only [Act.put, List.setIfInBounds_toArray, List.set_cons_zero, List.set_cons_succ]
              refine wpAnyH_take (i := 28) (oi := ⟨some 131, _, _, _, _, _⟩) (v := .bool false) rfl (by kernel_rfl) (by kernel_rfl) (by kernel_rfl) (fun _ _ _ h => h) (Or.inl ⟨by kernel_rfl, fun _ _ => by kernel_rfl⟩) (by assumption) ?_
              try simp only [Act.put, List.setIfInBounds_toArray, List.set_cons_zero, List.set_cons_succ]
              refine wpAnyH_done (by kernel_rfl) ?_ _
              refine NoPanic.normal ?_
              all_goals
                have B9 := Lib.hid (sstep hbi.out (CB.out _ KL))
                clear k7 KL s0 hHeld2
                go_wp2
                go_roundw
                case rel => exact ⟨0 + 1, by omega, by go_num, by first | exact B9.out | exact below_drewS B9.out _⟩
                case measure => simp [intOf]; omega
          · obtain rfl : i = mk := by omega
            obtain ⟨a6, c6, e6, hcl⟩ := (R5.out.on hbi.out).cells
            injection e6 with e61 e62 e63
            subst e61
            obtain ⟨g5, hg5, q5⟩ := hcl k (by rw [HLDL.out]; exact hlt)
            subst hg5
            have hk5 : (k : Int) < (LD.length : Int) := by rw [HLDL.out]; exact hki
            rw [HLDA.out k (by rw [HLDL.out]; exact hlt), HMK.out] at q5
            have hmm : ((i : Int) != (i : Int)) = false := by simp
            clear hcl e62 e63
            go_wp2
            go_quiet (fail)
            go_wp2
            go_roundw
            case rel => exact ⟨k + 1, s + i, by omega, by go_num, by go_num, hsn, below_drewS hbi.out _⟩
            case measure => simp [intOf]; omega
      · obtain rfl : k = N := by omega
        have hsl : s = L.length := by rw [hs.out]; exact HLEN.out
        clear hs
        subst hsl
        go_wp2
        go_loopw [17] (fun i wr => ∃ (j : Nat), j ≤ LL.length ∧ i = .int .i64 j ∧ Hid (Below Z.heap.size Z wr)) (fun i _ => LL.length - (intOf i).toNat)
        case atStart => exact ⟨0, Nat.zero_le _, rfl, hbw⟩
        case round =>
          obtain ⟨i, hi, rfl, hbi⟩ := hrel
          have X2 := Lib.hid (X.out.on hbi.out)
          have PL2 := Lib.hid (PL.out.on hbi.out)
          obtain ⟨⟨d0, d1, d2⟩, g0, g1, g2⟩ := X2.out
          have lx := X2.out.lt
          by_cases hil : i < LL.length
          · have hii : (i : Int) < (LL.length : Int) := by omega
            have hi0 : (0 : Int) ≤ (i : Int) := by omega
            have hrk := HRK.out i hil
            have lr : Lts wr a1 LL.length (nI LL) (nC LL) := by
              obtain ⟨a9, c9, e9, _, l9⟩ := (R1.out.on hbi.out).form
              injection e9 with q1 q2 q3 <;> (subst q1; exact l9)
            obtain ⟨gk, ok, hak, _, y1⟩ := lr i hil
            subst hak
            generalize nC LL i = yc at hrk y1
            have HRB := Lib.hid hrk
            have lgk := World.block_lt_of_cell? _ _ y1
            have s0 : (wr.cell? ⟨u.heap.size, 0, none⟩ = some (.int .i64 (k : Int)) ∧ wr.cell? ⟨u.heap.size, 1, none⟩ = some (.int .i64 p) ∧ wr.cell? ⟨u.heap.size, 2, none⟩ = some (.slice a n c)) ∧ wr.cell? ⟨gk, ok + i * 2 + 1, none⟩ = some (.string yc) := ⟨⟨d0, d1, d2⟩, y1⟩
            clear hrk lr
            go_wp2_with fail
            go_region_held3 (fun w' => (w'.cell? ⟨u.heap.size, 0, none⟩ = some (.int .i64 (k : Int)) ∧ w'.cell? ⟨u.heap.size, 1, none⟩ = some (.int .i64 p) ∧ w'.cell? ⟨u.heap.size, 2, none⟩ = some (.slice a n c)) ∧ w'.cell? ⟨gk, ok + i * 2 + 1, none⟩ = some (.string yc)) (first | exact s0 | exact s7) (first
              | (go_at_call 19; refine (impl_PlanRank _ (k : Int) p a n c S (PL2.out.ps.on (by go_grown)) PL2.out.pf hn2 yc).mono ?_; rw [HRB.out]; rintro e w7 ⟨rfl, k7⟩; have K7 : Below wr.heap.size wr w7 := (by exact sstep (by go_grown) k7); have s7 : (w7.cell? ⟨u.heap.size, 0, none⟩ = some (.int .i64 (k : Int)) ∧ w7.cell? ⟨u.heap.size, 1, none⟩ = some (.int .i64 p) ∧ w7.cell? ⟨u.heap.size, 2, none⟩ = some (.slice a n c)) ∧ w7.cell? ⟨gk, ok + i * 2 + 1, none⟩ = some (.string yc) := ⟨⟨(K7.cell (p := ⟨u.heap.size, 0, none⟩) lx).trans d0, (K7.cell (p := ⟨u.heap.size, 1, none⟩) lx).trans d1, (K7.cell (p := ⟨u.heap.size, 2, none⟩) lx).trans d2⟩, (K7.cell (p := ⟨gk, ok + i * 2 + 1, none⟩) lgk).trans y1⟩))
            have B9 := Lib.hid (sstep hbi.out K7)
            clear k7 K7 s0 s7 y1 d0 d1 d2 g0 g1 g2 lx
            go_wp2
            go_roundw
            case rel => exact ⟨i + 1, by omega, by go_num, by first | exact B9.out | exact below_drewS B9.out _⟩
            case measure => simp [intOf]; omega
          · obtain rfl : i = LL.length := by omega
            have hldn : LD.length = k := HLDL.out
            have HQ := Lib.hid hldn
            have hq5 : ((LD.length : Int) == (k : Int)) = true := by rw [hldn]; simp
            clear hldn
            go_wp2
            go_ret
            exact ⟨rfl, step HV6.out hbi.out⟩

set_option maxRecDepth 100000 in
theorem lifted (os : Os) (started : os.Started) (H : Type) (enc : TypeId × Value → H) :
    ReturnsInHanded {} Try.checked os 3 .any (Rows.fnPlanPassSpec.pre6 enc Try.prog Try.f3 Rows.fnPlanPassRow.domain false) (Rows.fnPlanPassSpec.post enc Try.prog Try.f3 false true false false) := by
  refine returnsInHanded_of_change (C := Try.checked) own started (by kernel_rfl) Try.func3
    (ChangeSpec.witness6 (enc := enc) (C := Try.checked) false ⟨#[], #[.slice none 0 0], []⟩ 8 (by kernel_rfl) (by kernel_rfl) (by kernel_rfl) (by kernel_rfl)) ?_
  intro W base args ds gs before hval0 hW hcnd _
  have hval : ∀ (j : Nat) t v, Try.f3.params[j]? = some t → args[j]? = some v → Value.okWide Try.prog W .any base t v := hval0
  have hW' := hW
  obtain ⟨p, q, hA0, hV, rfl, hfz, hnd⟩ := hW
  have hA : DataW.TrodAll enc Try.prog W 0 (fun _ => true) true Try.f3.params.toList args.toList ds p := hA0
  rw [Try.params3] at hA hval
  obtain ⟨v0, vs0, d0, ds0, p0, q0, hargs, rfl, rfl, h0, r0⟩ := trodAll_cons hA
  obtain ⟨rfl, rfl, rfl⟩ := trodAll_nil r0
  obtain rfl : args = #[v0] := by cases args; simp_all
  obtain ⟨rfl, rfl⟩ := trodVars_none hV
  have g0 := h0
  have lt0 : ∀ x ∈ p0, x.block < W.heap.size := by obtain ⟨m, hm⟩ := g0; exact DataW.trod_lt m _ _ _ hm
  obtain ⟨a0, l0, k0, rfl⟩ := okWide_slice Try.underlying22 (hval 0 22 v0 rfl rfl)
  obtain ⟨z0, w0⟩ : ∃ zs, IsRow .u8 W a0 l0 k0 zs := by
    obtain ⟨fuel, hf⟩ := h0
    rcases open_ints Try.underlying22 Try.underlying5 (by kernel_rfl) hf with ⟨hcs, _⟩ | ⟨x, l, c, zs, hcs, _, hl, hm, hz, _, hcell, hwz⟩
    · simp [Value.cells] at hcs
      obtain ⟨rfl, rfl, rfl⟩ := hcs
      exact ⟨[], .inl ⟨rfl, rfl, rfl, rfl⟩⟩
    · simp [Value.cells] at hcs
      obtain ⟨rfl, rfl, rfl⟩ := hcs
      exact ⟨zs, .inr ⟨_, rfl, hl, hm, by simpa using hz, hcell, hwz⟩⟩
  clear hA0 hval0
  refine (walk W a0 l0 k0 z0 w0).mono fun e W' ⟨he, bel⟩ => ?_
  subst he
  exact ⟨_, rfl, _, _, _, [], _, [], hW', trodAll_mk1 (shut_bool Try.underlying4 _), (trodAll_cons_mk (Below.trod laidOut (by kernel_rfl) (of_decide_eq_true (by kernel_rfl)) g0 bel lt0) trodAll_mk0), rfl, bel.frame _, fun h => by cases h⟩

theorem proved : Rows.FnPlanPassSaid :=
  OpenClaim.holds_of_wide 3 Try.f3 rfl rfl rfl rfl rfl rfl rfl ⟨rfl, rfl, rfl, rfl, rfl⟩ rfl rfl rfl rfl rfl (by kernel_rfl) Try.func3 (by kernel_rfl)
    (of_decide_eq_true (by kernel_rfl)) (by unfold Func.isWrapper; first | (rw [if_pos (by decide +kernel)]; kernel_rfl) | (rw [if_neg (by decide +kernel)]; exact ⟨rfl, rfl⟩))
    (fun os started H enc _ => lifted os started H enc)
#print axioms proved
end Go.Proofs.Ytbcoklognedffaa.fnPlanPass
