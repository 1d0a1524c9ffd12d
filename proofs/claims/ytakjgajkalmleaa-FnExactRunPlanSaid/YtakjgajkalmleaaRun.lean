/-
  What RunPlan returns, in the program and in the model of the document.
-/
import Derived.Test.YtakjgajkalmleaaRunM
import Derived.Test.YtakjgajkalmleaaPPass3
import Derived.Test.YtakjgajkalmleaaConcat
import Derived.Test.YtakjgajkalmleaaSplit
import Derived.Test.YtakjgajkalmleaaMark
namespace Go.Proofs.Ytakjgajkalmleaa
open Go.RowKit
open Go.PlainAid (bt get_bt bt_nonneg bt_le)
set_option linter.unusedVariables false

theorem bdrew (w : World) : Below w.heap.size w w.drew := (Below.refl _ _).drew
theorem passOk_zero {b p : Int} {n : Nat} {S : Nat → ByteArray} {m : Nat} {I : Nat → Int} {C : Nat → ByteArray} : M.passOk b p n S m I C 0 = runOk b p n S m I C := by
  unfold M.passOk runOk
  cases hp : M.plan b p n S
  · rfl
  · have := (M.plan_shape hp).2.2.1
    rw [decide_eq_true (by omega), Bool.and_true]
/-- A pass over the letters of bins. -/
theorem pass_again {b p : Int} {n : Nat} {S : Nat → ByteArray} (hp : M.plan b p n S = true) {L : List (Int × ByteArray)} (hL : BatchL L) {x : Nat} (hx : (x : Int) < p) (W : World) (a : Option Addr) (c : Nat) (a2 : Option Addr) (c2 : Nat) (hs : Strs W a n S) (hf : SFits n S) (hn : n ≤ 1048576) (hl : Lts W a2 L.length (nI L) (nC L)) :
    Calls Try.prog 65 #[.agg #[.int .i64 b, .int .i64 p, .slice a n c], .slice a2 L.length c2, .int .i64 x] W (PassRes W true b.toNat (stepB b n S L x) (M.restTo (M.planKey b n S (nC L) x) (nI L) (nC L) L.length)) := by
  have hb := (batchL_list L).2 hL
  have hk : M.passOk b p n S L.length (nI L) (nC L) x = true := by
    unfold M.passOk
    rw [hp, hb, decide_eq_true (by omega)]; rfl
  have := impl_PlanPass_any W b p a n c S hs hf hn a2 L.length c2 (nI L) (nC L) hl hL.fits x
  unfold PassRet at this
  rw [hk, if_pos rfl, if_pos rfl, Int.toNat_natCast] at this
  exact this

set_option maxHeartbeats 4000000 in
set_option maxRecDepth 100000 in
theorem impl_RunPlan (w : World) (b p : Int) (a : Option Addr) (n c : Nat) (S : Nat → ByteArray) (h : Strs w a n S) (hf : SFits n S) (hn : n ≤ 1048576) (a2 : Option Addr) (m c2 : Nat) (I : Nat → Int) (C : Nat → ByteArray) (h2 : Lts w a2 m I C) (hf2 : Fits m I C) (hm : m ≤ 1048576) :
    Calls Try.prog 30 #[.agg #[.int .i64 b, .int .i64 p, .slice a n c], .slice a2 m c2] w (Split w (runOk b p n S m I C) (runList b p n S m I C) (runRest b p n S m I C)) := by
  have b0 := below_alloc0 w (.cells #[.int .i64 b, .int .i64 p, .slice a n c] 48)
  have HS := Lib.hid (h.on b0)
  have HF := Lib.hid hf
  have HR := Lib.hid (impl_PlanPass_any _ b p a n c S (h.on b0) hf hn a2 m c2 I C (h2.on b0) hf2 0)
  have bx := Lib.hid (tri_made w (.int .i64 b) (.int .i64 p) (.slice a n c) 48)
  have B0 := Lib.hid b0
  unfold PassRet at HR
  rw [passOk_zero] at HR
  clear h hf h2 hf2 b0
  unfold runList runRest
  cases hk : runOk b p n S m I C
  · rw [hk, if_neg (by decide), if_neg (by decide)] at HR
    rw [if_neg (by decide), if_neg (by decide)]
    clear hk
    go_enter Try.func30, Try.ntmps30
    go_wp2_with fail
    refine HR.out.mono ?_
    rintro e w1 ⟨v, V, u, rfl, hm1, hr1, hap, hb1⟩
    go_wp2
    go_ret3
    exact ⟨_, _, rfl, Row.nil _ _, Row.nil _ _, Apart.nil _, sstep B0.out hb1⟩
  · obtain ⟨hp, hb⟩ := runOk_yes hk
    obtain ⟨s1, s2, s3, s4⟩ := M.plan_shape hp
    rw [hk, if_pos rfl, if_pos rfl] at HR
    rw [if_pos rfl, if_pos rfl]
    have HR' : Hid (Calls Try.prog 65 #[.agg #[.int .i64 b, .int .i64 p, .slice a n c], .slice a2 m c2, .int .i64 0] (w.alloc (.cells #[.int .i64 b, .int .i64 p, .slice a n c] 48)) (PassRes (w.alloc (.cells #[.int .i64 b, .int .i64 p, .slice a n c] 48)) true b.toNat (binsAt b n S m I C 0) (M.restTo (M.planKey b n S C 0) I C m))) := HR
    have HB := Lib.hid (bins_batch (n := n) (S := S) s1 hb)
    have HP := Lib.hid (fun (L : List (Int × ByteArray)) (hL : BatchL L) (x : Nat) (hx : (x : Int) < p) (W : World) (a2 : Option Addr) (c2 : Nat) (hs : Strs W a n S) (hl : Lts W a2 L.length (nI L) (nC L)) => pass_again hp hL hx W a c a2 c2 hs HF.out hn hl)
    have HSU : Hid (∀ t, binsAt b n S m I C (t + 1) = stepB b n S (M.flat (binsAt b n S m I C t) b.toNat) (t + 1)) := fun t => rfl
    obtain ⟨q, rfl⟩ := Int.eq_ofNat_of_zero_le (show 0 ≤ p by omega)
    obtain ⟨B, rfl⟩ := Int.eq_ofNat_of_zero_le (show 0 ≤ b by omega)
    rw [Int.toNat_natCast] at HR' HB HP HSU ⊢
    rw [Int.toNat_natCast]
    obtain ⟨BA, hBA⟩ : ∃ BA, binsAt (B : Int) n S m I C = BA := ⟨_, rfl⟩
    obtain ⟨LR, hLR⟩ : ∃ LR, M.restTo (M.planKey (B : Int) n S C 0) I C m = LR := ⟨_, rfl⟩
    rw [hBA] at HR' HB HSU ⊢
    rw [hLR] at HR' ⊢
    clear hk hp hb HR hBA hLR
    go_enter Try.func30, Try.ntmps30
    go_wp2_with fail
    refine HR'.out.mono ?_
    rintro e w1 ⟨v, V, u, rfl, hm1, hr1, hap, hb1⟩
    have BL := Lib.hid (sstep B0.out hb1)
    have zz := BL.out.size
    have bx1 := Lib.hid (bx.out.on hb1)
    have HS1 := Lib.hid (HS.out.on hb1)
    have HM1 := Lib.hid (hm1.lower (base' := w.heap.size) (by simp))
    have HU1 := Lib.hid (hr1.lower (base' := w.heap.size) (by simp))
    clear hm1 hr1 hap hb1 HR' B0 bx HS
    go_wp2
    go_loopw [7, 10] (fun x i wr => ∃ (t : Nat) (V : Nat → Value), t + 1 ≤ q ∧ i = .int .i64 ((t + 1 : Nat) : Int) ∧ Hid (Mat wr w.heap.size x B V (BA t)) ∧ Hid (Row wr w.heap.size u LR) ∧ Hid (Strs wr a n S) ∧ Hid (Tri wr w.heap.size (.int .i64 (B : Int)) (.int .i64 (q : Int)) (.slice a n c)) ∧ Hid (Below w.heap.size w wr)) (fun _ i _ => q - (intOf i).toNat)
    case atStart => exact ⟨0, V, by omega, rfl, HM1, HU1, HS1, bx1, BL⟩
    case round =>
      obtain ⟨t, V, ht, rfl, hm, hu, hs, hx, hbw⟩ := hrel
      obtain ⟨⟨t0, t1, t2⟩, _⟩ := hx.out
      have hlx := hx.out.lt
      obtain ⟨X, hX⟩ : ∃ X : Nat, t + 1 = X := ⟨_, rfl⟩
      have hfl : (M.flat (BA t) B).length ≤ 60 := (HB.out t).2.2
      have HC := Lib.hid (fun W (hW : Below wr.heap.size wr W) => slices_Concat W w.heap.size u7 B V (BA t) (hm.out.on hW) (by omega) (by omega))
      by_cases hlt : t + 1 < q
      · have HPt := Lib.hid (HP.out (M.flat (BA t) B) (HB.out t) (t + 1) (by omega))
        have HSt := Lib.hid (HSU.out t)
        rw [hX] at HPt HSt ⊢
        have HX := Lib.hid hX
        have hXq : (X : Int) < (q : Int) := by omega
        have hX0 : X ≤ 4 := by omega
        clear hX
        go_wp2
        go_region_with (first
          | (go_at_call 54; refine (HC.out _ (by first | exact Below.refl _ _ | exact bdrew _)).mono ?_; rintro e wc ⟨vc, rfl, rc, kc⟩; have kC : Below wr.heap.size wr wc := (by first | exact kc | exact sstep (bdrew _) kc); obtain ⟨ac, cc, hvc, _, hlc⟩ := rc.form; cases hvc; have HLC := Lib.hid hlc; have KC := Lib.hid kC; have hzc := kC.size; obtain ⟨⟨e0, e1, e2⟩, _⟩ := hx.out.on kC; clear rc kc kC hlc)
          | (go_at_call 65; refine (HPt.out _ ac cc (by first | exact hs.out.on KC.out | exact (hs.out.on KC.out).on (bdrew _)) (by first | exact HLC.out | exact HLC.out.on (bdrew _))).mono ?_; rintro e wp ⟨vp, Vp, up, rfl, hmp, hup, happ, kp⟩; have kP : Below wr.heap.size wr wp := (by first | exact sstep KC.out kp | exact sstep (sstep KC.out (bdrew _)) kp); have HMP := Lib.hid hmp; have KP := Lib.hid kP; have hzp := kP.size; clear hmp hup happ kp kP e0 e1 e2))
        all_goals
          have hzw := hbw.out.size
          have Q1 : Hid (Mat wp w.heap.size vp B Vp (BA X)) := by rw [HSt.out]; exact HMP.out.lower (by omega)
          have Q2 := Lib.hid (hu.out.on KP.out)
          have Q3 := Lib.hid (hs.out.on KP.out)
          have Q4 := Lib.hid (hx.out.on KP.out)
          have Q5 := Lib.hid (sstep hbw.out KP.out)
          go_wp2
          go_roundw
          case rel => exact ⟨X, Vp, by omega, by go_num, Q1, Q2, Q3, Q4, Q5⟩
          case measure => simp [intOf]; omega
      · have htq : q - 1 = t := by omega
        go_wp2_with fail
        refine (HC.out _ (Below.refl _ _)).mono ?_
        rintro e wc ⟨vc, rfl, rc, kc⟩
        have hzw := hbw.out.size
        go_wp2
        go_ret3
        refine ⟨_, _, rfl, ?_, hu.out.on kc, (hu.out.older rc (Nat.le_refl _)).symm, sstep hbw.out kc⟩
        rw [htq]
        exact rc.lower hzw

set_option maxHeartbeats 4000000 in
set_option maxRecDepth 100000 in
theorem spec_RunPlan (w : World) (b p : Int) (a : Option Addr) (n c : Nat) (S : Nat → ByteArray) (h : Strs w a n S) (hf : SFits n S) (hn : n ≤ 1048576) (a2 : Option Addr) (m c2 : Nat) (I : Nat → Int) (C : Nat → ByteArray) (h2 : Lts w a2 m I C) (hf2 : Fits m I C) (hm : m ≤ 1048576) :
    Calls Try.prog 28 #[.agg #[.int .i64 b, .int .i64 p, .slice a n c], .slice a2 m c2] w (Split w (runOk b p n S m I C) (runList b p n S m I C) (runRest b p n S m I C)) := by
  have b0 := below_alloc0 w (.cells #[.int .i64 b, .int .i64 p, .slice a n c] 48)
  have HS := Lib.hid (h.on b0)
  have HL2 := Lib.hid (h2.on b0)
  have HR := Lib.hid (spec_l3Ready _ b p a n c S (h.on b0) hf hn a2 m c2 I C (h2.on b0) hf2 hm)
  have bx := Lib.hid (tri_made w (.int .i64 b) (.int .i64 p) (.slice a n c) 48)
  have B0 := Lib.hid b0
  have hro : (M.plan b p n S && M.batch m I C) = runOk b p n S m I C := rfl
  rw [hro] at HR
  clear h hf h2 hf2 b0 hro
  unfold runList runRest
  cases hk : runOk b p n S m I C
  · rw [hk] at HR
    rw [if_neg (by decide), if_neg (by decide)]
    clear hk
    go_enter Try.func28, Try.ntmps28
    go_wp2_with fail
    refine HR.out.mono ?_
    rintro e w1 ⟨rfl, hb1⟩
    have BL := Lib.hid (sstep B0.out hb1)
    have zz := BL.out.size
    obtain ⟨r1, r2, r3⟩ := two_empty w1
    go_wp2
    go_ret3
    exact ⟨_, _, rfl, r1.lower zz, r2.lower zz, r3, sstep BL.out (by go_grown)⟩
  · obtain ⟨hp, hb⟩ := runOk_yes hk
    obtain ⟨s1, s2, s3, s4⟩ := M.plan_shape hp
    rw [hk] at HR
    rw [if_pos rfl, if_pos rfl]
    have HB := Lib.hid (bins_batch (n := n) (S := S) s1 hb)
    have HSU : Hid (∀ t, binsAt b n S m I C (t + 1) = stepB b n S (M.flat (binsAt b n S m I C t) b.toNat) (t + 1)) := fun t => rfl
    have HS0 : Hid (binsAt b n S m I C 0 = M.binTo (M.planKey b n S C 0) I C m) := rfl
    obtain ⟨q, rfl⟩ := Int.eq_ofNat_of_zero_le (show 0 ≤ p by omega)
    obtain ⟨B, rfl⟩ := Int.eq_ofNat_of_zero_le (show 0 ≤ b by omega)
    rw [Int.toNat_natCast] at HB HSU ⊢
    rw [Int.toNat_natCast]
    have HP0 := Lib.hid (fun (W : World) (hs : Strs W a n S) (hl : Lts W a2 m I C) => spec_l3Pass W B (q : Int) a n c S hs hn a2 m c2 I C hl hm 0 s1 s2 (by omega))
    have HP : Hid (∀ (L : List (Int × ByteArray)) (hL : L.length ≤ 60) (x : Nat) (hx : x ≤ 3) (W : World) (a2 : Option Addr) (c2 : Nat) (hs : Strs W a n S) (hl : Lts W a2 L.length (nI L) (nC L)), Calls Try.prog 63 #[.agg #[.int .i64 (B : Int), .int .i64 (q : Int), .slice a n c], .slice a2 L.length c2, .int .i64 x] W (TwoOut W B (stepB B n S L x) (M.restTo (M.planKey B n S (nC L) x) (nI L) (nC L) L.length))) := fun L hL x hx W a2 c2 hs hl => spec_l3Pass W B (q : Int) a n c S hs hn a2 L.length c2 (nI L) (nC L) hl (by omega) x s1 s2 hx
    obtain ⟨BA, hBA⟩ : ∃ BA, binsAt (B : Int) n S m I C = BA := ⟨_, rfl⟩
    obtain ⟨LR, hLR⟩ : ∃ LR, M.restTo (M.planKey (B : Int) n S C 0) I C m = LR := ⟨_, rfl⟩
    rw [hBA] at HB HSU HS0 ⊢
    rw [hLR] at HP0 ⊢
    rw [← HS0.out] at HP0
    clear hk hp hb hBA hLR HS0
    go_enter Try.func28, Try.ntmps28
    go_wp2_with fail
    refine HR.out.mono ?_
    rintro e w0 ⟨rfl, hb0⟩
    have BL0 := Lib.hid (sstep B0.out hb0)
    have zz0 := BL0.out.size
    have bx0 := Lib.hid (bx.out.on hb0)
    have HS0 := Lib.hid (HS.out.on hb0)
    have HL0 := Lib.hid (HL2.out.on hb0)
    clear hb0 HR B0 bx HS HL2
    obtain ⟨⟨t0, t1, t2⟩, _⟩ := bx0.out
    go_wp2_with fail
    refine (HP0.out _ HS0.out HL0.out).mono ?_
    rintro e w1 ⟨G, V, u, rfl, hm1, hr1, hap, hb1⟩
    have BL := Lib.hid (sstep BL0.out hb1)
    have zz := BL.out.size
    have bx1 := Lib.hid (bx0.out.on hb1)
    have HS1 := Lib.hid (HS0.out.on hb1)
    have HM1 := Lib.hid (hm1.lower (base' := w.heap.size) zz0)
    have HU1 := Lib.hid (hr1.lower (base' := w.heap.size) zz0)
    clear hm1 hr1 hap hb1 HP0 BL0 bx0 HS0 HL0 t0 t1 t2 zz0
    go_wp2
    go_loopw [7, 9] (fun x i wr => ∃ (t : Nat) (V : Nat → Value), t + 1 ≤ q ∧ i = .int .i64 ((t + 1 : Nat) : Int) ∧ Hid (Mat wr w.heap.size x B V (BA t)) ∧ Hid (Row wr w.heap.size u LR) ∧ Hid (Strs wr a n S) ∧ Hid (Tri wr w.heap.size (.int .i64 (B : Int)) (.int .i64 (q : Int)) (.slice a n c)) ∧ Hid (Below w.heap.size w wr)) (fun _ i _ => q - (intOf i).toNat)
    case atStart => exact ⟨0, V, by omega, rfl, HM1, HU1, HS1, bx1, BL⟩
    case round =>
      obtain ⟨t, V, ht, rfl, hm, hu, hs, hx, hbw⟩ := hrel
      obtain ⟨⟨t0, t1, t2⟩, _⟩ := hx.out
      have hlx := hx.out.lt
      obtain ⟨X, hX⟩ : ∃ X : Nat, t + 1 = X := ⟨_, rfl⟩
      have hfl : (M.flat (BA t) B).length ≤ 60 := (HB.out t).2.2
      have HC := Lib.hid (fun W (hW : Below wr.heap.size wr W) => spec_l2Collect W w.heap.size u7 B V (BA t) (hm.out.on hW) (by omega) (by omega))
      by_cases hlt : t + 1 < q
      · have HPt := Lib.hid (HP.out (M.flat (BA t) B) hfl (t + 1) (by omega))
        have HSt := Lib.hid (HSU.out t)
        rw [hX] at HPt HSt ⊢
        have HX := Lib.hid hX
        have hXq : (X : Int) < (q : Int) := by omega
        have hX0 : X ≤ 4 := by omega
        clear hX
        go_wp2
        go_region_with (first
          | (go_at_call 52; refine (HC.out _ (by first | exact Below.refl _ _ | exact bdrew _)).mono ?_; rintro e wc ⟨vc, rfl, rc, kc⟩; have kC : Below wr.heap.size wr wc := (by first | exact kc | exact sstep (bdrew _) kc); obtain ⟨ac, cc, hvc, _, hlc⟩ := rc.form; cases hvc; have HLC := Lib.hid hlc; have KC := Lib.hid kC; have hzc := kC.size; obtain ⟨⟨e0, e1, e2⟩, _⟩ := hx.out.on kC; clear rc kc kC hlc)
          | (go_at_call 63; refine (HPt.out _ ac cc (by first | exact hs.out.on KC.out | exact (hs.out.on KC.out).on (bdrew _)) (by first | exact HLC.out | exact HLC.out.on (bdrew _))).mono ?_; rintro e wp ⟨Gp, Vp, up, rfl, hmp, hup, happ, kp⟩; have kP : Below wr.heap.size wr wp := (by first | exact sstep KC.out kp | exact sstep (sstep KC.out (bdrew _)) kp); have HMP := Lib.hid hmp; have KP := Lib.hid kP; have hzp := kP.size; clear hmp hup happ kp kP e0 e1 e2))
        all_goals
          have hzw := hbw.out.size
          have Q1 : Hid (Mat wp w.heap.size (.slice (some ⟨Gp, 0, none⟩) B B) B Vp (BA X)) := by rw [HSt.out]; exact HMP.out.lower (by omega)
          have Q2 := Lib.hid (hu.out.on KP.out)
          have Q3 := Lib.hid (hs.out.on KP.out)
          have Q4 := Lib.hid (hx.out.on KP.out)
          have Q5 := Lib.hid (sstep hbw.out KP.out)
          go_wp2
          go_roundw
          case rel => exact ⟨X, Vp, by omega, by go_num, Q1, Q2, Q3, Q4, Q5⟩
          case measure => simp [intOf]; omega
      · have htq : q - 1 = t := by omega
        go_wp2_with fail
        refine (HC.out _ (Below.refl _ _)).mono ?_
        rintro e wc ⟨vc, rfl, rc, kc⟩
        have hzw := hbw.out.size
        go_wp2
        go_ret3
        refine ⟨_, _, rfl, ?_, hu.out.on kc, (hu.out.older rc (Nat.le_refl _)).symm, sstep hbw.out kc⟩
        rw [htq]
        exact rc.lower hzw
end Go.Proofs.Ytakjgajkalmleaa
