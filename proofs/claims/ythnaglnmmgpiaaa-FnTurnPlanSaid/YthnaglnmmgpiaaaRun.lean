/-
  What RunPlan returns, in the program and in the model of the document.
-/
import Derived.Test.YthnaglnmmgpiaaaMgN12
import Derived.Test.YthnaglnmmgpiaaaPPass3
import Derived.Test.YthnaglnmmgpiaaaConcat
import Derived.Test.YthnaglnmmgpiaaaSplit
import Derived.Test.YthnaglnmmgpiaaaMark
namespace Go.Proofs.Ythnaglnmmgpiaaa
open Go.RowKit
open Go.PlainAid (bt get_bt bt_nonneg bt_le)
set_option linter.unusedVariables false

theorem bdrew (w : World) : Below w.heap.size w w.drew := (Below.refl _ _).drew
theorem passOk_zero {b p : Int} {n : Nat} {S : Nat → ByteArray} {m : Nat} {I : Nat → Int} {C : Nat → ByteArray} : M.passOk b p n S m I C 0 = runOk b p n S m I C := by
  unfold M.passOk runOk
  cases hp : M.plan b p n S
  · rfl
  · have := (M.plan_shape hp).2.2.1
    rw [decide_eq_true (by omega), Bool.and_true]
/-- A pass over the letters of bins. -/
theorem pass_again {b p : Int} {n : Nat} {S : Nat → ByteArray} (hp : M.plan b p n S = true) {L : List (Int × ByteArray)} (hL : BatchL L) {x : Nat} (hx : (x : Int) < p) (W : World) (a : Option Addr) (c : Nat) (a2 : Option Addr) (c2 : Nat) (hs : Strs W a n S) (hf : SFits n S) (hn : n ≤ 1048576) (hl : Lts W a2 L.length (nI L) (nC L)) :
    Calls Try.prog 31 #[.agg #[.int .i64 b, .int .i64 p, .slice a n c], .slice a2 L.length c2, .int .i64 x] W (PassRes W true b.toNat (stepB b n S L x) (M.restTo (M.planKey b n S (nC L) x) (nI L) (nC L) L.length)) := by
  have hb := (batchL_list L).2 hL
  have hk : M.passOk b p n S L.length (nI L) (nC L) x = true := by
    unfold M.passOk
    rw [hp, hb, decide_eq_true (by omega)]; rfl
  have := impl_PlanPass_any W b p a n c S hs hf hn a2 L.length c2 (nI L) (nC L) hl hL.fits x
  unfold PassRet at this
  rw [hk, if_pos rfl, if_pos rfl, Int.toNat_natCast] at this
  exact this

/-- The letters behind k passes from the pass f on. -/
def passL (b : Int) (n : Nat) (S : Nat → ByteArray) (f : Nat) (L : List (Int × ByteArray)) : Nat → List (Int × ByteArray)
  | 0 => L
  | k + 1 => M.flat (stepB b n S (passL b n S f L k) (f + k)) b.toNat
theorem passL_batch {b : Int} {n : Nat} {S : Nat → ByteArray} {f : Nat} {L : List (Int × ByteArray)} (hb : 2 ≤ b) (h : BatchL L) : ∀ k, BatchL (passL b n S f L k)
  | 0 => h
  | k + 1 => by
    have ih := passL_batch (n := n) (S := S) (f := f) hb h k
    have := flat_rest (M.planKey b n S (nC (passL b n S f L k)) (f + k)) (nI (passL b n S f L k)) (nC (passL b n S f L k)) b.toNat (passL b n S f L k).length fun _ _ _ hd => planKey_bd hb hd
    rw [lst_nI] at this
    exact (ih.perm this.symm).left
theorem passL_bins (b : Int) (n : Nat) (S : Nat → ByteArray) (m : Nat) (I : Nat → Int) (C : Nat → ByteArray) : ∀ k, passL b n S 1 (M.flat (binsAt b n S m I C 0) b.toNat) k = M.flat (binsAt b n S m I C k) b.toNat
  | 0 => rfl
  | k + 1 => by
    show M.flat (stepB b n S (passL b n S 1 (M.flat (binsAt b n S m I C 0) b.toNat) k) (1 + k)) b.toNat = M.flat (stepB b n S (M.flat (binsAt b n S m I C k) b.toNat) (k + 1)) b.toNat
    rw [passL_bins b n S m I C k, Nat.add_comm 1 k]
/-- The letters behind some passes: as they came if there is none, else a row of the call's own. -/
def PassesRes (w : World) (v0 : Value) (k : Nat) (L : List (Int × ByteArray)) (e : Ending) (w' : World) : Prop :=
  ∃ (a : Option Addr) (c : Nat), e = .returned (.slice a L.length c) ∧ Lts w' a L.length (nI L) (nC L) ∧ ((k = 0 ∧ .slice a L.length c = v0) ∨ (0 < k ∧ Row w' w.heap.size (.slice a L.length c) L)) ∧ Below w.heap.size w w'

theorem passes_row {W w' : World} {base : Nat} {ac a : Option Addr} {cc c k : Nat} {L0 L1 : List (Int × ByteArray)} (hr : Row W base (.slice ac L0.length cc) L0) (hb : Below W.heap.size W w') (hz : base ≤ W.heap.size) (hle : k = 0 → L1 = L0)
    (hor : (k = 0 ∧ Value.slice a L1.length c = .slice ac L0.length cc) ∨ (0 < k ∧ Row w' W.heap.size (.slice a L1.length c) L1)) : Row w' base (.slice a L1.length c) L1 := by
  rcases hor with ⟨e, e2⟩ | ⟨_, r⟩
  · rw [e2, hle e]
    exact hr.on hb
  · exact r.lower hz

set_option maxHeartbeats 4000000 in
set_option maxRecDepth 100000 in
theorem impl_doPasses (w : World) (b p : Int) (a : Option Addr) (n c : Nat) (S : Nat → ByteArray) (h : Strs w a n S) (hf : SFits n S) (hn : n ≤ 1048576) (hp : M.plan b p n S = true) (a2 : Option Addr) (c2 : Nat) (L : List (Int × ByteArray)) (h2 : Lts w a2 L.length (nI L) (nC L)) (hL : BatchL L) (f t k : Nat) (hk : t - f = k) (ht : (t : Int) ≤ p) (hf4 : f ≤ 4) :
    Calls Try.prog 32 #[.agg #[.int .i64 b, .int .i64 p, .slice a n c], .slice a2 L.length c2, .int .i64 f, .int .i64 t] w (PassesRes w (.slice a2 L.length c2) k (passL b n S f L k)) := by
  have b0 := below_alloc0 w (.cells #[.int .i64 b, .int .i64 p, .slice a n c] 25)
  have HS := Lib.hid (h.on b0)
  have HF := Lib.hid hf
  have H2 := Lib.hid (h2.on b0)
  have bx := Lib.hid (tri_made w (.int .i64 b) (.int .i64 p) (.slice a n c) 25)
  have B0 := Lib.hid b0
  obtain ⟨s1, s2, s3, s4⟩ := M.plan_shape hp
  have HB := Lib.hid (passL_batch (n := n) (S := S) (f := f) s1 hL)
  have HP := Lib.hid (fun (L : List (Int × ByteArray)) (hL : BatchL L) (x : Nat) (hx : (x : Int) < p) (W : World) (a2 : Option Addr) (c2 : Nat) (hs : Strs W a n S) (hl : Lts W a2 L.length (nI L) (nC L)) => pass_again hp hL hx W a c a2 c2 hs HF.out hn hl)
  have HSU : Hid (∀ j, passL b n S f L (j + 1) = M.flat (stepB b n S (passL b n S f L j) (f + j)) b.toNat) := fun j => rfl
  have HZ : Hid (passL b n S f L 0 = L) := rfl
  obtain ⟨B, rfl⟩ := Int.eq_ofNat_of_zero_le (show 0 ≤ b by omega)
  rw [Int.toNat_natCast] at HSU HP
  obtain ⟨PL, hPL⟩ : ∃ PL, passL (B : Int) n S f L = PL := ⟨_, rfl⟩
  rw [hPL] at HB HSU HZ ⊢
  clear h hf h2 b0 hp hL hPL
  have HK := Lib.hid hk
  clear hk
  go_enter Try.func32, Try.ntmps32
  go_wp2
  go_loopw [1, 9] (fun x i wr => ∃ (j X : Nat) (ax : Option Addr) (nx cx : Nat), j ≤ k ∧ Hid (X = f + j) ∧ X ≤ 8 ∧ i = .int .i64 (X : Int) ∧ x = .slice ax nx cx ∧ Hid (nx = (PL j).length) ∧ Hid (Lts wr ax nx (nI (PL j)) (nC (PL j))) ∧ Hid ((j = 0 ∧ Value.slice ax nx cx = .slice a2 L.length c2) ∨ (0 < j ∧ Row wr w.heap.size (.slice ax nx cx) (PL j))) ∧ Hid (Strs wr a n S) ∧ Hid (Tri wr w.heap.size (.int .i64 (B : Int)) (.int .i64 p) (.slice a n c)) ∧ Hid (Below w.heap.size w wr)) (fun _ i _ => 9 - (intOf i).toNat)
  case atStart => exact ⟨0, f, a2, L.length, c2, Nat.zero_le _, rfl, by omega, rfl, rfl, by show L.length = (PL 0).length; rw [HZ.out], by rw [HZ.out]; exact H2.out, Or.inl ⟨rfl, rfl⟩, HS.out, bx.out, B0.out⟩
  case round =>
    obtain ⟨j, X, ax, nx, cx, hj, hX, hX8, rfl, rfl, hnx, hl, hor, hs, hx, hbw⟩ := hrel
    obtain ⟨⟨t0, t1, t2⟩, _⟩ := hx.out
    have hlx := hx.out.lt
    by_cases hlt : X < t
    · have hjk : j < k := by have := HK.out; have := hX.out; omega
      have HPt : Hid (∀ (W : World), Strs W a n S → Lts W ax nx (nI (PL j)) (nC (PL j)) → Calls Try.prog 31 #[.agg #[.int .i64 B, .int .i64 p, .slice a n c], .slice ax nx cx, .int .i64 X] W (PassRes W true B (stepB B n S (PL j) X) (M.restTo (M.planKey B n S (nC (PL j)) X) (nI (PL j)) (nC (PL j)) (PL j).length))) := fun W hs hl => by
        have e := hnx.out
        subst e
        exact HP.out (PL j) (HB.out j) X (by omega) W ax cx hs hl
      have HSt : Hid (PL (j + 1) = M.flat (stepB B n S (PL j) X) B) := by show PL (j + 1) = _; rw [HSU.out j, hX.out]
      have hfl : (M.flat (stepB B n S (PL j) X) B).length ≤ 60 := by rw [← HSt.out]; exact (HB.out (j + 1)).2.2
      obtain ⟨MMx, hMM⟩ : ∃ MMx, stepB (B : Int) n S (PL j) X = MMx := ⟨_, rfl⟩
      obtain ⟨LLx, hLL⟩ : ∃ LLx, M.restTo (M.planKey (B : Int) n S (nC (PL j)) X) (nI (PL j)) (nC (PL j)) (PL j).length = LLx := ⟨_, rfl⟩
      rw [hMM, hLL] at HPt
      rw [hMM] at HSt hfl
      clear hMM hLL
      go_wp2_with fail
      refine (HPt.out _ hs.out hl.out).mono ?_
      rintro e wp ⟨vp, Vp, up, rfl, hmp, hup, happ, kp⟩
      have hzp := kp.size
      have HMP := Lib.hid hmp
      have Q3 := Lib.hid (hs.out.on kp)
      have Q4 := Lib.hid (hx.out.on kp)
      have Q5 := Lib.hid (sstep hbw.out kp)
      clear hmp hup happ kp t0 t1 t2 hor
      go_wp2_with fail
      refine (slices_Concat wp wr.heap.size vp B Vp MMx HMP.out (by omega) (by omega)).mono ?_
      rintro e wc ⟨vc, rfl, rc, kc⟩
      obtain ⟨ac, cc, hvc, _, hlc⟩ := rc.form
      subst hvc
      have hzw := hbw.out.size
      have hzp2 := Q5.out.size
      have R1 : Hid (Row wc w.heap.size (.slice ac (M.flat MMx B).length cc) (PL (j + 1))) := by unfold Hid; rw [HSt.out]; exact rc.lower hzp2
      have R2 : Hid (Lts wc ac (M.flat MMx B).length (nI (PL (j + 1))) (nC (PL (j + 1)))) := by unfold Hid; rw [HSt.out]; exact hlc
      have R3 : Hid ((M.flat MMx B).length = (PL (j + 1)).length) := by unfold Hid; rw [HSt.out]
      have q3 := Lib.hid (Q3.out.on kc)
      have q4 := Lib.hid (Q4.out.on kc)
      have q5 := Lib.hid (sstep Q5.out kc)
      have HX2 : Hid (X + 1 = f + (j + 1)) := by have := hX.out; show X + 1 = f + (j + 1); omega
      obtain ⟨N2, hN2⟩ : ∃ N2, (M.flat MMx B).length = N2 := ⟨_, rfl⟩
      rw [hN2] at R1 R2 R3 ⊢
      clear rc kc hlc hN2
      go_wp2
      go_roundw
      case rel => exact ⟨j + 1, X + 1, ac, N2, cc, by omega, HX2.out, by omega, by go_num, rfl, R3.out, R2.out, Or.inr ⟨Nat.succ_pos j, R1.out⟩, q3.out, q4.out, q5.out⟩
      case measure => simp [intOf]; omega
    · have hjk : j = k := by have := HK.out; have := hX.out; omega
      subst hjk
      have e := hnx.out
      subst e
      go_wp2
      go_ret
      exact ⟨ax, cx, rfl, hl.out, hor.out, hbw.out⟩

set_option maxHeartbeats 4000000 in
set_option maxRecDepth 100000 in
theorem impl_RunPlan (w : World) (b p : Int) (a : Option Addr) (n c : Nat) (S : Nat → ByteArray) (h : Strs w a n S) (hf : SFits n S) (hn : n ≤ 1048576) (a2 : Option Addr) (m c2 : Nat) (I : Nat → Int) (C : Nat → ByteArray) (h2 : Lts w a2 m I C) (hf2 : Fits m I C) (hm : m ≤ 1048576) :
    Calls Try.prog 16 #[.agg #[.int .i64 b, .int .i64 p, .slice a n c], .slice a2 m c2] w (Split w (runOk b p n S m I C) (runList b p n S m I C) (runRest b p n S m I C)) := by
  have b0 := below_alloc0 w (.cells #[.int .i64 b, .int .i64 p, .slice a n c] 25)
  have HS := Lib.hid (h.on b0)
  have HF := Lib.hid hf
  have HR := Lib.hid (impl_PlanPass_any _ b p a n c S (h.on b0) hf hn a2 m c2 I C (h2.on b0) hf2 0)
  have bx := Lib.hid (tri_made w (.int .i64 b) (.int .i64 p) (.slice a n c) 25)
  have B0 := Lib.hid b0
  unfold PassRet at HR
  rw [passOk_zero] at HR
  clear h hf h2 hf2 b0
  unfold runList runRest
  cases hk : runOk b p n S m I C
  · rw [hk, if_neg (by decide), if_neg (by decide)] at HR
    rw [if_neg (by decide), if_neg (by decide)]
    clear hk
    go_enter Try.func16, Try.ntmps16
    go_wp2_with fail
    refine HR.out.mono ?_
    rintro e w1 ⟨v, V, u, rfl, hm1, hr1, hap, hb1⟩
    go_wp2
    go_ret3
    exact ⟨_, _, rfl, Row.nil _ _, Row.nil _ _, Apart.nil _, sstep B0.out hb1⟩
  · obtain ⟨hp, hb⟩ := runOk_yes hk
    obtain ⟨s1, s2, s3, s4⟩ := M.plan_shape hp
    rw [hk, if_pos rfl, if_pos rfl] at HR
    rw [if_pos rfl, if_pos rfl]
    have HR' : Hid (Calls Try.prog 31 #[.agg #[.int .i64 b, .int .i64 p, .slice a n c], .slice a2 m c2, .int .i64 0] (w.alloc (.cells #[.int .i64 b, .int .i64 p, .slice a n c] 25)) (PassRes (w.alloc (.cells #[.int .i64 b, .int .i64 p, .slice a n c] 25)) true b.toNat (binsAt b n S m I C 0) (M.restTo (M.planKey b n S C 0) I C m))) := HR
    have HB := Lib.hid (bins_batch (n := n) (S := S) s1 hb 0)
    have HPB := Lib.hid (passL_bins b n S m I C)
    have HB2 := Lib.hid (bins_batch (n := n) (S := S) s1 hb)
    obtain ⟨q, rfl⟩ := Int.eq_ofNat_of_zero_le (show 0 ≤ p by omega)
    have HD := Lib.hid (fun (W : World) (hs : Strs W a n S) (a2 : Option Addr) (c2 : Nat) (L : List (Int × ByteArray)) (hl : Lts W a2 L.length (nI L) (nC L)) (hL : BatchL L) => impl_doPasses W b q a n c S hs HF.out hn hp a2 c2 L hl hL 1 q (q - 1) rfl (Int.le_refl _) (by omega))
    obtain ⟨B, rfl⟩ := Int.eq_ofNat_of_zero_le (show 0 ≤ b by omega)
    rw [Int.toNat_natCast] at HR' HB HPB ⊢
    rw [Int.toNat_natCast]
    obtain ⟨LR, hLR⟩ : ∃ LR, M.restTo (M.planKey (B : Int) n S C 0) I C m = LR := ⟨_, rfl⟩
    obtain ⟨BA, hBA⟩ : ∃ BA, binsAt (B : Int) n S m I C = BA := ⟨_, rfl⟩
    have hfl : (M.flat (BA 0) B).length ≤ 60 := by rw [← hBA]; exact HB.out.2.2
    have HD2 : Hid (∀ (W : World) (hs : Strs W a n S) (a2 : Option Addr) (c2 : Nat), Lts W a2 (M.flat (BA 0) B).length (nI (M.flat (BA 0) B)) (nC (M.flat (BA 0) B)) → Calls Try.prog 32 #[.agg #[.int .i64 (B : Int), .int .i64 (q : Int), .slice a n c], .slice a2 (M.flat (BA 0) B).length c2, .int .i64 1, .int .i64 (q : Int)] W (PassesRes W (.slice a2 (M.flat (BA 0) B).length c2) (q - 1) (M.flat (BA (q - 1)) B))) := fun W hs a2 c2 hl => by
      have := HD.out W hs a2 c2 (M.flat (BA 0) B) hl (by rw [← hBA]; exact HB.out)
      rw [← hBA, HPB.out] at this
      rw [← hBA]
      exact this
    rw [hBA] at HR' ⊢
    rw [hLR] at HR' ⊢
    clear hk hp hb HR hBA hLR HB HPB HB2 HD
    obtain ⟨L0, hL0⟩ : ∃ L0, M.flat (BA 0) B = L0 := ⟨_, rfl⟩
    obtain ⟨L1, hL1⟩ : ∃ L1, M.flat (BA (q - 1)) B = L1 := ⟨_, rfl⟩
    rw [hL0] at HD2 hfl
    rw [hL1] at HD2 ⊢
    have HL0 := Lib.hid hL0
    have HLE : Hid (q - 1 = 0 → L1 = L0) := fun e => by rw [← hL1, ← hL0, e]
    clear hL0 hL1
    go_enter Try.func16, Try.ntmps16
    go_wp2_with fail
    refine HR'.out.mono ?_
    rintro e w1 ⟨v, V, u, rfl, hm1, hr1, hap, hb1⟩
    have BL := Lib.hid (sstep B0.out hb1)
    have zz := BL.out.size
    have bx1 := Lib.hid (bx.out.on hb1)
    have HS1 := Lib.hid (HS.out.on hb1)
    have HM1 := Lib.hid (hm1.lower (base' := w.heap.size) (by simp))
    have HU1 := Lib.hid (hr1.lower (base' := w.heap.size) (by simp))
    have HC : Hid (∀ W, Below w1.heap.size w1 W → Calls Try.prog 33 #[v] W (RowOut W L0)) := fun W hW => by
      have := slices_Concat W w.heap.size v B V (BA 0) (HM1.out.on hW) (by omega) (by rw [HL0.out]; omega)
      rw [HL0.out] at this
      exact this
    obtain ⟨⟨t0, t1, t2⟩, _⟩ := bx1.out
    have hlx := bx1.out.lt
    clear hm1 hr1 hap hb1 HR' B0 bx HS
    go_wp2
    go_region_with (first
      | (go_at_call 33; refine (HC.out _ (by first | exact Below.refl _ _ | exact bdrew _)).mono ?_; rintro e wc ⟨vc, rfl, rc, kc⟩; have kC : Below w1.heap.size w1 wc := (by first | exact kc | exact sstep (bdrew _) kc); obtain ⟨ac, cc, hvc, _, hlc⟩ := rc.form; cases hvc; have HLC := Lib.hid hlc; have RC := Lib.hid rc; have KC := Lib.hid kC; have hzc := kC.size; obtain ⟨⟨e0, e1, e2⟩, _⟩ := bx1.out.on kC; clear rc kc kC hlc)
      | (go_at_call 32; refine (HD2.out _ (by first | exact HS1.out.on KC.out | exact (HS1.out.on KC.out).on (bdrew _)) ac cc (by first | exact HLC.out | exact HLC.out.on (bdrew _))).mono ?_; rintro e wp ⟨ap, cp, rfl, lp, orp, kp⟩; have kP : Below w1.heap.size w1 wp := (by first | exact sstep KC.out kp | exact sstep (sstep KC.out (bdrew _)) kp); have RP : Hid (Row wp w1.heap.size (.slice ap L1.length cp) L1) := passes_row (by first | exact RC.out | exact RC.out.on (bdrew _)) kp hzc HLE.out orp; have KP := Lib.hid kP; have hzp := kP.size; clear lp orp kp kP e0 e1 e2))
    all_goals
      go_wp2
      go_ret3
      exact ⟨_, _, rfl, RP.out.lower zz, HU1.out.on KP.out, (HU1.out.older RP.out (Nat.le_refl _)).symm, sstep BL.out KP.out⟩

end Go.Proofs.Ythnaglnmmgpiaaa
