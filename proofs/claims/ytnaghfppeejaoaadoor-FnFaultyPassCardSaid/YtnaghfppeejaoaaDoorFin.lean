/-
  The passes behind one: behind of the program's machine, and l7Finish of the model.
-/
import Derived.Test.YtnaghfppeejaoaaDoorPutA
import Derived.Test.YtnaghfppeejaoaaDoorRun
namespace Go.Proofs.YtnaghfppeejaoaaDoor
open Go.RowKit
open Go.PlainAid (bt get_bt bt_nonneg bt_le)
set_option linter.unusedVariables false

/-- What a literal that answers letters leaves. -/
def LDone (w : World) (V0 : Nat) (L : List (Int × ByteArray)) (w' : World) : Prop :=
  ∃ u, Row w' w.heap.size u L ∧ w'.cell? ⟨V0, 0, none⟩ = some u ∧ Only w w' (fun k => k = V0)
theorem LDone.mk' {w w2 : World} {V0 : Nat} {L : List (Int × ByteArray)} {u x : Value} (hr : Row w2 w.heap.size u L) (hb : Below w.heap.size w w2) (hv : w2.cell? ⟨V0, 0, none⟩ = some x) (hl : V0 < w.heap.size) : LDone w V0 L (w2.setCell ⟨V0, 0, none⟩ u) := by
  have on2 := Only.set (S := fun k => k = V0) w2 ⟨V0, 0, none⟩ u rfl
  exact ⟨u, hr.only on2 (fun k hk hs => by have := (hr.lt k hk).1; omega), by simp [go_sem, hv], Only.trans (S := fun k => k = V0) (Only.new hb) on2 (fun _ _ h => h)⟩
/-- The letters behind the passes behind one. -/
def finL (b p : Int) (n : Nat) (S : Nat → ByteArray) (x : Nat) (L : List (Int × ByteArray)) : List (Int × ByteArray) := passL b n S (x + 1) L (p.toNat - (x + 1))
theorem finL_batch {b p : Int} {n : Nat} {S : Nat → ByteArray} {x : Nat} {L : List (Int × ByteArray)} (hb : 2 ≤ b) (h : BatchL L) : BatchL (finL b p n S x L) := passL_batch hb h _

set_option maxHeartbeats 4000000 in
set_option maxRecDepth 100000 in
theorem impl_behind_yes (w : World) (b p : Int) (a : Option Addr) (n c : Nat) (S : Nat → ByteArray) (h : Strs w a n S) (hf : SFits n S) (hn : n ≤ 1048576) (hp : M.plan b p n S = true) (x : Nat) (hx : (x : Int) < p) (J : Addr) (hj : Jam w J) (base : Nat) (v : Value) (N : Nat) (V : Nat → Value) (MM : Nat → List (Int × ByteArray)) (hm : Mat w base v N V MM) (hok : binsOk b N MM = true) :
    Calls Tryd.prog 68 #[mac b p (.slice a n c) x, v] w (RowOut w (finL b p n S x (M.flat MM N))) := by
  obtain ⟨s1, s2, s3, s4⟩ := M.plan_shape hp
  have hok2 := hok
  unfold binsOk at hok2
  rw [Bool.and_eq_true] at hok2
  have hNb : (N : Int) = b := of_decide_eq_true hok2.1
  have hbl := (batchL_list _).1 hok2.2
  have bb := below_alloc0 w (.cells #[.int .i64 b, .int .i64 p, .slice a n c, .int .i64 x] 67)
  have B0 := Lib.hid bb
  have mx := Lib.hid (mac_made w b p (.slice a n c) x 67)
  have HS := Lib.hid (h.on bb)
  have HM := Lib.hid (hm.on bb)
  have HCK := Lib.hid (impl_check (w.alloc (.cells #[.int .i64 b, .int .i64 p, .slice a n c, .int .i64 x] 67)) J (hj.on bb) b p x (.slice a n c) base v N V MM (hm.on bb) (by omega) (by have := hbl.2.2; omega) hbl.fits (by omega) s2)
  rw [hok, if_pos rfl] at HCK
  obtain ⟨q, rfl⟩ := Int.eq_ofNat_of_zero_le (show 0 ≤ p by omega)
  have HD := Lib.hid (fun (W : World) (hs : Strs W a n S) (a2 : Option Addr) (c2 : Nat) (hl : Lts W a2 (M.flat MM N).length (nI (M.flat MM N)) (nC (M.flat MM N))) => impl_doPasses W b q a n c S hs hf hn hp a2 c2 (M.flat MM N) hl hbl (x + 1) q (q - (x + 1)) rfl (Int.le_refl _) (by omega))
  unfold finL
  rw [Int.toNat_natCast]
  have hfl := hbl.2.2
  have HLE : Hid (q - (x + 1) = 0 → passL b n S (x + 1) (M.flat MM N) (q - (x + 1)) = M.flat MM N) := fun e => by rw [e]; rfl
  obtain ⟨L0, hL0⟩ : ∃ L0, M.flat MM N = L0 := ⟨_, rfl⟩
  rw [hL0] at HD HLE hfl ⊢
  obtain ⟨L1, hL1⟩ : ∃ L1, passL b n S (x + 1) L0 (q - (x + 1)) = L1 := ⟨_, rfl⟩
  rw [hL1] at HD HLE ⊢
  have hcast : Hid (((x + 1 : Nat) : Int) = (x : Int) + 1) := by show _ = _; omega
  rw [hcast.out] at HD
  have HL0 := Lib.hid hL0
  have hw1 : IntKind.i64.wrap ((x : Int) + 1) = (x : Int) + 1 := IntWalk.i64_in _ (by omega)
  obtain ⟨u, c', hv⟩ : ∃ u c, v = .slice u N c := by
    rcases hm.form with ⟨rfl, rfl⟩ | ⟨g, c, rfl, _⟩
    · exact ⟨_, _, rfl⟩
    · exact ⟨_, _, rfl⟩
  subst hv
  clear h hf hm hj hok hok2 hbl bb hp hL0 hL1
  unfold mac at HCK ⊢
  obtain ⟨⟨t0, t1, t2, t3⟩, _⟩ := mx.out
  go_enter Tryd.func68, Tryd.ntmps68
  go_wp2_with fail
  refine HCK.out.mono ?_
  rintro e w1 ⟨rfl, hb1⟩
  have mx1 := Lib.hid (mx.out.on hb1)
  have HS1 := Lib.hid (HS.out.on hb1)
  have HM1 := Lib.hid (HM.out.on hb1)
  have B1 := Lib.hid (sstep B0.out hb1)
  have hzw : w.heap.size < w1.heap.size := mx1.out.lt
  have zz := B1.out.size
  have HC : Hid (∀ W, Below w1.heap.size w1 W → Calls Tryd.prog 66 #[.slice u N c'] W (RowOut W L0)) := fun W hW => by
    have := slices_Concat W base _ N V MM (HM1.out.on hW) (by omega) (by rw [HL0.out]; omega)
    rw [HL0.out] at this
    exact this
  clear t0 t1 t2 t3 mx B0 hb1 HCK HS HM
  obtain ⟨⟨t0, t1, t2, t3⟩, _⟩ := mx1.out
  go_wp2
  go_region_with (first
    | (go_at_call 66; refine (HC.out _ (by first | exact Below.refl _ _ | exact bdrew _)).mono ?_; rintro e wc ⟨vc, rfl, rc, kc⟩; have kC : Below w1.heap.size w1 wc := (by first | exact kc | exact sstep (bdrew _) kc); obtain ⟨ac, cc, hvc, _, hlc⟩ := rc.form; cases hvc; have HLC := Lib.hid hlc; have RC := Lib.hid rc; have KC := Lib.hid kC; have hzc := kC.size; obtain ⟨⟨e0, e1, e2, e3⟩, _⟩ := mx1.out.on kC; clear rc kc kC hlc)
    | (go_at_call 71; refine (HD.out _ (by first | exact HS1.out.on KC.out | exact (HS1.out.on KC.out).on (bdrew _)) ac cc (by first | exact HLC.out | exact HLC.out.on (bdrew _))).mono ?_; rintro e wp ⟨ap, cp, rfl, lp, orp, kp⟩; have kP : Below w1.heap.size w1 wp := (by first | exact sstep KC.out kp | exact sstep (sstep KC.out (bdrew _)) kp); have RP : Hid (Row wp w1.heap.size (.slice ap L1.length cp) L1) := passes_row (by first | exact RC.out | exact RC.out.on (bdrew _)) kp hzc HLE.out orp; have KP := Lib.hid kP; have hzp := kP.size; clear lp orp kp kP e0 e1 e2 e3))
  all_goals
    go_wp2
    go_ret
    exact ⟨_, rfl, RP.out.lower zz, sstep B1.out KP.out⟩

set_option maxHeartbeats 1000000 in
set_option maxRecDepth 100000 in
theorem impl_behind_no (w : World) (b p x : Int) (s : Value) (b1 : 0 ≤ b) (b2 : b ≤ 16) (J : Addr) (hj : Jam w J) (base : Nat) (v : Value) (N : Nat) (V : Nat → Value) (MM : Nat → List (Int × ByteArray)) (hm : Mat w base v N V MM) (hN : N ≤ 1048576) (hl : (M.flat MM N).length ≤ 1048576) (hf : Fits (M.flat MM N).length (nI (M.flat MM N)) (nC (M.flat MM N))) (hok : binsOk b N MM = false) :
    Calls Tryd.prog 68 #[mac b p s x, v] w fun e w' => e = JamEnd J ∧ Below w.heap.size w w' := by
  have bb := below_alloc0 w (.cells #[.int .i64 b, .int .i64 p, s, .int .i64 x] 67)
  have B0 := Lib.hid bb
  have mx := Lib.hid (mac_made w b p s x 67)
  have HCK := Lib.hid (impl_check (w.alloc (.cells #[.int .i64 b, .int .i64 p, s, .int .i64 x] 67)) J (hj.on bb) b p x s base v N V MM (hm.on bb) hN hl hf b1 b2)
  rw [hok, if_neg (by decide)] at HCK
  clear hm hj hok bb hf
  unfold mac at HCK ⊢
  obtain ⟨⟨t0, t1, t2, t3⟩, _⟩ := mx.out
  go_enter Tryd.func68, Tryd.ntmps68
  go_wp2_with fail
  refine HCK.out.mono ?_
  rintro e w1 ⟨rfl, hb1⟩
  unfold JamEnd
  go_wp2
  exact ⟨rfl, rfl, sstep B0.out hb1⟩

set_option maxHeartbeats 4000000 in
set_option maxRecDepth 100000 in
theorem spec_l7Finish (w : World) (b p : Int) (a : Option Addr) (n c : Nat) (S : Nat → ByteArray) (h : Strs w a n S) (hf : SFits n S) (hn : n ≤ 1048576) (hp : M.plan b p n S = true) (x : Nat) (hx : (x : Int) < p) (base : Nat) (v : Value) (N : Nat) (V0 : Nat → Value) (MM : Nat → List (Int × ByteArray)) (hm : Mat w base v N V0 MM) (hok : binsOk b N MM = true) :
    Calls Tryd.prog 69 #[.agg #[.int .i64 b, .int .i64 p, .slice a n c], v, .int .i64 x] w (RowOut w (finL b p n S x (M.flat MM N))) := by
  obtain ⟨s1, s2, s3, s4⟩ := M.plan_shape hp
  have hok2 := hok
  unfold binsOk at hok2
  rw [Bool.and_eq_true] at hok2
  have hNb : (N : Int) = b := of_decide_eq_true hok2.1
  have hbl := (batchL_list _).1 hok2.2
  have b0 := below_alloc0 w (.cells #[.int .i64 b, .int .i64 p, .slice a n c] 25)
  have HS := Lib.hid (h.on b0)
  have HM := Lib.hid ((hm.on b0).lower (Nat.zero_le _))
  have bx := Lib.hid (tri_made w (.int .i64 b) (.int .i64 p) (.slice a n c) 25)
  have B0 := Lib.hid b0
  obtain ⟨q, rfl⟩ := Int.eq_ofNat_of_zero_le (show 0 ≤ p by omega)
  have HB := Lib.hid (passL_batch (n := n) (S := S) (f := x + 1) s1 hbl)
  have HP : Hid (∀ (L : List (Int × ByteArray)) (hL : L.length ≤ 60) (y : Nat) (hy : y ≤ 3) (W : World) (a2 : Option Addr) (c2 : Nat) (hs : Strs W a n S) (hl : Lts W a2 L.length (nI L) (nC L)), Calls Tryd.prog 73 #[.agg #[.int .i64 b, .int .i64 (q : Int), .slice a n c], .slice a2 L.length c2, .int .i64 y] W (TwoOut W N (stepB b n S L y) (M.restTo (M.planKey b n S (nC L) y) (nI L) (nC L) L.length))) := fun L hL y hy W a2 c2 hs hl => by
    subst hNb
    exact spec_l3Pass W N (q : Int) a n c S hs hn a2 L.length c2 (nI L) (nC L) hl (by omega) y s1 s2 hy
  have HSU : Hid (∀ j, passL b n S (x + 1) (M.flat MM N) (j + 1) = M.flat (stepB b n S (passL b n S (x + 1) (M.flat MM N) j) (x + 1 + j)) N) := fun j => by
    subst hNb
    show M.flat _ (N : Int).toNat = _
    rw [Int.toNat_natCast]
  have HZ : Hid (passL b n S (x + 1) (M.flat MM N) 0 = M.flat MM N) := rfl
  unfold finL
  rw [Int.toNat_natCast]
  obtain ⟨PL, hPL⟩ : ∃ PL, passL b n S (x + 1) (M.flat MM N) = PL := ⟨_, rfl⟩
  rw [hPL] at HB HSU HZ ⊢
  have hw1 : IntKind.i64.wrap ((x : Int) + 1) = ((x + 1 : Nat) : Int) := by rw [show ((x + 1 : Nat) : Int) = (x : Int) + 1 by omega]; exact IntWalk.i64_in _ (by omega)
  clear h hf hm b0 hp hok hok2 hPL hbl
  obtain ⟨⟨t0, t1, t2⟩, _⟩ := bx.out
  go_enter Tryd.func69, Tryd.ntmps69
  go_wp2
  go_loopw [1, 7] (fun y i wr => ∃ (j X : Nat) (V : Nat → Value) (Mj : Nat → List (Int × ByteArray)), Hid (X = x + 1 + j) ∧ X ≤ q ∧ i = .int .i64 (X : Int) ∧ Hid (Mat wr 0 y N V Mj) ∧ Hid (M.flat Mj N = PL j) ∧ Hid (Strs wr a n S) ∧ Hid (Tri wr w.heap.size (.int .i64 b) (.int .i64 (q : Int)) (.slice a n c)) ∧ Hid (Below w.heap.size w wr)) (fun _ i _ => q - (intOf i).toNat)
  case atStart => exact ⟨0, x + 1, V0, MM, rfl, by omega, by go_num, HM.out, HZ.out.symm, HS.out, bx.out, B0.out⟩
  case round =>
    obtain ⟨j, X, V, Mj, hX, hXq, rfl, hm, hfl, hs, hx2, hbw⟩ := hrel
    clear t0 t1 t2
    obtain ⟨⟨t0, t1, t2⟩, _⟩ := hx2.out
    have hlx := hx2.out.lt
    have h60 : (M.flat Mj N).length ≤ 60 := by rw [hfl.out]; exact (HB.out j).2.2
    have HC := Lib.hid (fun W (hW : Below wr.heap.size wr W) => spec_l2Collect W 0 _ N V Mj (hm.out.on hW) (by omega) (by omega))
    by_cases hlt : X < q
    · have hX3 : X ≤ 3 := by omega
      have HPt := Lib.hid (HP.out (M.flat Mj N) h60 X hX3)
      have HSt : Hid (PL (j + 1) = M.flat (stepB b n S (M.flat Mj N) X) N) := by unfold Hid; rw [HSU.out j, hX.out, hfl.out]
      obtain ⟨MMx, hMM⟩ : ∃ MMx, stepB b n S (M.flat Mj N) X = MMx := ⟨_, rfl⟩
      rw [hMM] at HPt HSt
      have hXi : (X : Int) < (q : Int) := by omega
      clear hMM
      go_wp2
      go_region_with (first
        | (go_at_call 74; refine (HC.out _ (by first | exact Below.refl _ _ | exact bdrew _)).mono ?_; rintro e wc ⟨vc, rfl, rc, kc⟩; have kC : Below wr.heap.size wr wc := (by first | exact kc | exact sstep (bdrew _) kc); obtain ⟨ac, cc, hvc, _, hlc⟩ := rc.form; cases hvc; have HLC := Lib.hid hlc; have KC := Lib.hid kC; have hzc := kC.size; obtain ⟨⟨e0, e1, e2⟩, _⟩ := hx2.out.on kC; clear rc kc kC hlc)
        | (go_at_call 73; refine (HPt.out _ ac cc (by first | exact hs.out.on KC.out | exact (hs.out.on KC.out).on (bdrew _)) (by first | exact HLC.out | exact HLC.out.on (bdrew _))).mono ?_; rintro e wp ⟨Gp, Vp, up, rfl, hmp, hup, happ, kp⟩; have kP : Below wr.heap.size wr wp := (by first | exact sstep KC.out kp | exact sstep (sstep KC.out (bdrew _)) kp); have HMP := Lib.hid (hmp.lower (Nat.zero_le _)); have KP := Lib.hid kP; have hzp := kP.size; clear hmp hup happ kp kP e0 e1 e2))
      all_goals
        have Q3 := Lib.hid (hs.out.on KP.out)
        have Q4 := Lib.hid (hx2.out.on KP.out)
        have Q5 := Lib.hid (sstep hbw.out KP.out)
        go_wp2
        go_roundw
        case rel => exact ⟨j + 1, X + 1, Vp, MMx, by have := hX.out; show X + 1 = x + 1 + (j + 1); omega, by omega, by go_num, HMP.out, HSt.out.symm, Q3.out, Q4.out, Q5.out⟩
        case measure => simp [intOf]; omega
    · have hjq : q - (x + 1) = j := by have := hX.out; omega
      go_wp2_with fail
      refine (HC.out _ (Below.refl _ _)).mono ?_
      rintro e wc ⟨vc, rfl, rc, kc⟩
      have hzw := hbw.out.size
      go_wp2
      go_ret
      refine ⟨_, rfl, ?_, sstep hbw.out kc⟩
      rw [hjq, ← hfl.out]
      exact rc.lower hzw
end Go.Proofs.YtnaghfppeejaoaaDoor
