/-
  Bins of a faulty pass, and repaired ones: they hold a batch.
-/
import Derived.Test.YtnaghfppeejaoaaDoorFin
import Derived.Test.YtnaghfppeejaoaaDoorLateA
import Derived.Test.YtnaghfppeejaoaaDoorPass
import Derived.Test.YtnaghfppeejaoaaDoorFinA
import Derived.Test.YtnaghfppeejaoaaDoorKeptA
import Derived.Test.YtnaghfppeejaoaaDoorRepA
namespace Go.Proofs.YtnaghfppeejaoaaDoor
open Go.RowKit
open Go.PlainAid (bt get_bt bt_nonneg bt_le)
set_option linter.unusedVariables false

theorem fkey_bd {b p : Int} {n : Nat} {S C : Nat → ByteArray} {x : Nat} {I' : Nat → Int} {m3 : Nat} {I B : Nat → Int} (s1 : 2 ≤ b) (hmt : M.misTo (b - 1) I B m3) {k d : Nat} (hd : fkey b n S C x I' m3 I B k = some d) : d < b.toNat := by
  unfold fkey at hd
  rcases find_cases I m3 (I' k) with ⟨e, _⟩ | ⟨j, hj, _, e⟩
  · rw [e, if_pos (by decide)] at hd
    exact planKey_bd s1 hd
  · rw [e, if_neg (by omega), Int.toNat_natCast] at hd
    have := Option.some.inj hd
    have := (hmt j hj).2.1
    omega
/-- The letters before a pass, and the bins of a faulty one. -/
def befL (b : Int) (n : Nat) (S : Nat → ByteArray) (m : Nat) (I' : Nat → Int) (C : Nat → ByteArray) (x : Nat) : List (Int × ByteArray) := passL b n S 0 (M.lst I' C m) x
def errM (b : Int) (n : Nat) (S : Nat → ByteArray) (m : Nat) (I' : Nat → Int) (C : Nat → ByteArray) (x : Nat) (m3 : Nat) (I B : Nat → Int) : Nat → List (Int × ByteArray) :=
  M.binTo (fkey b n S (nC (befL b n S m I' C x)) x (nI (befL b n S m I' C x)) m3 I B) (nI (befL b n S m I' C x)) (nC (befL b n S m I' C x)) (befL b n S m I' C x).length
theorem befL_batch {b : Int} {n : Nat} {S : Nat → ByteArray} {m : Nat} {I' : Nat → Int} {C : Nat → ByteArray} (s1 : 2 ≤ b) (hb : M.batch m I' C = true) (x : Nat) : BatchL (befL b n S m I' C x) := passL_batch s1 ((batchL_iff _ _ _).1 hb) x
theorem errM_ok {b p : Int} {n : Nat} {S : Nat → ByteArray} {m : Nat} {I' : Nat → Int} {C : Nat → ByteArray} (s1 : 2 ≤ b) (hb : M.batch m I' C = true) (x : Nat) {m3 : Nat} {I B : Nat → Int} (hmt : M.misTo (b - 1) I B m3) : binsOk b b.toNat (errM b n S m I' C x m3 I B) = true := by
  unfold binsOk
  rw [decide_eq_true (by omega), Bool.true_and]
  refine (batchL_list _).2 ?_
  have h := befL_batch (n := n) (S := S) s1 hb x
  have hp := flat_rest (fkey b n S (nC (befL b n S m I' C x)) x (nI (befL b n S m I' C x)) m3 I B) (nI (befL b n S m I' C x)) (nC (befL b n S m I' C x)) b.toNat (befL b n S m I' C x).length fun i _ d hd => fkey_bd (p := p) s1 hmt hd
  rw [lst_nI] at hp
  exact (h.perm hp.symm).left
theorem flat_addTo (R B : Nat → List (Int × ByteArray)) : ∀ N, (M.flat (addTo R B) N).Perm (M.flat R N ++ M.flat B N)
  | 0 => List.Perm.refl _
  | N + 1 => by
    show (M.flat (addTo R B) N ++ (R N ++ B N)).Perm ((M.flat R N ++ R N) ++ (M.flat B N ++ B N))
    refine ((flat_addTo R B N).append_right _).trans ?_
    rw [List.append_assoc, List.append_assoc]
    refine List.Perm.append_left _ ?_
    rw [← List.append_assoc, ← List.append_assoc]
    exact (List.perm_append_comm).append_right _
theorem flat_parts (b : Int) (n : Nat) (S : Nat → ByteArray) (x : Nat) (MM : Nat → List (Int × ByteArray)) : ∀ N, (M.flat (rightL b n S x MM) N ++ M.flat (wrongL b n S x MM) N).Perm (M.flat MM N)
  | 0 => List.Perm.refl _
  | N + 1 => by
    have ih := flat_parts b n S x MM N
    have h1 : (rightL b n S x MM N ++ wrongL b n S x MM N).Perm (MM N) := List.filter_append_perm _ (MM N)
    show ((M.flat (rightL b n S x MM) N ++ rightL b n S x MM N) ++ (M.flat (wrongL b n S x MM) N ++ wrongL b n S x MM N)).Perm (M.flat MM N ++ MM N)
    refine List.Perm.trans ?_ (ih.append h1)
    rw [List.append_assoc, List.append_assoc]
    refine List.Perm.append_left _ ?_
    rw [← List.append_assoc, ← List.append_assoc]
    exact (List.perm_append_comm).append_right _
theorem repM_ok {b : Int} {n : Nat} {S : Nat → ByteArray} (s1 : 2 ≤ b) (x : Nat) {N : Nat} {MM : Nat → List (Int × ByteArray)} (hok : binsOk b N MM = true) : binsOk b N (repM b n S x MM N) = true := by
  have hok2 := hok
  unfold binsOk at hok2
  rw [Bool.and_eq_true] at hok2
  have hNb : (N : Int) = b := of_decide_eq_true hok2.1
  have hbl := (batchL_list _).1 hok2.2
  unfold binsOk
  rw [decide_eq_true hNb, Bool.true_and]
  refine (batchL_list _).2 ?_
  have h1 := hbl.perm (flat_parts b n S x MM N).symm
  obtain ⟨WL, hWL⟩ : ∃ WL, M.flat (wrongL b n S x MM) N = WL := ⟨_, rfl⟩
  unfold repM
  rw [hWL] at h1 ⊢
  have hp := flat_rest (M.planKey b n S (nC WL) x) (nI WL) (nC WL) N WL.length fun i _ d hd => by have := planKey_bd s1 hd; omega
  rw [lst_nI] at hp
  have h2 := h1.perm (hp.symm.append_left (M.flat (rightL b n S x MM) N))
  rw [← List.append_assoc] at h2
  exact h2.left.perm (flat_addTo _ _ N).symm

set_option maxHeartbeats 4000000 in
set_option maxRecDepth 100000 in
theorem spec_l7Before (w : World) (N : Nat) (p : Int) (a : Option Addr) (n c : Nat) (S : Nat → ByteArray) (h : Strs w a n S) (hn : n ≤ 1048576) (a2 : Option Addr) (m c2 : Nat) (I' : Nat → Int) (C : Nat → ByteArray) (h2 : Lts w a2 m I' C) (hb : M.batch m I' C = true) (x : Nat) (s1 : 2 ≤ (N : Int)) (s2 : (N : Int) ≤ 16) (hx : x ≤ 3)
    (a3 : Option Addr) (m3 c3 : Nat) (I B : Nat → Int) (h3 : Mss w a3 m3 I B) (hm3 : m3 ≤ 1048576) (hmt : M.misTo ((N : Int) - 1) I B m3) :
    Calls Tryd.prog 79 #[.agg #[.int .i64 (N : Int), .int .i64 p, .slice a n c], .slice a2 m c2, .int .i64 x, .slice a3 m3 c3] w
      (fun e w' => ∃ (G : Nat) (V : Nat → Value), e = .returned (.slice (some ⟨G, 0, none⟩) N N) ∧ Mat w' w.heap.size (.slice (some ⟨G, 0, none⟩) N N) N V (errM (N : Int) n S m I' C x m3 I B) ∧ Below w.heap.size w w') := by
  have b0 := below_alloc0 w (.cells #[.int .i64 (N : Int), .int .i64 p, .slice a n c] 25)
  have HS := Lib.hid (h.on b0)
  have H2 : Hid (Lts (w.alloc (.cells #[.int .i64 (N : Int), .int .i64 p, .slice a n c] 25)) a2 m (nI (M.lst I' C m)) (nC (M.lst I' C m))) := fun i hi => by
    rw [(lst_at hi).1, (lst_at hi).2]
    exact (h2.on b0) i hi
  have H3 := Lib.hid (h3.on b0)
  have bx := Lib.hid (tri_made w (.int .i64 (N : Int)) (.int .i64 p) (.slice a n c) 25)
  have B0 := Lib.hid b0
  have HB := Lib.hid (fun k => befL_batch (n := n) (S := S) s1 hb k)
  have HP : Hid (∀ (L : List (Int × ByteArray)) (hL : L.length ≤ 60) (y : Nat) (hy : y ≤ 3) (W : World) (a2 : Option Addr) (nl c2 : Nat) (hnl : nl = L.length) (hs : Strs W a n S) (hl : Lts W a2 nl (nI L) (nC L)), Calls Tryd.prog 73 #[.agg #[.int .i64 (N : Int), .int .i64 p, .slice a n c], .slice a2 nl c2, .int .i64 y] W (TwoOut W N (stepB (N : Int) n S L y) (M.restTo (M.planKey (N : Int) n S (nC L) y) (nI L) (nC L) L.length))) := fun L hL y hy W a2 nl c2 hnl hs hl => by
    subst hnl
    exact spec_l3Pass W N p a n c S hs hn a2 L.length c2 (nI L) (nC L) hl (by omega) y s1 s2 hy
  have HF : Hid (∀ (L : List (Int × ByteArray)) (hL : L.length ≤ 60) (W : World) (a2 : Option Addr) (nl c2 : Nat) (hnl : nl = L.length) (hs : Strs W a n S) (hl : Lts W a2 nl (nI L) (nC L)) (hm : Mss W a3 m3 I B), Calls Tryd.prog 98 #[.agg #[.int .i64 (N : Int), .int .i64 p, .slice a n c], .slice a2 nl c2, .int .i64 x, .slice a3 m3 c3] W (TwoOut W N (M.binTo (fkey (N : Int) n S (nC L) x (nI L) m3 I B) (nI L) (nC L) L.length) (M.restTo (fkey (N : Int) n S (nC L) x (nI L) m3 I B) (nI L) (nC L) L.length))) := fun L hL W a2 nl c2 hnl hs hl hm => by
    subst hnl
    exact spec_l7Faulty W N p a n c S hs hn a2 L.length c2 (nI L) (nC L) hl (by omega) x s1 s2 hx a3 m3 c3 I B hm hm3 hmt
  have HSU : Hid (∀ j, befL (N : Int) n S m I' C (j + 1) = M.flat (stepB (N : Int) n S (befL (N : Int) n S m I' C j) j) N) := fun j => by
    show M.flat (stepB (N : Int) n S (befL (N : Int) n S m I' C j) (0 + j)) (N : Int).toNat = _
    rw [Int.toNat_natCast, Nat.zero_add]
  have HZ : Hid (befL (N : Int) n S m I' C 0 = M.lst I' C m) := rfl
  have hm60 := (M.batch_yes hb).1
  have HEM : Hid (M.binTo (fkey (N : Int) n S (nC (befL (N : Int) n S m I' C x)) x (nI (befL (N : Int) n S m I' C x)) m3 I B) (nI (befL (N : Int) n S m I' C x)) (nC (befL (N : Int) n S m I' C x)) (befL (N : Int) n S m I' C x).length = errM (N : Int) n S m I' C x m3 I B) := rfl
  obtain ⟨EM, hEM⟩ : ∃ EM, errM (N : Int) n S m I' C x m3 I B = EM := ⟨_, rfl⟩
  rw [hEM] at HEM ⊢
  obtain ⟨BL, hBL⟩ : ∃ BL, befL (N : Int) n S m I' C = BL := ⟨_, rfl⟩
  rw [hBL] at HB HSU HZ HEM
  clear h h2 h3 b0 hb hmt hBL hEM
  obtain ⟨⟨t0, t1, t2⟩, _⟩ := bx.out
  go_enter Tryd.func79, Tryd.ntmps79
  go_wp2
  go_loopw [1, 9] (fun y i wr => ∃ (j : Nat) (ax : Option Addr) (nx cx : Nat), j ≤ x ∧ i = .int .i64 (j : Int) ∧ y = .slice ax nx cx ∧ Hid (nx = (BL j).length) ∧ Hid (Lts wr ax nx (nI (BL j)) (nC (BL j))) ∧ Hid (Strs wr a n S) ∧ Hid (Mss wr a3 m3 I B) ∧ Hid (Tri wr w.heap.size (.int .i64 (N : Int)) (.int .i64 p) (.slice a n c)) ∧ Hid (Below w.heap.size w wr)) (fun _ i _ => x - (intOf i).toNat)
  case atStart => exact ⟨0, a2, m, c2, Nat.zero_le _, rfl, rfl, by rw [HZ.out, M.lst_length]; exact rfl, by rw [HZ.out]; exact H2.out, HS.out, H3.out, bx.out, B0.out⟩
  case round =>
    obtain ⟨j, ax, nx, cx, hj, rfl, rfl, hnx, hl, hs, hms, hx2, hbw⟩ := hrel
    clear t0 t1 t2
    obtain ⟨⟨t0, t1, t2⟩, _⟩ := hx2.out
    have hlx := hx2.out.lt
    have h60 := (HB.out j).2.2
    by_cases hlt : j < x
    · have HPt := Lib.hid (HP.out (BL j) h60 j (by omega))
      have HSt := Lib.hid (HSU.out j)
      have h61 := (HB.out (j + 1)).2.2
      rw [HSt.out] at h61
      obtain ⟨MMx, hMM⟩ : ∃ MMx, stepB (N : Int) n S (BL j) j = MMx := ⟨_, rfl⟩
      rw [hMM] at HPt HSt h61
      have hji : (j : Int) < (x : Int) := by omega
      clear hMM
      go_wp2_with fail
      refine (HPt.out _ ax nx cx hnx.out hs.out hl.out).mono ?_
      rintro e wp ⟨Gp, Vp, up, rfl, hmp, hup, happ, kp⟩
      have HMP := Lib.hid (hmp.lower (Nat.zero_le _))
      have Q3 := Lib.hid (hs.out.on kp)
      have QM := Lib.hid (hms.out.on kp)
      have Q4 := Lib.hid (hx2.out.on kp)
      have Q5 := Lib.hid (sstep hbw.out kp)
      clear hmp hup happ kp t0 t1 t2
      go_wp2_with fail
      refine (spec_l2Collect wp 0 _ N Vp MMx HMP.out (by omega) (by omega)).mono ?_
      rintro e wc ⟨vc, rfl, rc, kc⟩
      obtain ⟨ac, cc, hvc, _, hlc⟩ := rc.form
      subst hvc
      have R2 : Hid (Lts wc ac (M.flat MMx N).length (nI (BL (j + 1))) (nC (BL (j + 1)))) := by unfold Hid; rw [HSt.out]; exact hlc
      have R3 : Hid ((M.flat MMx N).length = (BL (j + 1)).length) := by unfold Hid; rw [HSt.out]
      have q3 := Lib.hid (Q3.out.on kc)
      have qm := Lib.hid (QM.out.on kc)
      have q4 := Lib.hid (Q4.out.on kc)
      have q5 := Lib.hid (sstep Q5.out kc)
      obtain ⟨N2, hN2⟩ : ∃ N2, (M.flat MMx N).length = N2 := ⟨_, rfl⟩
      rw [hN2] at R2 R3 ⊢
      clear rc kc hlc hN2
      go_wp2
      go_roundw
      case rel => exact ⟨j + 1, ac, N2, cc, by omega, by go_num, rfl, R3.out, R2.out, q3.out, qm.out, q4.out, q5.out⟩
      case measure => simp [intOf]; omega
    · obtain rfl : j = x := by omega
      have HFt := Lib.hid (HF.out (BL j) h60)
      rw [HEM.out] at HFt
      go_wp2_with fail
      refine (HFt.out _ ax nx cx hnx.out hs.out hl.out hms.out).mono ?_
      rintro e wp ⟨Gp, Vp, up, rfl, hmp, hup, happ, kp⟩
      have hzw := hbw.out.size
      go_wp2
      go_ret
      exact ⟨Gp, Vp, rfl, hmp.lower hzw, sstep hbw.out kp⟩
end Go.Proofs.YtnaghfppeejaoaaDoor

/-
  RunRepaired and RunRestarted of the program.
-/
namespace Go.Proofs.YtnaghfppeejaoaaDoor
open Go.RowKit
open Go.PlainAid (bt get_bt bt_nonneg bt_le)
set_option linter.unusedVariables false

set_option maxHeartbeats 2000000 in
set_option maxRecDepth 100000 in
theorem impl_before_yes (w : World) (b p : Int) (a : Option Addr) (n c : Nat) (S : Nat → ByteArray) (h : Strs w a n S) (hf : SFits n S) (hn : n ≤ 1048576) (hp : M.plan b p n S = true) (x : Nat) (hx : (x : Int) < p) (a2 : Option Addr) (m c2 : Nat) (I' : Nat → Int) (C : Nat → ByteArray) (h2 : Lts w a2 m I' C) (hf2 : Fits m I' C) (hb : M.batch m I' C = true) :
    Calls Tryd.prog 76 #[mac b p (.slice a n c) x, .slice a2 m c2] w (PassesRes w (.slice a2 m c2) x (befL b n S m I' C x)) := by
  obtain ⟨s1, s2, s3, s4⟩ := M.plan_shape hp
  have bb := below_alloc0 w (.cells #[.int .i64 b, .int .i64 p, .slice a n c, .int .i64 x] 67)
  have B0 := Lib.hid bb
  have mx := Lib.hid (mac_made w b p (.slice a n c) x 67)
  have HS := Lib.hid (h.on bb)
  have HL := Lib.hid (h2.on bb)
  have HF2 := Lib.hid hf2
  have HB := Lib.hid hb
  obtain ⟨q, rfl⟩ := Int.eq_ofNat_of_zero_le (show 0 ≤ p by omega)
  have HD : Hid (∀ (W : World), Strs W a n S → Lts W a2 m I' C → Calls Tryd.prog 71 #[.agg #[.int .i64 b, .int .i64 (q : Int), .slice a n c], .slice a2 m c2, .int .i64 0, .int .i64 x] W (PassesRes W (.slice a2 m c2) x (befL b n S m I' C x))) := fun W hs hl => by
    have hl2 : Lts W a2 (M.lst I' C m).length (nI (M.lst I' C m)) (nC (M.lst I' C m)) := fun i hi => by
      rw [M.lst_length] at hi
      rw [(lst_at hi).1, (lst_at hi).2]
      exact hl i hi
    have := impl_doPasses W b q a n c S hs hf hn hp a2 c2 (M.lst I' C m) hl2 ((batchL_iff _ _ _).1 hb) 0 x x (Nat.sub_zero _) (by omega) (by omega)
    rw [M.lst_length] at this
    exact this
  obtain ⟨BL, hBL⟩ : ∃ BL, befL b n S m I' C x = BL := ⟨_, rfl⟩
  rw [hBL] at HD ⊢
  clear h hf h2 hf2 hb bb hp hBL
  unfold mac
  obtain ⟨⟨t0, t1, t2, t3⟩, _⟩ := mx.out
  go_enter Tryd.func76, Tryd.ntmps76
  go_wp2_with fail
  refine (impl_BatchValid _ a2 m c2 I' C HL.out HF2.out).mono ?_
  rw [HB.out]
  rintro e w1 ⟨rfl, hb1⟩
  have mx1 := Lib.hid (mx.out.on hb1)
  have HS1 := Lib.hid (HS.out.on hb1)
  have HL1 := Lib.hid (HL.out.on hb1)
  have B1 := Lib.hid (sstep B0.out hb1)
  clear t0 t1 t2 t3 mx B0 hb1 HS HL
  obtain ⟨⟨t0, t1, t2, t3⟩, _⟩ := mx1.out
  go_wp2_with fail
  refine (insist_yes _).mono ?_
  rintro e w2 ⟨rfl, rfl⟩
  go_wp2_with fail
  refine (HD.out _ HS1.out HL1.out).mono ?_
  rintro e w3 ⟨ap, cp, rfl, lp, orp, kp⟩
  go_wp2
  go_ret
  refine ⟨ap, cp, rfl, lp, ?_, sstep B1.out kp⟩
  rcases orp with h | ⟨h, r⟩
  · exact Or.inl h
  · exact Or.inr ⟨h, r.lower B1.out.size⟩

set_option maxHeartbeats 1000000 in
set_option maxRecDepth 100000 in
theorem impl_before_no (w : World) (J : Addr) (hj : Jam w J) (b p x : Int) (s : Value) (a2 : Option Addr) (m c2 : Nat) (I' : Nat → Int) (C : Nat → ByteArray) (h2 : Lts w a2 m I' C) (hf2 : Fits m I' C) (hb : M.batch m I' C = false) :
    Calls Tryd.prog 76 #[mac b p s x, .slice a2 m c2] w fun e w' => e = JamEnd J ∧ Below w.heap.size w w' := by
  have bb := below_alloc0 w (.cells #[.int .i64 b, .int .i64 p, s, .int .i64 x] 67)
  have B0 := Lib.hid bb
  have HL := Lib.hid (h2.on bb)
  have HJ := Lib.hid (hj.on bb)
  have HF2 := Lib.hid hf2
  have HB := Lib.hid hb
  clear h2 hf2 hj hb bb
  unfold mac
  go_enter Tryd.func76, Tryd.ntmps76
  go_wp2_with fail
  refine (impl_BatchValid _ a2 m c2 I' C HL.out HF2.out).mono ?_
  rw [HB.out]
  rintro e w1 ⟨rfl, hb1⟩
  have B1 := Lib.hid (sstep B0.out hb1)
  have HJ1 := Lib.hid (HJ.out.on hb1)
  clear hb1
  go_wp2_with fail
  refine (insist_no _ J HJ1.out).mono ?_
  rintro e w2 ⟨rfl, rfl⟩
  unfold JamEnd
  go_wp2
  exact ⟨rfl, rfl, B1.out⟩

/-- The boxes that the literals of RunRepaired and RunRestarted hold. -/
structure EBox (w : World) (b p : Int) (a : Option Addr) (n c : Nat) (x : Int) (a2 : Option Addr) (m c2 : Nat) (a3 : Option Addr) (m3 c3 : Nat) (P0 X0 B0 L0 V0 : Nat) (v : Value) : Prop where
  pp : Tri w P0 (.int .i64 b) (.int .i64 p) (.slice a n c)
  xx : w.cell? ⟨X0, 0, none⟩ = some (.int .i64 x)
  bb : w.cell? ⟨B0, 0, none⟩ = some (.slice a2 m c2)
  ll : w.cell? ⟨L0, 0, none⟩ = some (.slice a3 m3 c3)
  vv : w.cell? ⟨V0, 0, none⟩ = some v
  vf : w.frozen? ⟨V0, 0, none⟩ = false
theorem EBox.on {w w' : World} {b p : Int} {a : Option Addr} {n c : Nat} {x : Int} {a2 : Option Addr} {m c2 : Nat} {a3 : Option Addr} {m3 c3 P0 X0 B0 L0 V0 : Nat} {v : Value} (h : EBox w b p a n c x a2 m c2 a3 m3 c3 P0 X0 B0 L0 V0 v) (hb : Below w.heap.size w w') : EBox w' b p a n c x a2 m c2 a3 m3 c3 P0 X0 B0 L0 V0 v := by
  have k : ∀ {q : Nat} {y : Value}, w.cell? ⟨q, 0, none⟩ = some y → w'.cell? ⟨q, 0, none⟩ = some y := fun {q y} e => (World.cell?_of_block (hb.block q (World.block_lt_of_cell? _ _ e))).trans e
  exact ⟨h.pp.on hb, k h.xx, k h.bb, k h.ll, k h.vv, by rw [World.frozen?_of_block (hb.block V0 (World.block_lt_of_cell? _ _ h.vv))]; exact h.vf⟩

/-- What RunRepaired and RunRestarted answer. -/
def repAns (b p : Int) (n : Nat) (S : Nat → ByteArray) (m : Nat) (I' : Nat → Int) (C : Nat → ByteArray) (x : Nat) (m3 : Nat) (I B : Nat → Int) : List (Int × ByteArray) := finL b p n S x (M.flat (repM b n S x (errM b n S m I' C x m3 I B) b.toNat) b.toNat)
def resAns (b p : Int) (n : Nat) (S : Nat → ByteArray) (m : Nat) (I' : Nat → Int) (C : Nat → ByteArray) (x : Nat) (m3 : Nat) (I B : Nat → Int) : List (Int × ByteArray) := runList b p n S (M.flat (errM b n S m I' C x m3 I B) b.toNat).length (nI (M.flat (errM b n S m I' C x m3 I B) b.toNat)) (nC (M.flat (errM b n S m I' C x m3 I B) b.toNat))
noncomputable def okAns (b p : Int) (n : Nat) (S : Nat → ByteArray) (m : Nat) (I' : Nat → Int) (C : Nat → ByteArray) (x : Int) (m3 : Nat) (I B : Nat → Int) (L : List (Int × ByteArray)) : List (Int × ByteArray) := if faultyOk b p n S m I' C x m3 I B = true then L else []

set_option maxHeartbeats 4000000 in
set_option maxRecDepth 100000 in
theorem reprun1_yes (w : World) (b p : Int) (a : Option Addr) (n c : Nat) (S : Nat → ByteArray) (h : Strs w a n S) (hf : SFits n S) (hn : n ≤ 1048576) (x : Nat) (hx : (x : Int) < p) (J : Addr) (hj : Jam w J) (a2 : Option Addr) (m c2 : Nat) (I' : Nat → Int) (C : Nat → ByteArray) (h2 : Lts w a2 m I' C) (hf2 : Fits m I' C)
    (a3 : Option Addr) (m3 c3 : Nat) (I B : Nat → Int) (h3 : Mss w a3 m3 I B) (hf3 : MFits m3 I B) (hb : M.batch m I' C = true) (hmi : M.mis b p n S m3 I B = true) (P0 X0 B0 L0 V0 : Nat) (hord : P0 < V0 ∧ X0 < V0 ∧ B0 < V0 ∧ L0 < V0)
    (hx0 : EBox w b p a n c x a2 m c2 a3 m3 c3 P0 X0 B0 L0 V0 (.slice none 0 0)) :
    Calls Tryd.prog 75 #[.pointer (some ⟨P0, 0, none⟩), .pointer (some ⟨X0, 0, none⟩), .pointer (some ⟨B0, 0, none⟩), .pointer (some ⟨L0, 0, none⟩), .pointer (some ⟨V0, 0, none⟩)] w fun e w' => e = .returned (.tuple #[]) ∧ LDone w V0 (repAns b p n S m I' C x m3 I B) w' := by
  obtain ⟨hp, hm3, hmt⟩ := M.mis_true hmi
  obtain ⟨s1, s2, s3, s4⟩ := M.plan_shape hp
  have HX := Lib.hid hx0
  have HMF := machineFor_yes w b p a n c S h hf hn hp x ⟨by omega, hx⟩
  have HBF := Lib.hid (fun W (hW : Below w.heap.size w W) => impl_before_yes W b p a n c S (h.on hW) hf hn hp x hx a2 m c2 I' C (h2.on hW) hf2 hb)
  have hbl := befL_batch (n := n) (S := S) s1 hb x
  have hek := errM_ok (p := p) (n := n) (S := S) s1 hb x hmt
  have HST : Hid (∀ W (hW : Below w.heap.size w W) (ax : Option Addr) (nx cx : Nat), nx = (befL b n S m I' C x).length → Lts W ax nx (nI (befL b n S m I' C x)) (nC (befL b n S m I' C x)) → Calls Tryd.prog 48 #[mac b p (.slice a n c) x, .slice ax nx cx, .slice a3 m3 c3] W (SortRes W b.toNat (errM b n S m I' C x m3 I B) (M.restTo (fkey b n S (nC (befL b n S m I' C x)) x (nI (befL b n S m I' C x)) m3 I B) (nI (befL b n S m I' C x)) (nC (befL b n S m I' C x)) (befL b n S m I' C x).length))) := fun W hW ax nx cx e hl => by
    subst e
    exact impl_sort_yes W b p a n c S (h.on hW) hf hn x (by omega) ax _ cx _ _ hl hbl.fits a3 m3 c3 I B (h3.on hW) hf3 ((batchL_list _).2 hbl) hmi
  have HRP := Lib.hid (fun W (hW : Below w.heap.size w W) base v V (hm : Mat W base v b.toNat V (errM b n S m I' C x m3 I B)) => impl_repair_yes W b p a n c S (h.on hW) hn s1 s2 x (by omega) J (hj.on hW) base v _ V _ hm hek)
  have hek2 := repM_ok (n := n) (S := S) s1 x hek
  have HBE := Lib.hid (fun W (hW : Below w.heap.size w W) base v V (hm : Mat W base v b.toNat V (repM b n S x (errM b n S m I' C x m3 I B) b.toNat)) => impl_behind_yes W b p a n c S (h.on hW) hf hn hp x hx J (hj.on hW) base v _ V _ hm hek2)
  obtain ⟨BL, hBL⟩ : ∃ BL, befL b n S m I' C x = BL := ⟨_, rfl⟩
  obtain ⟨EM, hEM⟩ : ∃ EM, errM b n S m I' C x m3 I B = EM := ⟨_, rfl⟩
  obtain ⟨EL, hEL⟩ : ∃ EL, M.restTo (fkey b n S (nC (befL b n S m I' C x)) x (nI (befL b n S m I' C x)) m3 I B) (nI (befL b n S m I' C x)) (nC (befL b n S m I' C x)) (befL b n S m I' C x).length = EL := ⟨_, rfl⟩
  rw [hEM, hEL, hBL] at HST
  rw [hBL] at HBF
  obtain ⟨RM, hRM⟩ : ∃ RM, repM b n S x (errM b n S m I' C x m3 I B) b.toNat = RM := ⟨_, rfl⟩
  obtain ⟨RR, hRR⟩ : ∃ RR, repL b n S x (errM b n S m I' C x m3 I B) b.toNat = RR := ⟨_, rfl⟩
  obtain ⟨LL, hLL⟩ : ∃ LL, finL b p n S x (M.flat (repM b n S x (errM b n S m I' C x m3 I B) b.toNat) b.toNat) = LL := ⟨_, rfl⟩
  unfold repAns
  rw [hLL] at HBE ⊢
  rw [hRM] at HBE HRP
  rw [hRR] at HRP
  rw [hEM] at HRP
  clear hek hek2 hRM hRR hLL hEM
  obtain ⟨N, hN⟩ : ∃ N, b.toNat = N := ⟨_, rfl⟩
  rw [hN] at HST HRP HBE
  have nn1 : V0 ≠ P0 := by omega
  have nn2 : V0 ≠ X0 := by omega
  have nn3 : V0 ≠ B0 := by omega
  have nn4 : V0 ≠ L0 := by omega
  have BR := Lib.hid (Below.refl w.heap.size w)
  have lv := World.block_lt_of_cell? _ _ hx0.vv
  have hN0 : 0 < N := by omega
  clear h hf h2 hf2 h3 hf3 hb hmi hp hx0 hj hBL hEL hbl
  obtain ⟨⟨⟨t0, t1, t2⟩, _⟩, x0, b0, l0, v0, vf⟩ := HX.out
  unfold mac at HMF HST HBF
  unfold mac at HRP HBE
  go_enter Tryd.func75, Tryd.ntmps75
  go_wp2_with fail
  refine HMF.mono ?_
  rintro e w1 ⟨rfl, k1⟩
  have mx2 := Lib.hid (mac_made w1 b p (.slice a n c) x 67)
  have K1 := Lib.hid (sstep BR.out k1)
  have B2 := below_alloc0 w1 (.cells #[.int .i64 b, .int .i64 p, .slice a n c, .int .i64 x] 67)
  have K2 := Lib.hid (sstep K1.out B2)
  obtain ⟨wm, hwm⟩ : ∃ wm, w1.alloc (.cells #[.int .i64 b, .int .i64 p, .slice a n c, .int .i64 x] 67) = wm := ⟨_, rfl⟩
  rw [hwm] at mx2 K2
  have HWM := Lib.hid hwm
  clear B2 k1 t0 t1 t2 x0 b0 l0 v0 vf hwm
  have HX2 := Lib.hid (HX.out.on K2.out)
  obtain ⟨⟨y0, y1, y2, y3⟩, _⟩ := mx2.out
  obtain ⟨_, _, y5, y6, _, _⟩ := HX2.out
  go_wp2
  rw [HWM.out]
  go_region_held3 (fun w' => w'.cell? ⟨w1.heap.size, 0, none⟩ = some (.int .i64 b) ∧ w'.cell? ⟨w1.heap.size, 1, none⟩ = some (.int .i64 p) ∧ w'.cell? ⟨w1.heap.size, 2, none⟩ = some (.slice a n c) ∧ w'.cell? ⟨w1.heap.size, 3, none⟩ = some (.int .i64 x) ∧ w'.cell? ⟨B0, 0, none⟩ = some (.slice a2 m c2) ∧ w'.cell? ⟨L0, 0, none⟩ = some (.slice a3 m3 c3)) (go_keep) (first
    | (go_at_call 76; refine (HBF.out _ (by first | exact K2.out | exact K2.out.drew)).mono ?_; rintro e w3 ⟨ax, cx, rfl, lx, _, k3⟩; have K3 : Hid (Below w.heap.size w w3) := (by first | exact sstep K2.out k3 | exact sstep (sstep K2.out (Below.refl _ _).drew) k3); have L3 := Lib.hid lx; have mx3 := Lib.hid (mx2.out.on (by first | exact k3 | exact sstep (Below.refl _ _).drew k3)); have HX3 := Lib.hid (HX.out.on K3.out); obtain ⟨⟨c0, c1, c2', c3'⟩, _⟩ := mx3.out; obtain ⟨_, _, c5, c6, _, _⟩ := HX3.out; clear k3 lx)
    | (go_at_call 48; refine (HST.out _ (by first | exact K3.out | exact K3.out.drew) ax _ cx rfl (by first | exact L3.out | exact L3.out.on (Below.refl _ _).drew)).mono ?_; rintro e w4 ⟨v, V, u, rfl, hm, _, _, k4⟩; have K4 : Hid (Below w.heap.size w w4) := (by first | exact sstep K3.out k4 | exact sstep (sstep K3.out (Below.refl _ _).drew) k4); have mx4 := Lib.hid (mx3.out.on (by first | exact k4 | exact sstep (Below.refl _ _).drew k4)); have HX4 := Lib.hid (HX.out.on K4.out); obtain ⟨⟨e0, e1, e2', e3'⟩, _⟩ := mx4.out; obtain ⟨_, _, e5, e6, _, _⟩ := HX4.out; clear k4))
  all_goals
    obtain ⟨G, cG, hv⟩ := hm.some hN0
    subst hv
    obtain ⟨⟨d0, d1, d2, d3⟩, _⟩ := mx4.out
    go_wp2_with fail
    refine (HRP.out _ K4.out _ _ _ hm).mono ?_
    rintro e w5 ⟨v5, V5, u5, rfl, hm5, _, _, k5⟩
    have mx5 := Lib.hid (mx4.out.on k5)
    have K5 := Lib.hid (sstep K4.out k5)
    obtain ⟨G5, cG5, hv5⟩ := hm5.some hN0
    subst hv5
    clear d0 d1 d2 d3 k5 hm
    obtain ⟨⟨d0, d1, d2, d3⟩, _⟩ := mx5.out
    go_wp2_with fail
    refine (HBE.out _ K5.out _ _ _ hm5).mono ?_
    rintro e w6 ⟨u6, rfl, hr6, k6⟩
    obtain ⟨aU, cU, hu, _, _⟩ := hr6.form
    subst hu
    have K6 := Lib.hid (sstep K5.out k6)
    have HX6 := HX.out.on K6.out
    have Q := Lib.hid (LDone.mk' (hr6.lower K5.out.size) K6.out HX6.vv lv)
    have v6 := HX6.vv
    have f6 := HX6.vf
    clear d0 d1 d2 d3 k6 hr6 hm5 HX6
    go_wp2
    go_end0
    exact ⟨rfl, Q.out⟩

set_option maxHeartbeats 4000000 in
set_option maxRecDepth 100000 in
theorem reprun1_no (w : World) (b p : Int) (a : Option Addr) (n c : Nat) (S : Nat → ByteArray) (h : Strs w a n S) (hf : SFits n S) (hn : n ≤ 1048576) (x : Int) (J : Addr) (hj : Jam w J) (a2 : Option Addr) (m c2 : Nat) (I' : Nat → Int) (C : Nat → ByteArray) (h2 : Lts w a2 m I' C) (hf2 : Fits m I' C)
    (a3 : Option Addr) (m3 c3 : Nat) (I B : Nat → Int) (h3 : Mss w a3 m3 I B) (hf3 : MFits m3 I B) (hbad : ¬ (M.plan b p n S = true ∧ (0 ≤ x ∧ x < p) ∧ M.batch m I' C = true ∧ M.mis b p n S m3 I B = true)) (P0 X0 B0 L0 V0 : Nat)
    (hx0 : EBox w b p a n c x a2 m c2 a3 m3 c3 P0 X0 B0 L0 V0 (.slice none 0 0)) :
    Calls Tryd.prog 75 #[.pointer (some ⟨P0, 0, none⟩), .pointer (some ⟨X0, 0, none⟩), .pointer (some ⟨B0, 0, none⟩), .pointer (some ⟨L0, 0, none⟩), .pointer (some ⟨V0, 0, none⟩)] w fun e w' => e = JamEnd J ∧ Below w.heap.size w w' := by
  have HX := Lib.hid hx0
  have BR := Lib.hid (Below.refl w.heap.size w)
  obtain ⟨⟨⟨t0, t1, t2⟩, _⟩, x0, b0, l0, v0, vf⟩ := HX.out
  by_cases hmf : M.plan b p n S = true ∧ 0 ≤ x ∧ x < p
  · have HMF := machineFor_yes w b p a n c S h hf hn hmf.1 x hmf.2
    obtain ⟨s1, s2, s3, s4⟩ := M.plan_shape hmf.1
    obtain ⟨y, rfl⟩ := Int.eq_ofNat_of_zero_le hmf.2.1
    have HBY := Lib.hid (fun (e : M.batch m I' C = true) W (hW : Below w.heap.size w W) => impl_before_yes W b p a n c S (h.on hW) hf hn hmf.1 y hmf.2.2 a2 m c2 I' C (h2.on hW) hf2 e)
    have HBN := Lib.hid (fun (e : M.batch m I' C = false) W (hW : Below w.heap.size w W) => impl_before_no W J (hj.on hW) b p y (.slice a n c) a2 m c2 I' C (h2.on hW) hf2 e)
    have HSN : Hid (∀ (e : M.batch m I' C = true) W (hW : Below w.heap.size w W) (ax : Option Addr) (nx cx : Nat), nx = (befL b n S m I' C y).length → Lts W ax nx (nI (befL b n S m I' C y)) (nC (befL b n S m I' C y)) → Calls Tryd.prog 48 #[mac b p (.slice a n c) y, .slice ax nx cx, .slice a3 m3 c3] W (fun e w' => e = JamEnd J ∧ Below W.heap.size W w')) := fun e W hW ax nx cx hnx hl => by
      subst hnx
      exact impl_sort_no W J (hj.on hW) b p a n c S (h.on hW) hf hn y ax _ cx _ _ hl (befL_batch (n := n) (S := S) s1 e y).fits a3 m3 c3 I B (h3.on hW) hf3 (fun e2 => hbad ⟨hmf.1, hmf.2, e, e2.2⟩)
    obtain ⟨BL, hBL⟩ : ∃ BL, befL b n S m I' C y = BL := ⟨_, rfl⟩
    rw [hBL] at HBY HSN
    obtain ⟨x, hxy⟩ : ∃ x : Int, (y : Int) = x := ⟨_, rfl⟩
    clear h hf h2 hf2 h3 hf3 hx0 hj hmf hBL
    unfold mac at HMF HBY HBN HSN
    rw [hxy] at HMF HBY HBN HSN HX x0
    go_enter Tryd.func75, Tryd.ntmps75
    go_wp2_with fail
    refine HMF.mono ?_
    rintro e w1 ⟨rfl, k1⟩
    have mx2 := Lib.hid (mac_made w1 b p (.slice a n c) x 67)
    have K1 := Lib.hid (sstep BR.out k1)
    have B2 := below_alloc0 w1 (.cells #[.int .i64 b, .int .i64 p, .slice a n c, .int .i64 x] 67)
    have K2 := Lib.hid (sstep K1.out B2)
    obtain ⟨wm, hwm⟩ : ∃ wm, w1.alloc (.cells #[.int .i64 b, .int .i64 p, .slice a n c, .int .i64 x] 67) = wm := ⟨_, rfl⟩
    rw [hwm] at mx2 K2
    have HWM := Lib.hid hwm
    clear B2 k1 t0 t1 t2 x0 b0 l0 v0 vf hwm
    have HX2 := Lib.hid (HX.out.on K2.out)
    have BM := Lib.hid (Below.refl wm.heap.size wm)
    go_wp2
    rw [HWM.out]
    refine wp_region_held_drew (by kernel_rfl) (S := fun w' => Below wm.heap.size wm w') (by exact BM.out.drew) (fun hS => ?_)
    refine wpAnyH_take (i := 0) (v := .agg #[.int .i64 b, .int .i64 p, .slice a n c, .int .i64 x]) rfl (by kernel_rfl) (by kernel_rfl) (by kernel_rfl) (fun c a' w' h => panic_put (P := Tryd.prog) (fn := Tryd.f75) (R := fun e w' => e = JamEnd J ∧ Below w.heap.size w w') h) (Or.inl ⟨by rfl, ?_⟩) hS ?_
    · intro w' hw'
      obtain ⟨⟨c0, c1, c2', c3'⟩, _⟩ := mx2.out.on hw'
      obtain ⟨_, _, c5, c6, _, _⟩ := HX2.out.on hw'
      go_simp
    simp only [Act.put, List.setIfInBounds_toArray]
    refine wpAnyH_take (i := 1) (v := .agg #[.int .i64 b, .int .i64 p, .slice a n c, .int .i64 x]) rfl (by kernel_rfl) (by kernel_rfl) (by kernel_rfl) (fun c a' w' h => panic_put (P := Tryd.prog) (fn := Tryd.f75) (R := fun e w' => e = JamEnd J ∧ Below w.heap.size w w') h) (Or.inl ⟨by rfl, ?_⟩) hS ?_
    · intro w' hw'
      obtain ⟨⟨c0, c1, c2', c3'⟩, _⟩ := mx2.out.on hw'
      obtain ⟨_, _, c5, c6, _, _⟩ := HX2.out.on hw'
      go_simp
    simp only [Act.put]
    refine wpAnyH_take (i := 2) (v := .slice a2 m c2) rfl (by kernel_rfl) (by kernel_rfl) (by kernel_rfl) (fun c a' w' h => panic_put (P := Tryd.prog) (fn := Tryd.f75) (R := fun e w' => e = JamEnd J ∧ Below w.heap.size w w') h) (Or.inl ⟨by rfl, ?_⟩) hS ?_
    · intro w' hw'
      obtain ⟨⟨c0, c1, c2', c3'⟩, _⟩ := mx2.out.on hw'
      obtain ⟨_, _, c5, c6, _, _⟩ := HX2.out.on hw'
      go_simp
    simp only [Act.put]
    refine wpAnyH_take (i := 4) (v := .slice a3 m3 c3) rfl (by kernel_rfl) (by kernel_rfl) (by kernel_rfl) (fun c a' w' h => panic_put (P := Tryd.prog) (fn := Tryd.f75) (R := fun e w' => e = JamEnd J ∧ Below w.heap.size w w') h) (Or.inl ⟨by rfl, ?_⟩) hS ?_
    · intro w' hw'
      obtain ⟨⟨c0, c1, c2', c3'⟩, _⟩ := mx2.out.on hw'
      obtain ⟨_, _, c5, c6, _, _⟩ := HX2.out.on hw'
      go_simp
    simp only [Act.put]
    refine wpAnyH_ready (rs := [3]) (by kernel_rfl) (by simp) ?_
    refine AllReadyH.cons rfl (fun K hK => ?_) AllReadyH.nil
    go_simp
    cases hb : M.batch m I' C
    · refine (HBN.out hb _ K2.out.drew).mono ?_
      rintro e w3 ⟨rfl, k3⟩
      exact ⟨rfl, rfl, sstep K2.out.drew k3⟩
    · refine (HBY.out hb _ K2.out.drew).mono ?_
      rintro e w3 ⟨ax, cx, rfl, lx, _, k3⟩
      have K3 : Hid (Below w.heap.size w w3) := sstep K2.out.drew k3
      refine hK.out _ _ (sstep BM.out.drew k3) (fun hS1 => ?_)
      refine wpAnyH_ready (rs := [5]) (by kernel_rfl) (by simp) ?_
      refine AllReadyH.cons rfl (fun K hK => ?_) AllReadyH.nil
      go_simp
      refine (HSN.out hb _ K3.out ax _ cx rfl lx).mono ?_
      rintro e w4 ⟨rfl, k4⟩
      exact ⟨rfl, rfl, sstep K3.out k4⟩
  · have HMF := machineFor_no w J hj b p a n c S h hf hn x hmf
    clear h hf h2 hf2 h3 hf3 hx0 hj hbad hmf
    go_enter Tryd.func75, Tryd.ntmps75
    go_wp2_with fail
    refine HMF.mono ?_
    rintro e w1 ⟨rfl, k1⟩
    unfold JamEnd
    go_wp2
    exact ⟨rfl, rfl, k1⟩

theorem run_RunRepaired (cap : Array Value) (W : World) : (callFunc 75 cap).run Tryd.prog W = .ok (.enter 75 cap) W :=
  run_enter Tryd.func75 (by kernel_rfl) (by kernel_rfl) cap W
set_option maxHeartbeats 4000000 in
set_option maxRecDepth 100000 in
theorem impl_RunRepaired (w : World) (J : Addr) (hj : Jam w J) (b p : Int) (a : Option Addr) (n c : Nat) (S : Nat → ByteArray) (h : Strs w a n S) (hf : SFits n S) (hn : n ≤ 1048576) (a2 : Option Addr) (m c2 : Nat) (I' : Nat → Int) (C : Nat → ByteArray) (h2 : Lts w a2 m I' C) (hf2 : Fits m I' C) (x : Int)
    (a3 : Option Addr) (m3 c3 : Nat) (I B : Nat → Int) (h3 : Mss w a3 m3 I B) (hf3 : MFits m3 I B) :
    Calls Tryd.prog 35 #[.agg #[.int .i64 b, .int .i64 p, .slice a n c], .slice a2 m c2, .int .i64 x, .slice a3 m3 c3] w
      (RowRes w (faultyOk b p n S m I' C x m3 I B) (okAns b p n S m I' C x m3 I B (repAns b p n S m I' C x.toNat m3 I B))) := by
  have hmf : ∀ (fn : Fn) (first cap : Array Value) (w : World), (Instr.makeFunc fn first cap).run Tryd.prog w = .ok (.func fn first cap) w := fun _ _ _ _ => rfl
  obtain ⟨w6, hw6⟩ : ∃ w6, ((((w.alloc (.cells #[.int .i64 b, .int .i64 p, .slice a n c] 25)).alloc (.cells #[.slice a2 m c2] 26)).alloc (.cells #[.int .i64 x] 3)).alloc (.cells #[.slice a3 m3 c3] 27)).alloc (.cells #[.slice none 0 0] 26) = w6 := ⟨_, rfl⟩
  have B6 : Hid (Below w.heap.size w w6) := by rw [← hw6]; show Below _ _ _; go_grown
  have hz6 : w6.heap.size = w.heap.size + 5 := by rw [← hw6]; simp
  have FB : Hid (∀ W, Below w6.heap.size w6 W → EBox W b p a n c x a2 m c2 a3 m3 c3 w.heap.size (w.heap.size + 2) (w.heap.size + 1) (w.heap.size + 3) (w.heap.size + 4) (.slice none 0 0)) := fun W hW => by
    refine EBox.on ?_ hW
    rw [← hw6]
    refine ⟨((((tri_made w (.int .i64 b) (.int .i64 p) (.slice a n c) 25).alloc _).alloc _).alloc _).alloc _, ?_, ?_, ?_, ?_, ?_⟩ <;> simp [go_sem]
  have HJ6 := Lib.hid (hj.on B6.out)
  unfold okAns faultyOk
  have HH := Lib.hid (h.on B6.out)
  have HH2 := Lib.hid (h2.on B6.out)
  have HH3 := Lib.hid (h3.on B6.out)
  by_cases hok : M.plan b p n S = true ∧ (0 ≤ x ∧ x < p) ∧ M.batch m I' C = true ∧ M.mis b p n S m3 I B = true
  · rw [@decide_eq_true _ (Classical.propDecidable _) hok, if_pos rfl]
    obtain ⟨hp, hx, hb, hmi⟩ := hok
    obtain ⟨y, rfl⟩ := Int.eq_ofNat_of_zero_le hx.1
    rw [Int.toNat_natCast]
    obtain ⟨s1, s2, _⟩ := M.plan_shape hp
    have HR := Lib.hid (runs_well w6 J HJ6.out 75 #[.pointer (some ⟨w.heap.size, 0, none⟩), .pointer (some ⟨w.heap.size + 2, 0, none⟩), .pointer (some ⟨w.heap.size + 1, 0, none⟩), .pointer (some ⟨w.heap.size + 3, 0, none⟩), .pointer (some ⟨w.heap.size + 4, 0, none⟩)]
      (fun W w1 => LDone (W.alloc (.cells #[.nilIface] 103)) (w.heap.size + 4) (repAns b p n S m I' C y m3 I B) w1) (run_RunRepaired _)
      (fun W hW => by
        have hW2 : Below w6.heap.size w6 (W.alloc (.cells #[.nilIface] 103)) := hW.alloc hW.size _
        exact reprun1_yes _ b p a n c S (HH.out.on hW2) hf hn y hx.2 J (HJ6.out.on hW2) a2 m c2 I' C (HH2.out.on hW2) hf2 a3 m3 c3 I B (HH3.out.on hW2) hf3 hb hmi _ _ _ _ _ (by omega) (FB.out _ hW2))
      (fun W w1 hW hr => by
        obtain ⟨u, _, _, ho⟩ := hr
        have hs := hW.size
        have hbk := ho.block W.heap.size (by simp) (by omega)
        refine ⟨(World.cell?_of_block hbk).trans (by simp), (World.frozen?_of_block hbk).trans (by simp [go_sem]), ?_⟩
        have hj2 := (HJ6.out.on hW).on (below_alloc0 W (.cells #[.nilIface] 103))
        have hl := HJ6.out.lt
        exact (World.cell?_of_block (ho.block _ hj2.lt (show ¬ (0 = w.heap.size + 4) from by have := hj.lt; omega))).trans hj2))
    obtain ⟨LL, hLL⟩ : ∃ LL, repAns b p n S m I' C y m3 I B = LL := ⟨_, rfl⟩
    rw [hLL] at HR ⊢
    have HW6 := Lib.hid hw6
    clear h h2 h3 hj hw6 hLL FB HH HH2 HH3 hp hx hb hmi
    go_enter Tryd.func35, Tryd.ntmps35
    go_wp2_with fail
    rw [HW6.out]
    refine HR.out.mono ?_
    rintro e w7 ⟨rfl, W, wa, hW, ⟨u, hRo, hu, ho⟩, on⟩
    have hsW := hW.size
    have hszA : (W.alloc (.cells #[.nilIface] 103)).heap.size = W.heap.size + 1 := by simp
    rw [hszA] at hRo
    have u7 : w7.cell? ⟨w.heap.size + 4, 0, none⟩ = some u := (World.cell?_of_block (on.block (w.heap.size + 4) (World.block_lt_of_cell? _ _ hu) (by omega))).trans hu
    have R7 := Lib.hid (hRo.only on (fun k hk hs => by have := (hRo.lt k hk).1; omega))
    have hoz := ho.size
    rw [hszA] at hoz
    have B7 : Hid (Below w.heap.size w w7) := ((B6.out.trans (hW.mono (by omega))).trans ((below_alloc0 W (.cells #[.nilIface] 103)).mono (by omega))).trans ((ho.below (B := w.heap.size) (fun k hk _ hs => by omega) (by rw [hszA]; omega)).trans (on.below (B := w.heap.size) (fun k hk _ hs => by omega) (by omega)))
    clear hRo hu ho on
    go_wp2
    go_ret2
    exact ⟨u, rfl, R7.out.lower (by omega), by first | exact B7.out | exact below_drewN0 B7.out _⟩
  · rw [@decide_eq_false _ (Classical.propDecidable _) hok, if_neg (by decide)]
    have HR := Lib.hid (runs_jam w6 J HJ6.out 75 #[.pointer (some ⟨w.heap.size, 0, none⟩), .pointer (some ⟨w.heap.size + 2, 0, none⟩), .pointer (some ⟨w.heap.size + 1, 0, none⟩), .pointer (some ⟨w.heap.size + 3, 0, none⟩), .pointer (some ⟨w.heap.size + 4, 0, none⟩)]
      (fun W w1 => Below (W.alloc (.cells #[.nilIface] 103)).heap.size (W.alloc (.cells #[.nilIface] 103)) w1) (run_RunRepaired _)
      (fun W hW => by
        have hW2 : Below w6.heap.size w6 (W.alloc (.cells #[.nilIface] 103)) := hW.alloc hW.size _
        exact reprun1_no _ b p a n c S (HH.out.on hW2) hf hn x J (HJ6.out.on hW2) a2 m c2 I' C (HH2.out.on hW2) hf2 a3 m3 c3 I B (HH3.out.on hW2) hf3 hok _ _ _ _ _ (FB.out _ hW2))
      (fun W w1 hW hr => by
        have hbk := hr.block W.heap.size (by simp)
        exact ⟨(World.cell?_of_block hbk).trans (by simp), (World.frozen?_of_block hbk).trans (by simp [go_sem]), ((HJ6.out.on hW).on (below_alloc0 W (.cells #[.nilIface] 103))).on hr⟩))
    have HW6 := Lib.hid hw6
    have HFB := Lib.hid FB
    clear h h2 h3 hj hw6 FB HH HH2 HH3 hok
    go_enter Tryd.func35, Tryd.ntmps35
    go_wp2_with fail
    rw [HW6.out]
    refine HR.out.mono ?_
    rintro e w7 ⟨rfl, W, wa, hW, hr, on⟩
    have hsW := hW.size
    have hszA : (W.alloc (.cells #[.nilIface] 103)).heap.size = W.heap.size + 1 := by simp
    have hwa : Below w6.heap.size w6 wa := (hW.alloc hsW (.cells #[.nilIface] 103)).trans (hr.mono (by rw [hszA]; omega))
    have fb := HFB.out wa hwa
    have v7 : w7.cell? ⟨w.heap.size + 4, 0, none⟩ = some (.slice none 0 0) := (World.cell?_of_block (on.block (w.heap.size + 4) (World.block_lt_of_cell? _ _ fb.vv) (by omega))).trans fb.vv
    have hzw := hwa.size
    have B7 : Hid (Below w.heap.size w w7) := (B6.out.trans (hwa.mono (by omega))).trans (on.below (B := w.heap.size) (fun k hk _ hs => by omega) (by omega))
    clear hr on fb hwa hW
    go_wp2
    go_ret2
    exact ⟨_, rfl, Row.nil _ _, by first | exact B7.out | exact below_drewN0 B7.out _⟩
end Go.Proofs.YtnaghfppeejaoaaDoor

/-
  What a faulty pass, its repair, and the passes behind it leave: the letters with a rank, all of them. No program is named here.
-/
namespace Go.Proofs.YtnaghfppeejaoaaDoor
set_option linter.unusedVariables false

/-- The letters that have a rank. -/
def rkd (n : Nat) (S : Nat → ByteArray) (L : List (Int × ByteArray)) : List (Int × ByteArray) := L.filter fun y => hasR n S y
theorem restTo_mem (key : Nat → Option Nat) (I : Nat → Int) (C : Nat → ByteArray) {y : Int × ByteArray} : ∀ k, y ∈ M.restTo key I C k → ∃ i, i < k ∧ key i = none ∧ y = (I i, C i)
  | 0, h => by cases h
  | k + 1, h => by
    cases hk : key k with
    | none =>
      rw [M.restTo_none hk] at h
      rcases List.mem_append.1 h with h | h
      · obtain ⟨i, hi, r⟩ := restTo_mem key I C k h
        exact ⟨i, by omega, r⟩
      · exact ⟨k, by omega, hk, List.mem_singleton.1 h⟩
    | some d =>
      rw [M.restTo_some hk] at h
      obtain ⟨i, hi, r⟩ := restTo_mem key I C k h
      exact ⟨i, by omega, r⟩
theorem rkd_all {n : Nat} {S : Nat → ByteArray} {L : List (Int × ByteArray)} (h : ∀ y ∈ L, hasR n S y = true) : rkd n S L = L := List.filter_eq_self.2 h
theorem rkd_none {n : Nat} {S : Nat → ByteArray} {L : List (Int × ByteArray)} (h : ∀ y ∈ L, hasR n S y = false) : rkd n S L = [] := List.filter_eq_nil_iff.2 fun y hy => by rw [h y hy]; decide
theorem rkd_app (n : Nat) (S : Nat → ByteArray) (A B : List (Int × ByteArray)) : rkd n S (A ++ B) = rkd n S A ++ rkd n S B := List.filter_append _ _
theorem rkd_perm {n : Nat} {S : Nat → ByteArray} {A B : List (Int × ByteArray)} (h : A.Perm B) : (rkd n S A).Perm (rkd n S B) := h.filter _
/-- A list that differs by letters without a rank. -/
theorem rkd_of {n : Nat} {S : Nat → ByteArray} {A R L : List (Int × ByteArray)} (h : (A ++ R).Perm L) (hR : ∀ y ∈ R, hasR n S y = false) : (rkd n S A).Perm (rkd n S L) := by
  have := rkd_perm (n := n) (S := S) h
  rw [rkd_app, rkd_none hR, List.append_nil] at this
  exact this
theorem srt_rkd (n : Nat) (S : Nat → ByteArray) (L : List (Int × ByteArray)) : (srt n S L).Perm (rkd n S L) := by
  have h := srt_perm n S L.length (nI L) (nC L)
  rw [lst_nI] at h
  have h2 := rkd_of (n := n) (S := S) h (fun y hy => by
    have := (List.mem_filter.1 hy).2
    simpa using this)
  rw [rkd_all (srt_asc n S L).2] at h2
  exact h2
theorem step_rkd {b : Int} (b0 : 2 ≤ b) (n : Nat) (S : Nat → ByteArray) (L : List (Int × ByteArray)) (x : Nat) : (rkd n S (M.flat (stepB b n S L x) b.toNat)).Perm (rkd n S L) :=
  rkd_of (step_perm b0 n S L x) (fun y hy => by
    have := (List.mem_filter.1 hy).2
    simpa using this)
theorem key_ranked {b : Int} {n : Nat} {S : Nat → ByteArray} {x d : Nat} {y : Int × ByteArray} (h : keyOf b n S x y.2 = some d) : hasR n S y = true := by
  unfold keyOf at h
  by_cases h0 : M.rankTo S y.2 n < 0
  · rw [if_pos h0] at h; cases h
  · exact decide_eq_true (by omega)
theorem step_all {b : Int} {n : Nat} {S : Nat → ByteArray} {L : List (Int × ByteArray)} {x N : Nat} : ∀ y ∈ M.flat (stepB b n S L x) N, hasR n S y = true := fun y hy => by
  obtain ⟨d, _, hd⟩ := mem_flat hy
  rw [stepB_filter] at hd
  exact key_ranked (x := x) (b := b) (d := d) (beq_iff_eq.1 (List.mem_filter.1 hd).2)
theorem passL_rkd {b : Int} (b0 : 2 ≤ b) (n : Nat) (S : Nat → ByteArray) (f : Nat) (L : List (Int × ByteArray)) : ∀ k, (rkd n S (passL b n S f L k)).Perm (rkd n S L)
  | 0 => List.Perm.refl _
  | k + 1 => (step_rkd b0 n S (passL b n S f L k) (f + k)).trans (passL_rkd b0 n S f L k)
theorem passL_all {b : Int} {n : Nat} {S : Nat → ByteArray} {f : Nat} {L : List (Int × ByteArray)} (h : ∀ y ∈ L, hasR n S y = true) : ∀ k, ∀ y ∈ passL b n S f L k, hasR n S y = true
  | 0 => h
  | k + 1 => step_all
/-- The faulty pass keeps all letters that have a rank. -/
theorem err_rkd {b : Int} {n : Nat} {S : Nat → ByteArray} {m : Nat} {I' : Nat → Int} {C : Nat → ByteArray} (s1 : 2 ≤ b) (x : Nat) {m3 : Nat} {I B : Nat → Int} (hmt : M.misTo (b - 1) I B m3) : (rkd n S (M.flat (errM b n S m I' C x m3 I B) b.toNat)).Perm (rkd n S (M.lst I' C m)) := by
  have hp := flat_rest (fkey b n S (nC (befL b n S m I' C x)) x (nI (befL b n S m I' C x)) m3 I B) (nI (befL b n S m I' C x)) (nC (befL b n S m I' C x)) b.toNat (befL b n S m I' C x).length fun i _ d hd => fkey_bd (p := b) s1 hmt hd
  rw [lst_nI] at hp
  refine (rkd_of (n := n) (S := S) hp (fun y hy => ?_)).trans (passL_rkd s1 n S 0 (M.lst I' C m) x)
  obtain ⟨i, _, hk, rfl⟩ := restTo_mem _ _ _ _ hy
  unfold fkey at hk
  split at hk
  · unfold M.planKey at hk
    split at hk
    · unfold hasR
      exact decide_eq_false (by show ¬ 0 ≤ M.rankTo S (nC _ i) n; omega)
    · cases hk
  · cases hk
theorem due_key {b : Int} {n : Nat} {S : Nat → ByteArray} {x : Nat} {s : ByteArray} {d : Nat} (hb : 2 ≤ b) : dueBin b n S x s = (d : Int) ↔ keyOf b n S x s = some d := by
  unfold dueBin keyOf
  have hbd := M.rankBin_bd (b := b) (r := M.rankTo S s n) (k := x) hb
  split
  · constructor
    · intro h; omega
    · intro h; cases h
  · constructor
    · intro h; rw [h]; rfl
    · intro h
      have := Option.some.inj h
      omega
theorem right_key {b : Int} {n : Nat} {S : Nat → ByteArray} {x : Nat} {MM : Nat → List (Int × ByteArray)} (hb : 2 ≤ b) {d : Nat} {y : Int × ByteArray} (h : y ∈ rightL b n S x MM d) : keyOf b n S x y.2 = some d := by
  have := (List.mem_filter.1 h).2
  unfold rightB at this
  exact (due_key hb).1 (beq_iff_eq.1 this)
/-- A repaired bin has the letters that belong there. -/
theorem rep_key {b : Int} {n : Nat} {S : Nat → ByteArray} {x : Nat} {MM : Nat → List (Int × ByteArray)} {N : Nat} (hb : 2 ≤ b) {d : Nat} {y : Int × ByteArray} (h : y ∈ repM b n S x MM N d) : keyOf b n S x y.2 = some d := by
  rcases List.mem_append.1 (show y ∈ rightL b n S x MM d ++ stepB b n S (M.flat (wrongL b n S x MM) N) x d from h) with h | h
  · exact right_key hb h
  · rw [stepB_filter] at h
    exact beq_iff_eq.1 (List.mem_filter.1 h).2
theorem rep_all {b : Int} {n : Nat} {S : Nat → ByteArray} {x : Nat} {MM : Nat → List (Int × ByteArray)} {N K : Nat} (hb : 2 ≤ b) : ∀ y ∈ M.flat (repM b n S x MM N) K, hasR n S y = true := fun y hy => by
  obtain ⟨d, _, hd⟩ := mem_flat hy
  exact key_ranked (rep_key hb hd)
/-- Repairing keeps all letters that have a rank. -/
theorem rep_rkd {b : Int} {n : Nat} {S : Nat → ByteArray} {x : Nat} {MM : Nat → List (Int × ByteArray)} (hb : 2 ≤ b) : (M.flat (repM b n S x MM b.toNat) b.toNat).Perm (rkd n S (M.flat MM b.toNat)) := by
  have h1 := flat_parts b n S x MM b.toNat
  obtain ⟨WL, hWL⟩ : ∃ WL, M.flat (wrongL b n S x MM) b.toNat = WL := ⟨_, rfl⟩
  have h2 := flat_addTo (rightL b n S x MM) (stepB b n S WL x) b.toNat
  have e : repM b n S x MM b.toNat = addTo (rightL b n S x MM) (stepB b n S WL x) := by rw [← hWL]; rfl
  rw [hWL] at h1
  rw [← e] at h2
  have h3 := (h2.append_right (WL.filter fun y => !hasR n S y))
  rw [List.append_assoc] at h3
  have h4 := (h3.trans ((step_perm hb n S WL x).append_left _)).trans h1
  have h5 := rkd_of (n := n) (S := S) h4 (fun y hy => by
    have := (List.mem_filter.1 hy).2
    simpa using this)
  rw [rkd_all (rep_all hb)] at h5
  exact h5
/-- Bins whose letters belong there are not changed by the same pass. -/
theorem step_again {b : Int} {n : Nat} {S : Nat → ByteArray} {x : Nat} {F : Nat → List (Int × ByteArray)} {N : Nat} (h : ∀ d, ∀ y ∈ F d, keyOf b n S x y.2 = some d) : M.flat (stepB b n S (M.flat F N) x) N = M.flat F N := by
  refine M.flat_congr fun d hd => ?_
  rw [stepB_filter, flat_filter, flat_pick _ d (fun u hu => List.filter_eq_nil_iff.2 fun y hy => by rw [h u y hy]; simpa using hu), if_pos hd]
  exact List.filter_eq_self.2 fun y hy => by rw [h d y hy]; simp
theorem bins_bl {b : Int} {MM : Nat → List (Int × ByteArray)} (e : binsOk b b.toNat MM = true) : BatchL (M.flat MM b.toNat) := by
  unfold binsOk at e
  rw [Bool.and_eq_true] at e
  exact (batchL_list _).1 e.2
theorem runOk_list {b p : Int} {n : Nat} {S : Nat → ByteArray} {L : List (Int × ByteArray)} (hp : M.plan b p n S = true) (hL : BatchL L) : runOk b p n S L.length (nI L) (nC L) = true := by
  unfold runOk
  rw [hp, (batchL_list _).2 hL]
  rfl
theorem run_srt {b p : Int} {n : Nat} {S : Nat → ByteArray} {L : List (Int × ByteArray)} (hp : M.plan b p n S = true) (hL : BatchL L) : runList b p n S L.length (nI L) (nC L) = srt n S L := by
  have := runList_srt (runOk_list hp hL)
  rw [lst_nI] at this
  exact this
theorem passes_srt {b p : Int} {n : Nat} {S : Nat → ByteArray} {L : List (Int × ByteArray)} (hp : M.plan b p n S = true) (hL : BatchL L) : passL b n S 0 L p.toNat = srt n S L := by
  obtain ⟨s1, s2, s3, s4⟩ := M.plan_shape hp
  have := run_passes s1 s2 (runOk_list hp hL)
  rw [lst_nI] at this
  exact this.symm
theorem inOrder_srt {b p : Int} {n : Nat} {S : Nat → ByteArray} {L : List (Int × ByteArray)} (hp : M.plan b p n S = true) (hL : BatchL L) : M.inOrder b p n S (srt n S L).length (nI (srt n S L)) (nC (srt n S L)) = true :=
  (inOrder_yes (runOk_list hp (srt_batch hL))).trans (decide_eq_true (ord_srt n S L))
/-- Behind a restart. -/
theorem res_srt {b p : Int} {n : Nat} {S : Nat → ByteArray} {m : Nat} {I' : Nat → Int} {C : Nat → ByteArray} (hp : M.plan b p n S = true) (hb : M.batch m I' C = true) (x : Nat) {m3 : Nat} {I B : Nat → Int} (hmt : M.misTo (b - 1) I B m3) :
    ∃ E, BatchL E ∧ resAns b p n S m I' C x m3 I B = srt n S E ∧ (srt n S E).Perm (srt n S (M.lst I' C m)) := by
  obtain ⟨s1, s2, s3, s4⟩ := M.plan_shape hp
  have hE := bins_bl (errM_ok (p := p) (n := n) (S := S) s1 hb x hmt)
  exact ⟨_, hE, run_srt hp hE, (srt_rkd n S _).trans ((err_rkd s1 x hmt).trans (srt_rkd n S _).symm)⟩
/-- Behind a repair. -/
theorem rep_perm {b p : Int} {n : Nat} {S : Nat → ByteArray} {m : Nat} {I' : Nat → Int} {C : Nat → ByteArray} (hp : M.plan b p n S = true) (x : Nat) {m3 : Nat} {I B : Nat → Int} (hmt : M.misTo (b - 1) I B m3) :
    (repAns b p n S m I' C x m3 I B).Perm (srt n S (M.lst I' C m)) := by
  obtain ⟨s1, s2, s3, s4⟩ := M.plan_shape hp
  have h1 := passL_rkd s1 n S (x + 1) (M.flat (repM b n S x (errM b n S m I' C x m3 I B) b.toNat) b.toNat) (p.toNat - (x + 1))
  rw [rkd_all (passL_all (rep_all s1) _), rkd_all (rep_all s1)] at h1
  exact h1.trans ((rep_rkd s1).trans ((err_rkd s1 x hmt).trans (srt_rkd n S _).symm))
theorem rep_batch {b p : Int} {n : Nat} {S : Nat → ByteArray} {m : Nat} {I' : Nat → Int} {C : Nat → ByteArray} (hp : M.plan b p n S = true) (hb : M.batch m I' C = true) (x : Nat) {m3 : Nat} {I B : Nat → Int} (hmt : M.misTo (b - 1) I B m3) : BatchL (M.flat (repM b n S x (errM b n S m I' C x m3 I B) b.toNat) b.toNat) := by
  obtain ⟨s1, s2, s3, s4⟩ := M.plan_shape hp
  exact bins_bl (repM_ok s1 x (errM_ok (p := p) (n := n) (S := S) s1 hb x hmt))
/-- A repaired fault of the first pass does not show. -/
theorem rep_first {b p : Int} {n : Nat} {S : Nat → ByteArray} {m : Nat} {I' : Nat → Int} {C : Nat → ByteArray} (hp : M.plan b p n S = true) (hb : M.batch m I' C = true) {m3 : Nat} {I B : Nat → Int} (hmt : M.misTo (b - 1) I B m3) :
    ∃ E, BatchL E ∧ repAns b p n S m I' C 0 m3 I B = srt n S E := by
  obtain ⟨s1, s2, s3, s4⟩ := M.plan_shape hp
  have hE := rep_batch (x := 0) hp hb hmt
  refine ⟨_, hE, ?_⟩
  have h1 := passes_srt hp hE
  obtain ⟨F, hF⟩ : ∃ F, repM b n S 0 (errM b n S m I' C 0 m3 I B) b.toNat = F := ⟨_, rfl⟩
  have hk : ∀ d, ∀ y ∈ F d, keyOf b n S 0 y.2 = some d := fun d y hy => by rw [← hF] at hy; exact rep_key s1 hy
  unfold repAns
  rw [hF] at h1 ⊢
  rw [← h1]
  have h2 := passL_add b n S 0 (M.flat F b.toNat) 1 (p.toNat - 1)
  rw [show 1 + (p.toNat - 1) = p.toNat by omega] at h2
  have h3 : passL b n S 0 (M.flat F b.toNat) 1 = M.flat F b.toNat := step_again hk
  rw [h3] at h2
  exact h2.symm
theorem step_keys {b : Int} {n : Nat} {S : Nat → ByteArray} {L : List (Int × ByteArray)} {x d : Nat} : ∀ y ∈ stepB b n S L x d, keyOf b n S x y.2 = some d := fun y hy => by
  rw [stepB_filter] at hy
  exact beq_iff_eq.1 (List.mem_filter.1 hy).2
/-- Without missorts a repair changes nothing. -/
theorem rep_none {b p : Int} {n : Nat} {S : Nat → ByteArray} {m : Nat} {I' : Nat → Int} {C : Nat → ByteArray} (hp : M.plan b p n S = true) (hb : M.batch m I' C = true) {x : Nat} (hx : (x : Int) < p) (I B : Nat → Int) :
    repAns b p n S m I' C x 0 I B = srt n S (M.lst I' C m) := by
  obtain ⟨s1, s2, s3, s4⟩ := M.plan_shape hp
  have e0 : errM b n S m I' C x 0 I B = stepB b n S (befL b n S m I' C x) x := by
    unfold errM stepB
    congr 1
  obtain ⟨F, hF⟩ : ∃ F, stepB b n S (befL b n S m I' C x) x = F := ⟨_, rfl⟩
  have hk : ∀ d, ∀ y ∈ F d, keyOf b n S x y.2 = some d := fun d y hy => by rw [← hF] at hy; exact step_keys y hy
  have e1 : wrongL b n S x F = fun _ => [] := by
    funext d
    refine List.filter_eq_nil_iff.2 fun y hy => ?_
    have := (due_key s1).2 (hk d y hy)
    unfold rightB
    rw [this, beq_self_eq_true]
    decide
  have e2 : rightL b n S x F = F := by
    funext d
    refine List.filter_eq_self.2 fun y hy => ?_
    have := (due_key s1).2 (hk d y hy)
    unfold rightB
    rw [this, beq_self_eq_true]
  have e3 : repM b n S x F b.toNat = F := by
    show addTo (rightL b n S x F) (stepB b n S (M.flat (wrongL b n S x F) b.toNat) x) = F
    rw [e1, e2, flat_nil]
    funext d
    exact List.append_nil _
  unfold repAns
  rw [e0, hF, e3]
  have h1 := passes_srt hp ((batchL_iff m I' C).1 hb)
  rw [← h1]
  have h2 := passL_add b n S 0 (M.lst I' C m) (x + 1) (p.toNat - (x + 1))
  rw [show x + 1 + (p.toNat - (x + 1)) = p.toNat by omega, Nat.zero_add] at h2
  rw [h2, ← hF]
  unfold befL finL
  congr 1
  show _ = M.flat (stepB b n S (passL b n S 0 (M.lst I' C m) x) (0 + x)) b.toNat
  rw [Nat.zero_add]
end Go.Proofs.YtnaghfppeejaoaaDoor

/-
  Repaired faults of the last pass: the bins of the letters ascend, and letters without a missort stay where they are. No program is named here.
-/
namespace Go.Proofs.YtnaghfppeejaoaaDoor
set_option linter.unusedVariables false

theorem binTo_gen (κ : Int × ByteArray → Option Nat) (I : Nat → Int) (C : Nat → ByteArray) (d : Nat) : ∀ k, M.binTo (fun i => κ (I i, C i)) I C k d = (M.lst I C k).filter fun y => κ y == some d
  | 0 => rfl
  | k + 1 => by
    have ih := binTo_gen κ I C d k
    rw [M.lst_succ, List.filter_append, ← ih]
    cases h : κ (I k, C k) with
    | none =>
      rw [M.binTo_none (key := fun i => κ (I i, C i)) h]
      have e : [(I k, C k)].filter (fun y => κ y == some d) = [] := by simp [h]
      rw [e, List.append_nil]
    | some c =>
      rw [M.binTo_some (key := fun i => κ (I i, C i)) h]
      simp only
      by_cases e : d = c
      · subst e
        rw [if_pos rfl]
        have e2 : [(I k, C k)].filter (fun y => κ y == some d) = [(I k, C k)] := by simp [h]
        rw [e2]
      · rw [if_neg e]
        have e2 : [(I k, C k)].filter (fun y => κ y == some d) = [] := by simp [h]; exact fun e3 => e e3.symm
        rw [e2, List.append_nil]
/-- The bin of a letter in a faulty pass. -/
def fkY (b : Int) (n : Nat) (S : Nat → ByteArray) (x m3 : Nat) (I B : Nat → Int) (y : Int × ByteArray) : Option Nat := if M.find I m3 y.1 < 0 then keyOf b n S x y.2 else some (B (M.find I m3 y.1).toNat).toNat
theorem errM_filter (b : Int) (n : Nat) (S : Nat → ByteArray) (m : Nat) (I' : Nat → Int) (C : Nat → ByteArray) (x m3 : Nat) (I B : Nat → Int) (d : Nat) : errM b n S m I' C x m3 I B d = (befL b n S m I' C x).filter fun y => fkY b n S x m3 I B y == some d := by
  have := binTo_gen (fkY b n S x m3 I B) (nI (befL b n S m I' C x)) (nC (befL b n S m I' C x)) d (befL b n S m I' C x).length
  rw [lst_nI] at this
  exact this
/-- A letter without a missort. -/
def okL (m3 : Nat) (I : Nat → Int) (y : Int × ByteArray) : Bool := decide (M.find I m3 y.1 < 0)
theorem fkY_ok {b : Int} {n : Nat} {S : Nat → ByteArray} {x m3 : Nat} {I B : Nat → Int} {y : Int × ByteArray} (h : okL m3 I y = true) : fkY b n S x m3 I B y = keyOf b n S x y.2 := if_pos (of_decide_eq_true h)
/-- The letters without a missort are in the repaired bins as in those of an ordinary pass. -/
theorem last_keep {b : Int} {n : Nat} {S : Nat → ByteArray} {m : Nat} {I' : Nat → Int} {C : Nat → ByteArray} (s1 : 2 ≤ b) (x m3 : Nat) (I B : Nat → Int) (N : Nat) :
    (M.flat (repM b n S x (errM b n S m I' C x m3 I B) N) N).filter (okL m3 I) = M.flat (stepB b n S ((befL b n S m I' C x).filter (okL m3 I)) x) N := by
  rw [flat_filter]
  refine M.flat_congr fun d hd => ?_
  obtain ⟨E, hE⟩ : ∃ E, errM b n S m I' C x m3 I B = E := ⟨_, rfl⟩
  have he : ∀ d, E d = (befL b n S m I' C x).filter fun y => fkY b n S x m3 I B y == some d := fun d => by rw [← hE]; exact errM_filter b n S m I' C x m3 I B d
  rw [hE]
  show (rightL b n S x E d ++ stepB b n S (M.flat (wrongL b n S x E) N) x d).filter (okL m3 I) = _
  rw [List.filter_append]
  have h1 : (stepB b n S (M.flat (wrongL b n S x E) N) x d).filter (okL m3 I) = [] := by
    refine List.filter_eq_nil_iff.2 fun y hy ho => ?_
    rw [stepB_filter] at hy
    obtain ⟨d', _, hw⟩ := mem_flat (List.mem_filter.1 hy).1
    obtain ⟨hm, hr⟩ := List.mem_filter.1 hw
    rw [he d'] at hm
    have hk := beq_iff_eq.1 (List.mem_filter.1 hm).2
    rw [fkY_ok ho] at hk
    have := (due_key s1).2 hk
    unfold rightB at hr
    rw [this] at hr
    simp at hr
  rw [h1, List.append_nil, stepB_filter]
  unfold rightL M.withF
  rw [he d, List.filter_filter, List.filter_filter, List.filter_filter]
  congr 1
  funext y
  cases ho : okL m3 I y
  · simp
  · rw [fkY_ok ho]
    have hdk := due_key (b := b) (n := n) (S := S) (x := x) (s := y.2) (d := d) s1
    unfold rightB
    by_cases hk : keyOf b n S x y.2 = some d
    · rw [hk, hdk.2 hk]; simp
    · rw [(beq_eq_false_iff_ne).2 hk, (beq_eq_false_iff_ne).2 (fun e => hk (hdk.1 e))]; simp
theorem step_filt (b : Int) (n : Nat) (S : Nat → ByteArray) (L : List (Int × ByteArray)) (x : Nat) (q : Int × ByteArray → Bool) (N : Nat) : (M.flat (stepB b n S L x) N).filter q = M.flat (stepB b n S (L.filter q) x) N := by
  rw [flat_filter]
  refine M.flat_congr fun d _ => ?_
  rw [stepB_filter, stepB_filter, List.filter_filter, List.filter_filter]
  congr 1
  funext y
  exact Bool.and_comm _ _
theorem passL_filt (b : Int) (n : Nat) (S : Nat → ByteArray) (f : Nat) (L : List (Int × ByteArray)) (q : Int × ByteArray → Bool) : ∀ k, (passL b n S f L k).filter q = passL b n S f (L.filter q) k
  | 0 => rfl
  | k + 1 => by
    show (M.flat (stepB b n S (passL b n S f L k) (f + k)) b.toNat).filter q = M.flat (stepB b n S (passL b n S f (L.filter q) k) (f + k)) b.toNat
    rw [step_filt, passL_filt b n S f L q k]
theorem one_len {c : Int} : ∀ {L : List (Int × ByteArray)}, (L.map Prod.fst).Pairwise (· ≠ ·) → (L.filter fun y => c == y.1).length ≤ 1
  | [], _ => by simp
  | y :: L, h => by
    rw [List.map_cons, List.pairwise_cons] at h
    have ih := one_len (c := c) h.2
    cases hc : (c == y.1)
    · rw [List.filter_cons_of_neg (p := fun y : Int × ByteArray => c == y.1) (by rw [hc]; decide)]; exact ih
    · rw [List.filter_cons_of_pos (p := fun y : Int × ByteArray => c == y.1) hc]
      have e : (L.filter fun y => c == y.1) = [] := List.filter_eq_nil_iff.2 fun z hz hcz => by
        have h1 := h.1 z.1 (List.mem_map.2 ⟨z, hz, rfl⟩)
        exact h1 ((beq_iff_eq.1 hc).symm.trans (beq_iff_eq.1 hcz))
      rw [e]; simp
theorem or_len (p q : Int × ByteArray → Bool) : ∀ L : List (Int × ByteArray), (L.filter fun y => p y || q y).length ≤ (L.filter p).length + (L.filter q).length
  | [] => by simp
  | y :: L => by
    have ih := or_len p q L
    simp only [List.filter_cons]
    cases p y <;> cases q y <;> simp <;> omega
/-- No more letters have a missort than there are missorts. -/
theorem hit_len {I : Nat → Int} {L : List (Int × ByteArray)} (h : (L.map Prod.fst).Pairwise (· ≠ ·)) : ∀ k, (L.filter fun y => (List.range k).any fun j => I j == y.1).length ≤ k
  | 0 => by simp
  | k + 1 => by
    have ih := hit_len (I := I) h k
    have h1 := one_len (c := I k) h
    have e : (fun y : Int × ByteArray => (List.range (k + 1)).any fun j => I j == y.1) = fun y => ((List.range k).any fun j => I j == y.1) || (I k == y.1) := by
      funext y
      rw [List.range_succ, List.any_append]
      simp
    rw [e]
    have := or_len (fun y => (List.range k).any fun j => I j == y.1) (fun y => I k == y.1) L
    omega
theorem bad_len {m3 : Nat} {I : Nat → Int} {L : List (Int × ByteArray)} (h : BatchL L) : L.length ≤ (L.filter (okL m3 I)).length + m3 := by
  have h1 := hit_len (I := I) h.2.1 m3
  have h2 := or_len (okL m3 I) (fun y => (List.range m3).any fun j => I j == y.1) L
  have e : (L.filter fun y => okL m3 I y || ((List.range m3).any fun j => I j == y.1)) = L := List.filter_eq_self.2 fun y _ => by
    rcases find_cases I m3 y.1 with ⟨h, _⟩ | ⟨j, hj, e, _⟩
    · unfold okL; rw [h]; simp
    · rw [Bool.or_eq_true]
      exact Or.inr (List.any_eq_true.2 ⟨j, List.mem_range.2 hj, by rw [e]; simp⟩)
  rw [e] at h2
  omega
theorem flat_asc {κ : Int × ByteArray → Int} {F : Nat → List (Int × ByteArray)} (h : ∀ d, ∀ y ∈ F d, κ y = (d : Int)) : ∀ N, (M.flat F N).Pairwise (fun y z => κ y ≤ κ z) ∧ ∀ y ∈ M.flat F N, κ y < (N : Int)
  | 0 => ⟨List.Pairwise.nil, fun y hy => by cases hy⟩
  | N + 1 => by
    obtain ⟨h1, h2⟩ := flat_asc h N
    refine ⟨?_, fun y hy => ?_⟩
    · show (M.flat F N ++ F N).Pairwise _
      refine List.pairwise_append.2 ⟨h1, ?_, fun y hy z hz => ?_⟩
      · have hp : ∀ (L : List (Int × ByteArray)), (∀ y ∈ L, κ y = (N : Int)) → L.Pairwise (fun y z => κ y ≤ κ z) := fun L hL => by
          refine List.pairwise_iff_getElem.2 fun i j hi hj _ => ?_
          rw [hL _ (List.getElem_mem hi), hL _ (List.getElem_mem hj)]
          exact Int.le_refl _
        exact hp _ (h N)
      · rw [h N z hz]; have := h2 y hy; omega
    · rcases List.mem_append.1 (show y ∈ M.flat F N ++ F N from hy) with hy | hy
      · have := h2 y hy; omega
      · rw [h N y hy]; omega
/-- What the law asks of the repaired faults of the last pass. -/
theorem rep_last {b p : Int} {n : Nat} {S : Nat → ByteArray} {m : Nat} {I' : Nat → Int} {C : Nat → ByteArray} (hp : M.plan b p n S = true) (hb : M.batch m I' C = true) {x : Nat} (hx : (x : Int) + 1 = p) {m3 : Nat} {I B : Nat → Int} (hmt : M.misTo (b - 1) I B m3) :
    ∃ R, repAns b p n S m I' C x m3 I B = R ∧ BatchL R ∧ (∀ i, (hi : i + 1 < R.length) → M.planBin b p n S (nC R i) x ≤ M.planBin b p n S (nC R (i + 1)) x) ∧ M.moved b p n S R.length (nI R) (nC R) ≤ (m3 : Int) := by
  obtain ⟨s1, s2, s3, s4⟩ := M.plan_shape hp
  have hR := rep_batch (n := n) (S := S) (x := x) hp hb hmt
  have hfin : repAns b p n S m I' C x m3 I B = M.flat (repM b n S x (errM b n S m I' C x m3 I B) b.toNat) b.toNat := by
    unfold repAns finL
    rw [show p.toNat - (x + 1) = 0 by omega]
    rfl
  refine ⟨_, hfin, hR, fun i hi => ?_, ?_⟩
  · have hk : ∀ d, ∀ y ∈ repM b n S x (errM b n S m I' C x m3 I B) b.toNat d, M.planBin b p n S y.2 x = (d : Int) := fun d y hy => by
      have h1 := rep_key s1 hy
      have h2 := key_ranked h1
      have h3 := of_decide_eq_true h2
      have h4 := (due_key s1).2 h1
      unfold M.planBin
      rw [if_pos ⟨hp, by omega, by omega, h3⟩, Int.toNat_natCast]
      unfold dueBin at h4
      rw [if_neg (by omega)] at h4
      exact h4
    have h5 := List.pairwise_iff_getElem.1 (flat_asc hk b.toNat).1 i (i + 1) (by omega) hi (by omega)
    rw [nC_at (by omega), nC_at hi]
    exact h5
  · obtain ⟨R, hRR⟩ : ∃ R, M.flat (repM b n S x (errM b n S m I' C x m3 I B) b.toNat) b.toNat = R := ⟨_, rfl⟩
    have h1 := last_keep (n := n) (S := S) (m := m) (I' := I') (C := C) s1 x m3 I B b.toNat
    rw [hRR] at hR h1 ⊢
    have h2 : befL b n S m I' C x = passL b n S 0 (M.lst I' C m) x := rfl
    rw [h2, passL_filt] at h1
    have hL2 : BatchL ((M.lst I' C m).filter (okL m3 I)) := ((batchL_iff m I' C).1 hb).sub List.filter_sublist
    have h3 := passes_srt hp hL2
    rw [show p.toNat = x + 1 by omega] at h3
    have h4 : passL b n S 0 ((M.lst I' C m).filter (okL m3 I)) (x + 1) = M.flat (stepB b n S (passL b n S 0 ((M.lst I' C m).filter (okL m3 I)) x) x) b.toNat := by
      show M.flat (stepB b n S (passL b n S 0 ((M.lst I' C m).filter (okL m3 I)) x) (0 + x)) b.toNat = _
      rw [Nat.zero_add]
    rw [← h4, h3] at h1
    have h5 := stay_srt n S ((M.lst I' C m).filter (okL m3 I))
    rw [← h1] at h5
    have h6 : stay n S (R.filter (okL m3 I)) ≤ stay n S R := stay_sub List.filter_sublist
    have h7 := bad_len (m3 := m3) (I := I) hR
    unfold M.moved
    rw [kept_stay hp hR, if_neg (by omega)]
    omega
end Go.Proofs.YtnaghfppeejaoaaDoor

/-
  RunRestarted of the program.
-/
namespace Go.Proofs.YtnaghfppeejaoaaDoor
open Go.RowKit
open Go.PlainAid (bt get_bt bt_nonneg bt_le)
set_option linter.unusedVariables false

set_option maxHeartbeats 4000000 in
set_option maxRecDepth 100000 in
theorem resrun1_yes (w : World) (b p : Int) (a : Option Addr) (n c : Nat) (S : Nat → ByteArray) (h : Strs w a n S) (hf : SFits n S) (hn : n ≤ 1048576) (x : Nat) (hx : (x : Int) < p) (J : Addr) (hj : Jam w J) (a2 : Option Addr) (m c2 : Nat) (I' : Nat → Int) (C : Nat → ByteArray) (h2 : Lts w a2 m I' C) (hf2 : Fits m I' C)
    (a3 : Option Addr) (m3 c3 : Nat) (I B : Nat → Int) (h3 : Mss w a3 m3 I B) (hf3 : MFits m3 I B) (hb : M.batch m I' C = true) (hmi : M.mis b p n S m3 I B = true) (P0 X0 B0 L0 V0 : Nat) (hord : P0 < V0 ∧ X0 < V0 ∧ B0 < V0 ∧ L0 < V0)
    (hx0 : EBox w b p a n c x a2 m c2 a3 m3 c3 P0 X0 B0 L0 V0 (.slice none 0 0)) :
    Calls Tryd.prog 83 #[.pointer (some ⟨P0, 0, none⟩), .pointer (some ⟨X0, 0, none⟩), .pointer (some ⟨B0, 0, none⟩), .pointer (some ⟨L0, 0, none⟩), .pointer (some ⟨V0, 0, none⟩)] w fun e w' => e = .returned (.tuple #[]) ∧ LDone w V0 (resAns b p n S m I' C x m3 I B) w' := by
  obtain ⟨hp, hm3, hmt⟩ := M.mis_true hmi
  obtain ⟨s1, s2, s3, s4⟩ := M.plan_shape hp
  have HX := Lib.hid hx0
  have HMF := machineFor_yes w b p a n c S h hf hn hp x ⟨by omega, hx⟩
  have HBF := Lib.hid (fun W (hW : Below w.heap.size w W) => impl_before_yes W b p a n c S (h.on hW) hf hn hp x hx a2 m c2 I' C (h2.on hW) hf2 hb)
  have hbl := befL_batch (n := n) (S := S) s1 hb x
  have hek := errM_ok (p := p) (n := n) (S := S) s1 hb x hmt
  have HST : Hid (∀ W (hW : Below w.heap.size w W) (ax : Option Addr) (nx cx : Nat), nx = (befL b n S m I' C x).length → Lts W ax nx (nI (befL b n S m I' C x)) (nC (befL b n S m I' C x)) → Calls Tryd.prog 48 #[mac b p (.slice a n c) x, .slice ax nx cx, .slice a3 m3 c3] W (SortRes W b.toNat (errM b n S m I' C x m3 I B) (M.restTo (fkey b n S (nC (befL b n S m I' C x)) x (nI (befL b n S m I' C x)) m3 I B) (nI (befL b n S m I' C x)) (nC (befL b n S m I' C x)) (befL b n S m I' C x).length))) := fun W hW ax nx cx e hl => by
    subst e
    exact impl_sort_yes W b p a n c S (h.on hW) hf hn x (by omega) ax _ cx _ _ hl hbl.fits a3 m3 c3 I B (h3.on hW) hf3 ((batchL_list _).2 hbl) hmi
  obtain ⟨BL, hBL⟩ : ∃ BL, befL b n S m I' C x = BL := ⟨_, rfl⟩
  obtain ⟨EM, hEM⟩ : ∃ EM, errM b n S m I' C x m3 I B = EM := ⟨_, rfl⟩
  obtain ⟨EL, hEL⟩ : ∃ EL, M.restTo (fkey b n S (nC (befL b n S m I' C x)) x (nI (befL b n S m I' C x)) m3 I B) (nI (befL b n S m I' C x)) (nC (befL b n S m I' C x)) (befL b n S m I' C x).length = EL := ⟨_, rfl⟩
  rw [hEM, hEL, hBL] at HST
  rw [hBL] at HBF
  have hbe : BatchL (M.flat (errM b n S m I' C x m3 I B) b.toNat) := by
    have e2 := hek
    unfold binsOk at e2
    rw [Bool.and_eq_true] at e2
    exact (batchL_list _).1 e2.2
  have HRU : Hid (∀ W (hW : Below w.heap.size w W) (ax : Option Addr) (nx cx : Nat), nx = (M.flat (errM b n S m I' C x m3 I B) b.toNat).length → Lts W ax nx (nI (M.flat (errM b n S m I' C x m3 I B) b.toNat)) (nC (M.flat (errM b n S m I' C x m3 I B) b.toNat)) → Calls Tryd.prog 32 #[.agg #[.int .i64 b, .int .i64 p, .slice a n c], .slice ax nx cx] W (fun e w' => ∃ v v' ok, e = .returned (.tuple #[v, v', .bool ok]) ∧ Row w' W.heap.size v (resAns b p n S m I' C x m3 I B) ∧ Below W.heap.size W w')) := fun W hW ax nx cx e hl => by
    subst e
    refine (impl_RunPlan W b p a n c S (h.on hW) hf hn ax _ cx _ _ hl hbe.fits (by have := hbe.2.2; omega)).mono ?_
    rintro e w' ⟨v, v', rfl, r1, _, _, k⟩
    exact ⟨v, v', _, rfl, r1, k⟩
  obtain ⟨LL, hLL⟩ : ∃ LL, resAns b p n S m I' C x m3 I B = LL := ⟨_, rfl⟩
  have h60 := hbe.2.2
  rw [hLL] at HRU ⊢
  rw [hEM] at HRU h60
  clear hek hLL hEM hbe
  obtain ⟨N, hN⟩ : ∃ N, b.toNat = N := ⟨_, rfl⟩
  rw [hN] at HST HRU h60
  have nn1 : V0 ≠ P0 := by omega
  have nn2 : V0 ≠ X0 := by omega
  have nn3 : V0 ≠ B0 := by omega
  have nn4 : V0 ≠ L0 := by omega
  have BR := Lib.hid (Below.refl w.heap.size w)
  have lv := World.block_lt_of_cell? _ _ hx0.vv
  have hN0 : 0 < N := by omega
  clear h hf h2 hf2 h3 hf3 hb hmi hp hx0 hj hBL hEL hbl
  obtain ⟨⟨⟨t0, t1, t2⟩, _⟩, x0, b0, l0, v0, vf⟩ := HX.out
  unfold mac at HMF HST HBF
  go_enter Tryd.func83, Tryd.ntmps83
  go_wp2_with fail
  refine HMF.mono ?_
  rintro e w1 ⟨rfl, k1⟩
  have mx2 := Lib.hid (mac_made w1 b p (.slice a n c) x 67)
  have K1 := Lib.hid (sstep BR.out k1)
  have B2 := below_alloc0 w1 (.cells #[.int .i64 b, .int .i64 p, .slice a n c, .int .i64 x] 67)
  have K2 := Lib.hid (sstep K1.out B2)
  obtain ⟨wm, hwm⟩ : ∃ wm, w1.alloc (.cells #[.int .i64 b, .int .i64 p, .slice a n c, .int .i64 x] 67) = wm := ⟨_, rfl⟩
  rw [hwm] at mx2 K2
  have HWM := Lib.hid hwm
  clear B2 k1 t0 t1 t2 x0 b0 l0 v0 vf hwm
  have HX2 := Lib.hid (HX.out.on K2.out)
  obtain ⟨⟨y0, y1, y2, y3⟩, _⟩ := mx2.out
  obtain ⟨_, _, y5, y6, _, _⟩ := HX2.out
  go_wp2
  rw [HWM.out]
  go_region_held3 (fun w' => w'.cell? ⟨w1.heap.size, 0, none⟩ = some (.int .i64 b) ∧ w'.cell? ⟨w1.heap.size, 1, none⟩ = some (.int .i64 p) ∧ w'.cell? ⟨w1.heap.size, 2, none⟩ = some (.slice a n c) ∧ w'.cell? ⟨w1.heap.size, 3, none⟩ = some (.int .i64 x) ∧ w'.cell? ⟨B0, 0, none⟩ = some (.slice a2 m c2) ∧ w'.cell? ⟨L0, 0, none⟩ = some (.slice a3 m3 c3)) (go_keep) (first
    | (go_at_call 76; refine (HBF.out _ (by first | exact K2.out | exact K2.out.drew)).mono ?_; rintro e w3 ⟨ax, cx, rfl, lx, _, k3⟩; have K3 : Hid (Below w.heap.size w w3) := (by first | exact sstep K2.out k3 | exact sstep (sstep K2.out (Below.refl _ _).drew) k3); have L3 := Lib.hid lx; have mx3 := Lib.hid (mx2.out.on (by first | exact k3 | exact sstep (Below.refl _ _).drew k3)); have HX3 := Lib.hid (HX.out.on K3.out); obtain ⟨⟨c0, c1, c2', c3'⟩, _⟩ := mx3.out; obtain ⟨_, _, c5, c6, _, _⟩ := HX3.out; clear k3 lx)
    | (go_at_call 48; refine (HST.out _ (by first | exact K3.out | exact K3.out.drew) ax _ cx rfl (by first | exact L3.out | exact L3.out.on (Below.refl _ _).drew)).mono ?_; rintro e w4 ⟨v, V, u, rfl, hm, _, _, k4⟩; have K4 : Hid (Below w.heap.size w w4) := (by first | exact sstep K3.out k4 | exact sstep (sstep K3.out (Below.refl _ _).drew) k4); have mx4 := Lib.hid (mx3.out.on (by first | exact k4 | exact sstep (Below.refl _ _).drew k4)); have HX4 := Lib.hid (HX.out.on K4.out); obtain ⟨⟨e0, e1, e2', e3'⟩, _⟩ := mx4.out; obtain ⟨_, _, e5, e6, _, _⟩ := HX4.out; clear k4))
  all_goals
    have HC : Hid (∀ W, Below w4.heap.size w4 W → Calls Tryd.prog 66 #[v] W (RowOut W (M.flat EM N))) := fun W hW => slices_Concat W _ _ N V EM (hm.on hW) (by omega) (by omega)
    obtain ⟨FL, hFL⟩ : ∃ FL, M.flat EM N = FL := ⟨_, rfl⟩
    rw [hFL] at HC h60 HRU
    obtain ⟨G, cG, hv⟩ := hm.some hN0
    subst hv
    obtain ⟨⟨⟨z0, z1, z2⟩, _⟩, _, _, _, z6, z7⟩ := HX4.out
    clear hm hFL
    go_wp2
    go_region_held3 (fun w' => w'.cell? ⟨P0, 0, none⟩ = some (.int .i64 b) ∧ w'.cell? ⟨P0, 1, none⟩ = some (.int .i64 p) ∧ w'.cell? ⟨P0, 2, none⟩ = some (.slice a n c)) (go_keep) (first
      | (go_at_call 66; refine (HC.out _ (by first | exact Below.refl _ _ | exact bdrew _)).mono ?_; rintro e w5 ⟨vc, rfl, rc, k5⟩; have kC : Below w4.heap.size w4 w5 := (by first | exact k5 | exact sstep (bdrew _) k5); obtain ⟨ac, cc, hvc, _, hlc⟩ := rc.form; subst hvc; have HLC := Lib.hid hlc; have K5 := Lib.hid (sstep K4.out kC); have HX5 := Lib.hid (HX.out.on K5.out); obtain ⟨⟨⟨f0, f1, f2⟩, _⟩, _, _, _, f6, f7⟩ := HX5.out; clear rc k5 kC hlc)
      | (go_at_call 32; refine (HRU.out _ (by first | exact K5.out | exact K5.out.drew) ac _ cc rfl (by first | exact HLC.out | exact HLC.out.on (bdrew _))).mono ?_; rintro e w6 ⟨v6, v7, ok6, rfl, hr6, k6⟩; have kP : Below w5.heap.size w5 w6 := (by first | exact k6 | exact sstep (bdrew _) k6); obtain ⟨aU, cU, hu, _, _⟩ := hr6.form; subst hu; have K6 := Lib.hid (sstep K5.out kP); have HX6 := Lib.hid (HX.out.on K6.out); obtain ⟨⟨⟨g0, g1, g2⟩, _⟩, _, _, _, g6, g7⟩ := HX6.out; have HR6 := Lib.hid (hr6.lower (base' := w.heap.size) (by first | exact K5.out.size | exact K5.out.drew.size)); clear hr6 k6 kP))
    all_goals
      have Q := Lib.hid (LDone.mk' HR6.out K6.out HX6.out.vv lv)
      go_wp2
      go_end0
      exact ⟨rfl, Q.out⟩

set_option maxHeartbeats 4000000 in
set_option maxRecDepth 100000 in
theorem resrun1_no (w : World) (b p : Int) (a : Option Addr) (n c : Nat) (S : Nat → ByteArray) (h : Strs w a n S) (hf : SFits n S) (hn : n ≤ 1048576) (x : Int) (J : Addr) (hj : Jam w J) (a2 : Option Addr) (m c2 : Nat) (I' : Nat → Int) (C : Nat → ByteArray) (h2 : Lts w a2 m I' C) (hf2 : Fits m I' C)
    (a3 : Option Addr) (m3 c3 : Nat) (I B : Nat → Int) (h3 : Mss w a3 m3 I B) (hf3 : MFits m3 I B) (hbad : ¬ (M.plan b p n S = true ∧ (0 ≤ x ∧ x < p) ∧ M.batch m I' C = true ∧ M.mis b p n S m3 I B = true)) (P0 X0 B0 L0 V0 : Nat)
    (hx0 : EBox w b p a n c x a2 m c2 a3 m3 c3 P0 X0 B0 L0 V0 (.slice none 0 0)) :
    Calls Tryd.prog 83 #[.pointer (some ⟨P0, 0, none⟩), .pointer (some ⟨X0, 0, none⟩), .pointer (some ⟨B0, 0, none⟩), .pointer (some ⟨L0, 0, none⟩), .pointer (some ⟨V0, 0, none⟩)] w fun e w' => e = JamEnd J ∧ Below w.heap.size w w' := by
  have HX := Lib.hid hx0
  have BR := Lib.hid (Below.refl w.heap.size w)
  obtain ⟨⟨⟨t0, t1, t2⟩, _⟩, x0, b0, l0, v0, vf⟩ := HX.out
  by_cases hmf : M.plan b p n S = true ∧ 0 ≤ x ∧ x < p
  · have HMF := machineFor_yes w b p a n c S h hf hn hmf.1 x hmf.2
    obtain ⟨s1, s2, s3, s4⟩ := M.plan_shape hmf.1
    obtain ⟨y, rfl⟩ := Int.eq_ofNat_of_zero_le hmf.2.1
    have HBY := Lib.hid (fun (e : M.batch m I' C = true) W (hW : Below w.heap.size w W) => impl_before_yes W b p a n c S (h.on hW) hf hn hmf.1 y hmf.2.2 a2 m c2 I' C (h2.on hW) hf2 e)
    have HBN := Lib.hid (fun (e : M.batch m I' C = false) W (hW : Below w.heap.size w W) => impl_before_no W J (hj.on hW) b p y (.slice a n c) a2 m c2 I' C (h2.on hW) hf2 e)
    have HSN : Hid (∀ (e : M.batch m I' C = true) W (hW : Below w.heap.size w W) (ax : Option Addr) (nx cx : Nat), nx = (befL b n S m I' C y).length → Lts W ax nx (nI (befL b n S m I' C y)) (nC (befL b n S m I' C y)) → Calls Tryd.prog 48 #[mac b p (.slice a n c) y, .slice ax nx cx, .slice a3 m3 c3] W (fun e w' => e = JamEnd J ∧ Below W.heap.size W w')) := fun e W hW ax nx cx hnx hl => by
      subst hnx
      exact impl_sort_no W J (hj.on hW) b p a n c S (h.on hW) hf hn y ax _ cx _ _ hl (befL_batch (n := n) (S := S) s1 e y).fits a3 m3 c3 I B (h3.on hW) hf3 (fun e2 => hbad ⟨hmf.1, hmf.2, e, e2.2⟩)
    obtain ⟨BL, hBL⟩ : ∃ BL, befL b n S m I' C y = BL := ⟨_, rfl⟩
    rw [hBL] at HBY HSN
    obtain ⟨x, hxy⟩ : ∃ x : Int, (y : Int) = x := ⟨_, rfl⟩
    clear h hf h2 hf2 h3 hf3 hx0 hj hmf hBL
    unfold mac at HMF HBY HBN HSN
    rw [hxy] at HMF HBY HBN HSN HX x0
    go_enter Tryd.func83, Tryd.ntmps83
    go_wp2_with fail
    refine HMF.mono ?_
    rintro e w1 ⟨rfl, k1⟩
    have mx2 := Lib.hid (mac_made w1 b p (.slice a n c) x 67)
    have K1 := Lib.hid (sstep BR.out k1)
    have B2 := below_alloc0 w1 (.cells #[.int .i64 b, .int .i64 p, .slice a n c, .int .i64 x] 67)
    have K2 := Lib.hid (sstep K1.out B2)
    obtain ⟨wm, hwm⟩ : ∃ wm, w1.alloc (.cells #[.int .i64 b, .int .i64 p, .slice a n c, .int .i64 x] 67) = wm := ⟨_, rfl⟩
    rw [hwm] at mx2 K2
    have HWM := Lib.hid hwm
    clear B2 k1 t0 t1 t2 x0 b0 l0 v0 vf hwm
    have HX2 := Lib.hid (HX.out.on K2.out)
    have BM := Lib.hid (Below.refl wm.heap.size wm)
    go_wp2
    rw [HWM.out]
    refine wp_region_held_drew (by kernel_rfl) (S := fun w' => Below wm.heap.size wm w') (by exact BM.out.drew) (fun hS => ?_)
    refine wpAnyH_take (i := 0) (v := .agg #[.int .i64 b, .int .i64 p, .slice a n c, .int .i64 x]) rfl (by kernel_rfl) (by kernel_rfl) (by kernel_rfl) (fun c a' w' h => panic_put (P := Tryd.prog) (fn := Tryd.f83) (R := fun e w' => e = JamEnd J ∧ Below w.heap.size w w') h) (Or.inl ⟨by rfl, ?_⟩) hS ?_
    · intro w' hw'
      obtain ⟨⟨c0, c1, c2', c3'⟩, _⟩ := mx2.out.on hw'
      obtain ⟨_, _, c5, c6, _, _⟩ := HX2.out.on hw'
      go_simp
    simp only [Act.put, List.setIfInBounds_toArray]
    refine wpAnyH_take (i := 1) (v := .agg #[.int .i64 b, .int .i64 p, .slice a n c, .int .i64 x]) rfl (by kernel_rfl) (by kernel_rfl) (by kernel_rfl) (fun c a' w' h => panic_put (P := Tryd.prog) (fn := Tryd.f83) (R := fun e w' => e = JamEnd J ∧ Below w.heap.size w w') h) (Or.inl ⟨by rfl, ?_⟩) hS ?_
    · intro w' hw'
      obtain ⟨⟨c0, c1, c2', c3'⟩, _⟩ := mx2.out.on hw'
      obtain ⟨_, _, c5, c6, _, _⟩ := HX2.out.on hw'
      go_simp
    simp only [Act.put]
    refine wpAnyH_take (i := 2) (v := .slice a2 m c2) rfl (by kernel_rfl) (by kernel_rfl) (by kernel_rfl) (fun c a' w' h => panic_put (P := Tryd.prog) (fn := Tryd.f83) (R := fun e w' => e = JamEnd J ∧ Below w.heap.size w w') h) (Or.inl ⟨by rfl, ?_⟩) hS ?_
    · intro w' hw'
      obtain ⟨⟨c0, c1, c2', c3'⟩, _⟩ := mx2.out.on hw'
      obtain ⟨_, _, c5, c6, _, _⟩ := HX2.out.on hw'
      go_simp
    simp only [Act.put]
    refine wpAnyH_take (i := 4) (v := .slice a3 m3 c3) rfl (by kernel_rfl) (by kernel_rfl) (by kernel_rfl) (fun c a' w' h => panic_put (P := Tryd.prog) (fn := Tryd.f83) (R := fun e w' => e = JamEnd J ∧ Below w.heap.size w w') h) (Or.inl ⟨by rfl, ?_⟩) hS ?_
    · intro w' hw'
      obtain ⟨⟨c0, c1, c2', c3'⟩, _⟩ := mx2.out.on hw'
      obtain ⟨_, _, c5, c6, _, _⟩ := HX2.out.on hw'
      go_simp
    simp only [Act.put]
    refine wpAnyH_ready (rs := [3]) (by kernel_rfl) (by simp) ?_
    refine AllReadyH.cons rfl (fun K hK => ?_) AllReadyH.nil
    go_simp
    cases hb : M.batch m I' C
    · refine (HBN.out hb _ K2.out.drew).mono ?_
      rintro e w3 ⟨rfl, k3⟩
      exact ⟨rfl, rfl, sstep K2.out.drew k3⟩
    · refine (HBY.out hb _ K2.out.drew).mono ?_
      rintro e w3 ⟨ax, cx, rfl, lx, _, k3⟩
      have K3 : Hid (Below w.heap.size w w3) := sstep K2.out.drew k3
      refine hK.out _ _ (sstep BM.out.drew k3) (fun hS1 => ?_)
      refine wpAnyH_ready (rs := [5]) (by kernel_rfl) (by simp) ?_
      refine AllReadyH.cons rfl (fun K hK => ?_) AllReadyH.nil
      go_simp
      refine (HSN.out hb _ K3.out ax _ cx rfl lx).mono ?_
      rintro e w4 ⟨rfl, k4⟩
      exact ⟨rfl, rfl, sstep K3.out k4⟩
  · have HMF := machineFor_no w J hj b p a n c S h hf hn x hmf
    clear h hf h2 hf2 h3 hf3 hx0 hj hbad hmf
    go_enter Tryd.func83, Tryd.ntmps83
    go_wp2_with fail
    refine HMF.mono ?_
    rintro e w1 ⟨rfl, k1⟩
    unfold JamEnd
    go_wp2
    exact ⟨rfl, rfl, k1⟩

theorem run_RunRestarted (cap : Array Value) (W : World) : (callFunc 83 cap).run Tryd.prog W = .ok (.enter 83 cap) W :=
  run_enter Tryd.func83 (by kernel_rfl) (by kernel_rfl) cap W
set_option maxHeartbeats 4000000 in
set_option maxRecDepth 100000 in
theorem impl_RunRestarted (w : World) (J : Addr) (hj : Jam w J) (b p : Int) (a : Option Addr) (n c : Nat) (S : Nat → ByteArray) (h : Strs w a n S) (hf : SFits n S) (hn : n ≤ 1048576) (a2 : Option Addr) (m c2 : Nat) (I' : Nat → Int) (C : Nat → ByteArray) (h2 : Lts w a2 m I' C) (hf2 : Fits m I' C) (x : Int)
    (a3 : Option Addr) (m3 c3 : Nat) (I B : Nat → Int) (h3 : Mss w a3 m3 I B) (hf3 : MFits m3 I B) :
    Calls Tryd.prog 41 #[.agg #[.int .i64 b, .int .i64 p, .slice a n c], .slice a2 m c2, .int .i64 x, .slice a3 m3 c3] w
      (RowRes w (faultyOk b p n S m I' C x m3 I B) (okAns b p n S m I' C x m3 I B (resAns b p n S m I' C x.toNat m3 I B))) := by
  have hmf : ∀ (fn : Fn) (first cap : Array Value) (w : World), (Instr.makeFunc fn first cap).run Tryd.prog w = .ok (.func fn first cap) w := fun _ _ _ _ => rfl
  obtain ⟨w6, hw6⟩ : ∃ w6, ((((w.alloc (.cells #[.int .i64 b, .int .i64 p, .slice a n c] 25)).alloc (.cells #[.slice a2 m c2] 26)).alloc (.cells #[.int .i64 x] 3)).alloc (.cells #[.slice a3 m3 c3] 27)).alloc (.cells #[.slice none 0 0] 26) = w6 := ⟨_, rfl⟩
  have B6 : Hid (Below w.heap.size w w6) := by rw [← hw6]; show Below _ _ _; go_grown
  have hz6 : w6.heap.size = w.heap.size + 5 := by rw [← hw6]; simp
  have FB : Hid (∀ W, Below w6.heap.size w6 W → EBox W b p a n c x a2 m c2 a3 m3 c3 w.heap.size (w.heap.size + 2) (w.heap.size + 1) (w.heap.size + 3) (w.heap.size + 4) (.slice none 0 0)) := fun W hW => by
    refine EBox.on ?_ hW
    rw [← hw6]
    refine ⟨((((tri_made w (.int .i64 b) (.int .i64 p) (.slice a n c) 25).alloc _).alloc _).alloc _).alloc _, ?_, ?_, ?_, ?_, ?_⟩ <;> simp [go_sem]
  have HJ6 := Lib.hid (hj.on B6.out)
  unfold okAns faultyOk
  have HH := Lib.hid (h.on B6.out)
  have HH2 := Lib.hid (h2.on B6.out)
  have HH3 := Lib.hid (h3.on B6.out)
  by_cases hok : M.plan b p n S = true ∧ (0 ≤ x ∧ x < p) ∧ M.batch m I' C = true ∧ M.mis b p n S m3 I B = true
  · rw [@decide_eq_true _ (Classical.propDecidable _) hok, if_pos rfl]
    obtain ⟨hp, hx, hb, hmi⟩ := hok
    obtain ⟨y, rfl⟩ := Int.eq_ofNat_of_zero_le hx.1
    rw [Int.toNat_natCast]
    obtain ⟨s1, s2, _⟩ := M.plan_shape hp
    have HR := Lib.hid (runs_well w6 J HJ6.out 83 #[.pointer (some ⟨w.heap.size, 0, none⟩), .pointer (some ⟨w.heap.size + 2, 0, none⟩), .pointer (some ⟨w.heap.size + 1, 0, none⟩), .pointer (some ⟨w.heap.size + 3, 0, none⟩), .pointer (some ⟨w.heap.size + 4, 0, none⟩)]
      (fun W w1 => LDone (W.alloc (.cells #[.nilIface] 103)) (w.heap.size + 4) (resAns b p n S m I' C y m3 I B) w1) (run_RunRestarted _)
      (fun W hW => by
        have hW2 : Below w6.heap.size w6 (W.alloc (.cells #[.nilIface] 103)) := hW.alloc hW.size _
        exact resrun1_yes _ b p a n c S (HH.out.on hW2) hf hn y hx.2 J (HJ6.out.on hW2) a2 m c2 I' C (HH2.out.on hW2) hf2 a3 m3 c3 I B (HH3.out.on hW2) hf3 hb hmi _ _ _ _ _ (by omega) (FB.out _ hW2))
      (fun W w1 hW hr => by
        obtain ⟨u, _, _, ho⟩ := hr
        have hs := hW.size
        have hbk := ho.block W.heap.size (by simp) (by omega)
        refine ⟨(World.cell?_of_block hbk).trans (by simp), (World.frozen?_of_block hbk).trans (by simp [go_sem]), ?_⟩
        have hj2 := (HJ6.out.on hW).on (below_alloc0 W (.cells #[.nilIface] 103))
        have hl := HJ6.out.lt
        exact (World.cell?_of_block (ho.block _ hj2.lt (show ¬ (0 = w.heap.size + 4) from by have := hj.lt; omega))).trans hj2))
    obtain ⟨LL, hLL⟩ : ∃ LL, resAns b p n S m I' C y m3 I B = LL := ⟨_, rfl⟩
    rw [hLL] at HR ⊢
    have HW6 := Lib.hid hw6
    clear h h2 h3 hj hw6 hLL FB HH HH2 HH3 hp hx hb hmi
    go_enter Tryd.func41, Tryd.ntmps41
    go_wp2_with fail
    rw [HW6.out]
    refine HR.out.mono ?_
    rintro e w7 ⟨rfl, W, wa, hW, ⟨u, hRo, hu, ho⟩, on⟩
    have hsW := hW.size
    have hszA : (W.alloc (.cells #[.nilIface] 103)).heap.size = W.heap.size + 1 := by simp
    rw [hszA] at hRo
    have u7 : w7.cell? ⟨w.heap.size + 4, 0, none⟩ = some u := (World.cell?_of_block (on.block (w.heap.size + 4) (World.block_lt_of_cell? _ _ hu) (by omega))).trans hu
    have R7 := Lib.hid (hRo.only on (fun k hk hs => by have := (hRo.lt k hk).1; omega))
    have hoz := ho.size
    rw [hszA] at hoz
    have B7 : Hid (Below w.heap.size w w7) := ((B6.out.trans (hW.mono (by omega))).trans ((below_alloc0 W (.cells #[.nilIface] 103)).mono (by omega))).trans ((ho.below (B := w.heap.size) (fun k hk _ hs => by omega) (by rw [hszA]; omega)).trans (on.below (B := w.heap.size) (fun k hk _ hs => by omega) (by omega)))
    clear hRo hu ho on
    go_wp2
    go_ret2
    exact ⟨u, rfl, R7.out.lower (by omega), by first | exact B7.out | exact below_drewN0 B7.out _⟩
  · rw [@decide_eq_false _ (Classical.propDecidable _) hok, if_neg (by decide)]
    have HR := Lib.hid (runs_jam w6 J HJ6.out 83 #[.pointer (some ⟨w.heap.size, 0, none⟩), .pointer (some ⟨w.heap.size + 2, 0, none⟩), .pointer (some ⟨w.heap.size + 1, 0, none⟩), .pointer (some ⟨w.heap.size + 3, 0, none⟩), .pointer (some ⟨w.heap.size + 4, 0, none⟩)]
      (fun W w1 => Below (W.alloc (.cells #[.nilIface] 103)).heap.size (W.alloc (.cells #[.nilIface] 103)) w1) (run_RunRestarted _)
      (fun W hW => by
        have hW2 : Below w6.heap.size w6 (W.alloc (.cells #[.nilIface] 103)) := hW.alloc hW.size _
        exact resrun1_no _ b p a n c S (HH.out.on hW2) hf hn x J (HJ6.out.on hW2) a2 m c2 I' C (HH2.out.on hW2) hf2 a3 m3 c3 I B (HH3.out.on hW2) hf3 hok _ _ _ _ _ (FB.out _ hW2))
      (fun W w1 hW hr => by
        have hbk := hr.block W.heap.size (by simp)
        exact ⟨(World.cell?_of_block hbk).trans (by simp), (World.frozen?_of_block hbk).trans (by simp [go_sem]), ((HJ6.out.on hW).on (below_alloc0 W (.cells #[.nilIface] 103))).on hr⟩))
    have HW6 := Lib.hid hw6
    have HFB := Lib.hid FB
    clear h h2 h3 hj hw6 FB HH HH2 HH3 hok
    go_enter Tryd.func41, Tryd.ntmps41
    go_wp2_with fail
    rw [HW6.out]
    refine HR.out.mono ?_
    rintro e w7 ⟨rfl, W, wa, hW, hr, on⟩
    have hsW := hW.size
    have hszA : (W.alloc (.cells #[.nilIface] 103)).heap.size = W.heap.size + 1 := by simp
    have hwa : Below w6.heap.size w6 wa := (hW.alloc hsW (.cells #[.nilIface] 103)).trans (hr.mono (by rw [hszA]; omega))
    have fb := HFB.out wa hwa
    have v7 : w7.cell? ⟨w.heap.size + 4, 0, none⟩ = some (.slice none 0 0) := (World.cell?_of_block (on.block (w.heap.size + 4) (World.block_lt_of_cell? _ _ fb.vv) (by omega))).trans fb.vv
    have hzw := hwa.size
    have B7 : Hid (Below w.heap.size w w7) := (B6.out.trans (hwa.mono (by omega))).trans (on.below (B := w.heap.size) (fun k hk _ hs => by omega) (by omega))
    clear hr on fb hwa hW
    go_wp2
    go_ret2
    exact ⟨_, rfl, Row.nil _ _, by first | exact B7.out | exact below_drewN0 B7.out _⟩
end Go.Proofs.YtnaghfppeejaoaaDoor

/-
  RunRepaired and RunRestarted of the model.
-/
namespace Go.Proofs.YtnaghfppeejaoaaDoor
open Go.RowKit
open Go.PlainAid (bt get_bt bt_nonneg bt_le)
set_option linter.unusedVariables false

theorem ans_len {b p : Int} {n : Nat} {S : Nat → ByteArray} {m : Nat} {I' : Nat → Int} {C : Nat → ByteArray} {x : Int} {m3 : Nat} {I B : Nat → Int} :
    (okAns b p n S m I' C x m3 I B (repAns b p n S m I' C x.toNat m3 I B)).length ≤ 60 ∧ (okAns b p n S m I' C x m3 I B (resAns b p n S m I' C x.toNat m3 I B)).length ≤ 60 := by
  unfold okAns
  cases hr : faultyOk b p n S m I' C x m3 I B
  · rw [if_neg (by decide), if_neg (by decide)]
    exact ⟨Nat.zero_le _, Nat.zero_le _⟩
  · rw [if_pos rfl, if_pos rfl]
    have hk := hr
    rw [faultyOk_eq] at hk
    simp only [Bool.and_eq_true, decide_eq_true_eq] at hk
    obtain ⟨⟨⟨hp, hb⟩, hx⟩, hmi⟩ := hk
    obtain ⟨_, hm60, hmt⟩ := M.mis_true hmi
    obtain ⟨s1, s2, s3, s4⟩ := M.plan_shape hp
    have hek := errM_ok (p := p) (n := n) (S := S) s1 hb x.toNat hmt
    have bl : ∀ {MM : Nat → List (Int × ByteArray)}, binsOk b b.toNat MM = true → BatchL (M.flat MM b.toNat) := fun {MM} e2 => by
      unfold binsOk at e2
      rw [Bool.and_eq_true] at e2
      exact (batchL_list _).1 e2.2
    exact ⟨(finL_batch s1 (bl (repM_ok s1 _ hek))).2.2, (run_len _ _ _ _ _ _ _).1⟩

set_option maxHeartbeats 4000000 in
set_option maxRecDepth 100000 in
theorem spec_RunRepaired (w : World) (b p : Int) (a : Option Addr) (n c : Nat) (S : Nat → ByteArray) (h : Strs w a n S) (hf : SFits n S) (hn : n ≤ 1048576) (a2 : Option Addr) (m c2 : Nat) (I' : Nat → Int) (C : Nat → ByteArray) (h2 : Lts w a2 m I' C) (hf2 : Fits m I' C) (hm : m ≤ 1048576) (x : Int)
    (a3 : Option Addr) (m3 c3 : Nat) (I B : Nat → Int) (h3 : Mss w a3 m3 I B) (hf3 : MFits m3 I B) (hm3 : m3 ≤ 1048576) :
    Calls Tryd.prog 36 #[.agg #[.int .i64 b, .int .i64 p, .slice a n c], .slice a2 m c2, .int .i64 x, .slice a3 m3 c3] w (RowRes w (faultyOk b p n S m I' C x m3 I B) (okAns b p n S m I' C x m3 I B (repAns b p n S m I' C x.toNat m3 I B))) := by
  have b0 := below_alloc0 w (.cells #[.int .i64 b, .int .i64 p, .slice a n c] 25)
  have HL := Lib.hid (h.on b0)
  have HL2 := Lib.hid (h2.on b0)
  have HL3 := Lib.hid (h3.on b0)
  have B0 := Lib.hid b0
  have bx := Lib.hid (tri_made w (.int .i64 b) (.int .i64 p) (.slice a n c) 25)
  have HB := Lib.hid (spec_l7Ready _ b p a n c S HL.out hf hn a2 m c2 I' C HL2.out hf2 hm x a3 m3 c3 I B HL3.out hf3 hm3)
  unfold okAns
  obtain ⟨⟨t0, t1, t2⟩, _⟩ := bx.out
  cases hr : faultyOk b p n S m I' C x m3 I B
  · rw [hr] at HB
    rw [if_neg (by decide)]
    clear h hf h2 hf2 h3 hf3 hr
    go_enter Tryd.func36, Tryd.ntmps36
    go_wp2_with fail
    refine HB.out.mono ?_
    rintro e w1 ⟨rfl, hb1⟩
    have BL : Hid (Below w.heap.size w w1) := sstep B0.out hb1
    go_wp2
    go_ret2
    exact ⟨_, rfl, (one_row w1).lower BL.out.size, BL.out.alloc BL.out.size _⟩
  · rw [hr] at HB
    rw [if_pos rfl]
    have hk := hr
    rw [faultyOk_eq] at hk
    simp only [Bool.and_eq_true, decide_eq_true_eq] at hk
    obtain ⟨⟨⟨hp, hb⟩, hx⟩, hmi⟩ := hk
    obtain ⟨_, hm60, hmt⟩ := M.mis_true hmi
    obtain ⟨s1, s2, s3, s4⟩ := M.plan_shape hp
    obtain ⟨y, rfl⟩ := Int.eq_ofNat_of_zero_le hx.1
    obtain ⟨N, rfl⟩ := Int.eq_ofNat_of_zero_le (show 0 ≤ b by omega)
    have hq3 : y ≤ 3 := by omega
    have hyp : (y : Int) < p := by omega
    rw [Int.toNat_natCast]
    have HBF := Lib.hid (fun W (hs : Strs W a n S) (hl : Lts W a2 m I' C) (hm : Mss W a3 m3 I B) => spec_l7Before W N p a n c S hs hn a2 m c2 I' C hl hb y s1 s2 hq3 a3 m3 c3 I B hm hm3 hmt)
    have hek := errM_ok (p := p) (n := n) (S := S) s1 hb y hmt
    rw [Int.toNat_natCast] at hek
    have hbe : BatchL (M.flat (errM (N : Int) n S m I' C y m3 I B) N) := by
      have e2 := hek
      unfold binsOk at e2
      rw [Bool.and_eq_true] at e2
      exact (batchL_list _).1 e2.2
    have HRP := Lib.hid (fun W (hs : Strs W a n S) (v : Value) (V : Nat → Value) (hm : Mat W 0 v N V (errM (N : Int) n S m I' C y m3 I B)) => spec_l7Repair W (N : Int) p a n c S hs hn y s1 s2 hq3 0 v N V _ hm ⟨by omega, by omega, rfl⟩ hbe.2.2)
    have hek2 := repM_ok (n := n) (S := S) s1 y hek
    have HNX := Lib.hid (fun W (hs : Strs W a n S) (v : Value) (V : Nat → Value) (hm : Mat W 0 v N V (repM (N : Int) n S y (errM (N : Int) n S m I' C y m3 I B) N)) => spec_l7Finish W (N : Int) p a n c S hs hf hn hp y hyp 0 v N V _ hm hek2)
    unfold repAns
    rw [Int.toNat_natCast]
    obtain ⟨LL, hLL⟩ : ∃ LL, finL (N : Int) p n S y (M.flat (repM (N : Int) n S y (errM (N : Int) n S m I' C y m3 I B) N) N) = LL := ⟨_, rfl⟩
    rw [hLL] at HNX ⊢
    obtain ⟨RM, hRM⟩ : ∃ RM, repM (N : Int) n S y (errM (N : Int) n S m I' C y m3 I B) N = RM := ⟨_, rfl⟩
    obtain ⟨RR, hRR⟩ : ∃ RR, repL (N : Int) n S y (errM (N : Int) n S m I' C y m3 I B) N = RR := ⟨_, rfl⟩
    rw [hRM] at HNX HRP
    rw [hRR] at HRP
    clear hLL hek2 hRM hRR
    obtain ⟨EM, hEM⟩ : ∃ EM, errM (N : Int) n S m I' C y m3 I B = EM := ⟨_, rfl⟩
    rw [hEM] at HBF hek hbe HRP
    have h60 := hbe.2.2
    clear h hf h2 hf2 h3 hf3 hr hp hb hx hmi hmt hEM hbe
    go_enter Tryd.func36, Tryd.ntmps36
    go_wp2_with fail
    refine HB.out.mono ?_
    rintro e w1 ⟨rfl, hb1⟩
    have BL : Hid (Below w.heap.size w w1) := sstep B0.out hb1
    have zz := BL.out.size
    have HS1 := Lib.hid (HL.out.on hb1)
    have HLa := Lib.hid (HL2.out.on hb1)
    have HLb := Lib.hid (HL3.out.on hb1)
    have X1 := Lib.hid (bx.out.on hb1)
    clear t0 t1 t2 bx HL HL2 HL3 B0 HB hb1
    obtain ⟨⟨t0, t1, t2⟩, _⟩ := X1.out
    have hlx := X1.out.lt
    go_wp2
    go_region_with (first
      | (go_at_call 79; refine (HBF.out _ (by first | exact HS1.out | exact HS1.out.on (bdrew _)) (by first | exact HLa.out | exact HLa.out.on (bdrew _)) (by first | exact HLb.out | exact HLb.out.on (bdrew _))).mono ?_; rintro e w2 ⟨G2, V2, rfl, hm2, k2⟩; have kC : Below w1.heap.size w1 w2 := (by first | exact k2 | exact sstep (bdrew _) k2); have HM2 := Lib.hid (hm2.lower (Nat.zero_le _)); have KC := Lib.hid kC; have hzc := kC.size; obtain ⟨⟨e0, e1, e2⟩, _⟩ := X1.out.on kC; clear hm2 k2 kC)
      | (go_at_call 78; refine (HRP.out _ (by first | exact HS1.out.on KC.out | exact (HS1.out.on KC.out).on (bdrew _)) _ _ (by first | exact HM2.out | exact HM2.out.on (bdrew _))).mono ?_; rintro e w3 ⟨G3, V3, u3, rfl, hm3', _, _, k3⟩; have kP : Below w1.heap.size w1 w3 := (by first | exact sstep KC.out k3 | exact sstep (sstep KC.out (bdrew _)) k3); have HM3 := Lib.hid (hm3'.lower (Nat.zero_le _)); have KP := Lib.hid kP; have hzp := kP.size; clear hm3' k3 kP e0 e1 e2))
    all_goals
      clear t0 t1 t2
      obtain ⟨⟨t0, t1, t2⟩, _⟩ := X1.out.on KP.out
      go_wp2_with fail
      refine (HNX.out _ (HS1.out.on KP.out) _ _ HM3.out).mono ?_
      rintro e w4 ⟨u4, rfl, r4, k4⟩
      go_wp2
      go_ret2
      exact ⟨_, rfl, r4.lower (by omega), sstep (sstep BL.out KP.out) k4⟩

set_option maxHeartbeats 4000000 in
set_option maxRecDepth 100000 in
theorem spec_RunRestarted (w : World) (b p : Int) (a : Option Addr) (n c : Nat) (S : Nat → ByteArray) (h : Strs w a n S) (hf : SFits n S) (hn : n ≤ 1048576) (a2 : Option Addr) (m c2 : Nat) (I' : Nat → Int) (C : Nat → ByteArray) (h2 : Lts w a2 m I' C) (hf2 : Fits m I' C) (hm : m ≤ 1048576) (x : Int)
    (a3 : Option Addr) (m3 c3 : Nat) (I B : Nat → Int) (h3 : Mss w a3 m3 I B) (hf3 : MFits m3 I B) (hm3 : m3 ≤ 1048576) :
    Calls Tryd.prog 42 #[.agg #[.int .i64 b, .int .i64 p, .slice a n c], .slice a2 m c2, .int .i64 x, .slice a3 m3 c3] w (RowRes w (faultyOk b p n S m I' C x m3 I B) (okAns b p n S m I' C x m3 I B (resAns b p n S m I' C x.toNat m3 I B))) := by
  have b0 := below_alloc0 w (.cells #[.int .i64 b, .int .i64 p, .slice a n c] 25)
  have HL := Lib.hid (h.on b0)
  have HL2 := Lib.hid (h2.on b0)
  have HL3 := Lib.hid (h3.on b0)
  have B0 := Lib.hid b0
  have bx := Lib.hid (tri_made w (.int .i64 b) (.int .i64 p) (.slice a n c) 25)
  have HB := Lib.hid (spec_l7Ready _ b p a n c S HL.out hf hn a2 m c2 I' C HL2.out hf2 hm x a3 m3 c3 I B HL3.out hf3 hm3)
  unfold okAns
  obtain ⟨⟨t0, t1, t2⟩, _⟩ := bx.out
  cases hr : faultyOk b p n S m I' C x m3 I B
  · rw [hr] at HB
    rw [if_neg (by decide)]
    clear h hf h2 hf2 h3 hf3 hr
    go_enter Tryd.func42, Tryd.ntmps42
    go_wp2_with fail
    refine HB.out.mono ?_
    rintro e w1 ⟨rfl, hb1⟩
    have BL : Hid (Below w.heap.size w w1) := sstep B0.out hb1
    go_wp2
    go_ret2
    exact ⟨_, rfl, (one_row w1).lower BL.out.size, BL.out.alloc BL.out.size _⟩
  · rw [hr] at HB
    rw [if_pos rfl]
    have hk := hr
    rw [faultyOk_eq] at hk
    simp only [Bool.and_eq_true, decide_eq_true_eq] at hk
    obtain ⟨⟨⟨hp, hb⟩, hx⟩, hmi⟩ := hk
    obtain ⟨_, hm60, hmt⟩ := M.mis_true hmi
    obtain ⟨s1, s2, s3, s4⟩ := M.plan_shape hp
    obtain ⟨y, rfl⟩ := Int.eq_ofNat_of_zero_le hx.1
    obtain ⟨N, rfl⟩ := Int.eq_ofNat_of_zero_le (show 0 ≤ b by omega)
    have hq3 : y ≤ 3 := by omega
    have hyp : (y : Int) < p := by omega
    rw [Int.toNat_natCast]
    have HBF := Lib.hid (fun W (hs : Strs W a n S) (hl : Lts W a2 m I' C) (hm : Mss W a3 m3 I B) => spec_l7Before W N p a n c S hs hn a2 m c2 I' C hl hb y s1 s2 hq3 a3 m3 c3 I B hm hm3 hmt)
    have hek := errM_ok (p := p) (n := n) (S := S) s1 hb y hmt
    rw [Int.toNat_natCast] at hek
    have hbe : BatchL (M.flat (errM (N : Int) n S m I' C y m3 I B) N) := by
      have e2 := hek
      unfold binsOk at e2
      rw [Bool.and_eq_true] at e2
      exact (batchL_list _).1 e2.2
    have HNX : Hid (∀ W (hs : Strs W a n S) (a9 : Option Addr) (nx c9 : Nat), nx = (M.flat (errM (N : Int) n S m I' C y m3 I B) N).length → Lts W a9 nx (nI (M.flat (errM (N : Int) n S m I' C y m3 I B) N)) (nC (M.flat (errM (N : Int) n S m I' C y m3 I B) N)) → Calls Tryd.prog 33 #[.agg #[.int .i64 (N : Int), .int .i64 p, .slice a n c], .slice a9 nx c9] W (fun e w' => ∃ v v' ok, e = .returned (.tuple #[v, v', .bool ok]) ∧ Row w' W.heap.size v (resAns (N : Int) p n S m I' C y m3 I B) ∧ Below W.heap.size W w')) := fun W hs a9 nx c9 e hl => by
      subst e
      refine (spec_RunPlan W (N : Int) p a n c S hs hf hn a9 _ c9 _ _ hl hbe.fits (by have := hbe.2.2; omega)).mono ?_
      rintro e w' ⟨v, v', rfl, r1, _, _, k⟩
      refine ⟨v, v', _, rfl, ?_, k⟩
      unfold resAns
      rw [Int.toNat_natCast]
      exact r1
    obtain ⟨LL, hLL⟩ : ∃ LL, resAns (N : Int) p n S m I' C y m3 I B = LL := ⟨_, rfl⟩
    rw [hLL] at HNX ⊢
    clear hLL
    obtain ⟨EM, hEM⟩ : ∃ EM, errM (N : Int) n S m I' C y m3 I B = EM := ⟨_, rfl⟩
    rw [hEM] at HBF hek hbe HNX
    have h60 := hbe.2.2
    clear h hf h2 hf2 h3 hf3 hr hp hb hx hmi hmt hEM hbe
    go_enter Tryd.func42, Tryd.ntmps42
    go_wp2_with fail
    refine HB.out.mono ?_
    rintro e w1 ⟨rfl, hb1⟩
    have BL : Hid (Below w.heap.size w w1) := sstep B0.out hb1
    have zz := BL.out.size
    have HS1 := Lib.hid (HL.out.on hb1)
    have HLa := Lib.hid (HL2.out.on hb1)
    have HLb := Lib.hid (HL3.out.on hb1)
    have X1 := Lib.hid (bx.out.on hb1)
    clear t0 t1 t2 bx HL HL2 HL3 B0 HB hb1
    obtain ⟨⟨t0, t1, t2⟩, _⟩ := X1.out
    have hlx := X1.out.lt
    go_wp2
    have HC : Hid (∀ (W : World) (v : Value) (V : Nat → Value), Mat W 0 v N V EM → Calls Tryd.prog 74 #[v] W (RowOut W (M.flat EM N))) := fun W v V hm => spec_l2Collect W 0 v N V EM hm (by omega) (by omega)
    obtain ⟨FL, hFL⟩ : ∃ FL, M.flat EM N = FL := ⟨_, rfl⟩
    rw [hFL] at HC HNX
    clear hFL
    go_region_with (first
      | (go_at_call 79; refine (HBF.out _ (by first | exact HS1.out | exact HS1.out.on (bdrew _)) (by first | exact HLa.out | exact HLa.out.on (bdrew _)) (by first | exact HLb.out | exact HLb.out.on (bdrew _))).mono ?_; rintro e w2 ⟨G2, V2, rfl, hm2, k2⟩; have kC : Below w1.heap.size w1 w2 := (by first | exact k2 | exact sstep (bdrew _) k2); have HM2 := Lib.hid (hm2.lower (Nat.zero_le _)); have KC := Lib.hid kC; have hzc := kC.size; obtain ⟨⟨e0, e1, e2⟩, _⟩ := X1.out.on kC; clear hm2 k2 kC)
      | (go_at_call 74; refine (HC.out _ _ _ (by first | exact HM2.out | exact HM2.out.on (bdrew _))).mono ?_; rintro e w3 ⟨v3, rfl, r3, k3⟩; have kP : Below w1.heap.size w1 w3 := (by first | exact sstep KC.out k3 | exact sstep (sstep KC.out (bdrew _)) k3); obtain ⟨a3', c3', hv3, _, hl3⟩ := r3.form; subst hv3; have HL3' := Lib.hid hl3; have KP := Lib.hid kP; have hzp := kP.size; clear e0 e1 e2; obtain ⟨⟨e0, e1, e2⟩, _⟩ := X1.out.on kP; clear r3 k3 kP hl3)
      | (go_at_call 33; refine (HNX.out _ (by first | exact HS1.out.on KP.out | exact (HS1.out.on KP.out).on (bdrew _)) _ _ _ rfl (by first | exact HL3'.out | exact HL3'.out.on (bdrew _))).mono ?_; rintro e w4 ⟨v4, v5, ok4, rfl, r4, k4⟩; have kQ : Below w1.heap.size w1 w4 := (by first | exact sstep KP.out k4 | exact sstep (sstep KP.out (bdrew _)) k4); have R4 := Lib.hid (r4.lower (base' := w1.heap.size) (by first | exact hzp | exact KP.out.drew.size)); have KQ := Lib.hid kQ; clear r4 k4 kQ e0 e1 e2))
    all_goals
      go_wp2
      go_ret2
      exact ⟨_, rfl, R4.out.lower zz, sstep BL.out KQ.out⟩
end Go.Proofs.YtnaghfppeejaoaaDoor
