/-
  Bins of a faulty pass, and repaired ones: they hold a batch.
-/
import Derived.Test.YtmjgblhihpbbdaaDoorFin
import Derived.Test.YtmjgblhihpbbdaaDoorMSpec
namespace Go.Proofs.YtmjgblhihpbbdaaDoor
open Go.RowKit
open Go.PlainAid (bt get_bt bt_nonneg bt_le)
set_option linter.unusedVariables false

theorem fkey_bd {b p : Int} {n : Nat} {S C : Nat → ByteArray} {x : Nat} {I' : Nat → Int} {m3 : Nat} {I B : Nat → Int} (s1 : 2 ≤ b) (hmt : M.misTo (b - 1) I B m3) {k d : Nat} (hd : fkey b n S C x I' m3 I B k = some d) : d < b.toNat := by
  unfold fkey at hd
  rcases find_cases I m3 (I' k) with ⟨e, _⟩ | ⟨j, hj, _, e⟩
  · rw [e, if_pos (by decide)] at hd
    exact planKey_bd s1 hd
  · rw [e, if_neg (by omega), Int.toNat_natCast] at hd
    have := Option.some.inj hd
    have := (hmt j hj).2.1
    omega
/-- The letters before a pass, and the bins of a faulty one. -/
def befL (b : Int) (n : Nat) (S : Nat → ByteArray) (m : Nat) (I' : Nat → Int) (C : Nat → ByteArray) (x : Nat) : List (Int × ByteArray) := passL b n S 0 (M.lst I' C m) x
def errM (b : Int) (n : Nat) (S : Nat → ByteArray) (m : Nat) (I' : Nat → Int) (C : Nat → ByteArray) (x : Nat) (m3 : Nat) (I B : Nat → Int) : Nat → List (Int × ByteArray) :=
  M.binTo (fkey b n S (nC (befL b n S m I' C x)) x (nI (befL b n S m I' C x)) m3 I B) (nI (befL b n S m I' C x)) (nC (befL b n S m I' C x)) (befL b n S m I' C x).length
theorem befL_batch {b : Int} {n : Nat} {S : Nat → ByteArray} {m : Nat} {I' : Nat → Int} {C : Nat → ByteArray} (s1 : 2 ≤ b) (hb : M.batch m I' C = true) (x : Nat) : BatchL (befL b n S m I' C x) := passL_batch s1 ((batchL_iff _ _ _).1 hb) x
theorem errM_ok {b p : Int} {n : Nat} {S : Nat → ByteArray} {m : Nat} {I' : Nat → Int} {C : Nat → ByteArray} (s1 : 2 ≤ b) (hb : M.batch m I' C = true) (x : Nat) {m3 : Nat} {I B : Nat → Int} (hmt : M.misTo (b - 1) I B m3) : binsOk b b.toNat (errM b n S m I' C x m3 I B) = true := by
  unfold binsOk
  rw [decide_eq_true (by omega), Bool.true_and]
  refine (batchL_list _).2 ?_
  have h := befL_batch (n := n) (S := S) s1 hb x
  have hp := flat_rest (fkey b n S (nC (befL b n S m I' C x)) x (nI (befL b n S m I' C x)) m3 I B) (nI (befL b n S m I' C x)) (nC (befL b n S m I' C x)) b.toNat (befL b n S m I' C x).length fun i _ d hd => fkey_bd (p := p) s1 hmt hd
  rw [lst_nI] at hp
  exact (h.perm hp.symm).left
theorem flat_addTo (R B : Nat → List (Int × ByteArray)) : ∀ N, (M.flat (addTo R B) N).Perm (M.flat R N ++ M.flat B N)
  | 0 => List.Perm.refl _
  | N + 1 => by
    show (M.flat (addTo R B) N ++ (R N ++ B N)).Perm ((M.flat R N ++ R N) ++ (M.flat B N ++ B N))
    refine ((flat_addTo R B N).append_right _).trans ?_
    rw [List.append_assoc, List.append_assoc]
    refine List.Perm.append_left _ ?_
    rw [← List.append_assoc, ← List.append_assoc]
    exact (List.perm_append_comm).append_right _
theorem flat_parts (b : Int) (n : Nat) (S : Nat → ByteArray) (x : Nat) (MM : Nat → List (Int × ByteArray)) : ∀ N, (M.flat (rightL b n S x MM) N ++ M.flat (wrongL b n S x MM) N).Perm (M.flat MM N)
  | 0 => List.Perm.refl _
  | N + 1 => by
    have ih := flat_parts b n S x MM N
    have h1 : (rightL b n S x MM N ++ wrongL b n S x MM N).Perm (MM N) := List.filter_append_perm _ (MM N)
    show ((M.flat (rightL b n S x MM) N ++ rightL b n S x MM N) ++ (M.flat (wrongL b n S x MM) N ++ wrongL b n S x MM N)).Perm (M.flat MM N ++ MM N)
    refine List.Perm.trans ?_ (ih.append h1)
    rw [List.append_assoc, List.append_assoc]
    refine List.Perm.append_left _ ?_
    rw [← List.append_assoc, ← List.append_assoc]
    exact (List.perm_append_comm).append_right _
theorem repM_ok {b : Int} {n : Nat} {S : Nat → ByteArray} (s1 : 2 ≤ b) (x : Nat) {N : Nat} {MM : Nat → List (Int × ByteArray)} (hok : binsOk b N MM = true) : binsOk b N (repM b n S x MM N) = true := by
  have hok2 := hok
  unfold binsOk at hok2
  rw [Bool.and_eq_true] at hok2
  have hNb : (N : Int) = b := of_decide_eq_true hok2.1
  have hbl := (batchL_list _).1 hok2.2
  unfold binsOk
  rw [decide_eq_true hNb, Bool.true_and]
  refine (batchL_list _).2 ?_
  have h1 := hbl.perm (flat_parts b n S x MM N).symm
  obtain ⟨WL, hWL⟩ : ∃ WL, M.flat (wrongL b n S x MM) N = WL := ⟨_, rfl⟩
  unfold repM
  rw [hWL] at h1 ⊢
  have hp := flat_rest (M.planKey b n S (nC WL) x) (nI WL) (nC WL) N WL.length fun i _ d hd => by have := planKey_bd s1 hd; omega
  rw [lst_nI] at hp
  have h2 := h1.perm (hp.symm.append_left (M.flat (rightL b n S x MM) N))
  rw [← List.append_assoc] at h2
  exact h2.left.perm (flat_addTo _ _ N).symm

set_option maxHeartbeats 4000000 in
set_option maxRecDepth 100000 in
theorem spec_l7Before (w : World) (N : Nat) (p : Int) (a : Option Addr) (n c : Nat) (S : Nat → ByteArray) (h : Strs w a n S) (hn : n ≤ 1048576) (a2 : Option Addr) (m c2 : Nat) (I' : Nat → Int) (C : Nat → ByteArray) (h2 : Lts w a2 m I' C) (hb : M.batch m I' C = true) (x : Nat) (s1 : 2 ≤ (N : Int)) (s2 : (N : Int) ≤ 16) (hx : x ≤ 3)
    (a3 : Option Addr) (m3 c3 : Nat) (I B : Nat → Int) (h3 : Mss w a3 m3 I B) (hm3 : m3 ≤ 1048576) (hmt : M.misTo ((N : Int) - 1) I B m3) :
    Calls Tryd.prog 52 #[.agg #[.int .i64 (N : Int), .int .i64 p, .slice a n c], .slice a2 m c2, .int .i64 x, .slice a3 m3 c3] w
      (fun e w' => ∃ (G : Nat) (V : Nat → Value), e = .returned (.slice (some ⟨G, 0, none⟩) N N) ∧ Mat w' w.heap.size (.slice (some ⟨G, 0, none⟩) N N) N V (errM (N : Int) n S m I' C x m3 I B) ∧ Below w.heap.size w w') := by
  have b0 := below_alloc0 w (.cells #[.int .i64 (N : Int), .int .i64 p, .slice a n c] 32)
  have HS := Lib.hid (h.on b0)
  have H2 : Hid (Lts (w.alloc (.cells #[.int .i64 (N : Int), .int .i64 p, .slice a n c] 32)) a2 m (nI (M.lst I' C m)) (nC (M.lst I' C m))) := fun i hi => by
    rw [(lst_at hi).1, (lst_at hi).2]
    exact (h2.on b0) i hi
  have H3 := Lib.hid (h3.on b0)
  have bx := Lib.hid (tri_made w (.int .i64 (N : Int)) (.int .i64 p) (.slice a n c) 32)
  have B0 := Lib.hid b0
  have HB := Lib.hid (fun k => befL_batch (n := n) (S := S) s1 hb k)
  have HP : Hid (∀ (L : List (Int × ByteArray)) (hL : L.length ≤ 60) (y : Nat) (hy : y ≤ 3) (W : World) (a2 : Option Addr) (nl c2 : Nat) (hnl : nl = L.length) (hs : Strs W a n S) (hl : Lts W a2 nl (nI L) (nC L)), Calls Tryd.prog 75 #[.agg #[.int .i64 (N : Int), .int .i64 p, .slice a n c], .slice a2 nl c2, .int .i64 y] W (TwoOut W N (stepB (N : Int) n S L y) (M.restTo (M.planKey (N : Int) n S (nC L) y) (nI L) (nC L) L.length))) := fun L hL y hy W a2 nl c2 hnl hs hl => by
    subst hnl
    exact spec_l3Pass W N p a n c S hs hn a2 L.length c2 (nI L) (nC L) hl (by omega) y s1 s2 hy
  have HF : Hid (∀ (L : List (Int × ByteArray)) (hL : L.length ≤ 60) (W : World) (a2 : Option Addr) (nl c2 : Nat) (hnl : nl = L.length) (hs : Strs W a n S) (hl : Lts W a2 nl (nI L) (nC L)) (hm : Mss W a3 m3 I B), Calls Tryd.prog 81 #[.agg #[.int .i64 (N : Int), .int .i64 p, .slice a n c], .slice a2 nl c2, .int .i64 x, .slice a3 m3 c3] W (TwoOut W N (M.binTo (fkey (N : Int) n S (nC L) x (nI L) m3 I B) (nI L) (nC L) L.length) (M.restTo (fkey (N : Int) n S (nC L) x (nI L) m3 I B) (nI L) (nC L) L.length))) := fun L hL W a2 nl c2 hnl hs hl hm => by
    subst hnl
    exact spec_l7Faulty W N p a n c S hs hn a2 L.length c2 (nI L) (nC L) hl (by omega) x s1 s2 hx a3 m3 c3 I B hm hm3 hmt
  have HSU : Hid (∀ j, befL (N : Int) n S m I' C (j + 1) = M.flat (stepB (N : Int) n S (befL (N : Int) n S m I' C j) j) N) := fun j => by
    show M.flat (stepB (N : Int) n S (befL (N : Int) n S m I' C j) (0 + j)) (N : Int).toNat = _
    rw [Int.toNat_natCast, Nat.zero_add]
  have HZ : Hid (befL (N : Int) n S m I' C 0 = M.lst I' C m) := rfl
  have hm60 := (M.batch_yes hb).1
  have HEM : Hid (M.binTo (fkey (N : Int) n S (nC (befL (N : Int) n S m I' C x)) x (nI (befL (N : Int) n S m I' C x)) m3 I B) (nI (befL (N : Int) n S m I' C x)) (nC (befL (N : Int) n S m I' C x)) (befL (N : Int) n S m I' C x).length = errM (N : Int) n S m I' C x m3 I B) := rfl
  obtain ⟨EM, hEM⟩ : ∃ EM, errM (N : Int) n S m I' C x m3 I B = EM := ⟨_, rfl⟩
  rw [hEM] at HEM ⊢
  obtain ⟨BL, hBL⟩ : ∃ BL, befL (N : Int) n S m I' C = BL := ⟨_, rfl⟩
  rw [hBL] at HB HSU HZ HEM
  clear h h2 h3 b0 hb hmt hBL hEM
  obtain ⟨⟨t0, t1, t2⟩, _⟩ := bx.out
  go_enter Tryd.func52, Tryd.ntmps52
  go_wp2
  go_loopw [1, 9] (fun y i wr => ∃ (j : Nat) (ax : Option Addr) (nx cx : Nat), j ≤ x ∧ i = .int .i64 (j : Int) ∧ y = .slice ax nx cx ∧ Hid (nx = (BL j).length) ∧ Hid (Lts wr ax nx (nI (BL j)) (nC (BL j))) ∧ Hid (Strs wr a n S) ∧ Hid (Mss wr a3 m3 I B) ∧ Hid (Tri wr w.heap.size (.int .i64 (N : Int)) (.int .i64 p) (.slice a n c)) ∧ Hid (Below w.heap.size w wr)) (fun _ i _ => x - (intOf i).toNat)
  case atStart => exact ⟨0, a2, m, c2, Nat.zero_le _, rfl, rfl, by rw [HZ.out, M.lst_length]; exact rfl, by rw [HZ.out]; exact H2.out, HS.out, H3.out, bx.out, B0.out⟩
  case round =>
    obtain ⟨j, ax, nx, cx, hj, rfl, rfl, hnx, hl, hs, hms, hx2, hbw⟩ := hrel
    clear t0 t1 t2
    obtain ⟨⟨t0, t1, t2⟩, _⟩ := hx2.out
    have hlx := hx2.out.lt
    have h60 := (HB.out j).2.2
    by_cases hlt : j < x
    · have HPt := Lib.hid (HP.out (BL j) h60 j (by omega))
      have HSt := Lib.hid (HSU.out j)
      have h61 := (HB.out (j + 1)).2.2
      rw [HSt.out] at h61
      obtain ⟨MMx, hMM⟩ : ∃ MMx, stepB (N : Int) n S (BL j) j = MMx := ⟨_, rfl⟩
      rw [hMM] at HPt HSt h61
      have hji : (j : Int) < (x : Int) := by omega
      clear hMM
      go_wp2_with fail
      refine (HPt.out _ ax nx cx hnx.out hs.out hl.out).mono ?_
      rintro e wp ⟨Gp, Vp, up, rfl, hmp, hup, happ, kp⟩
      have HMP := Lib.hid (hmp.lower (Nat.zero_le _))
      have Q3 := Lib.hid (hs.out.on kp)
      have QM := Lib.hid (hms.out.on kp)
      have Q4 := Lib.hid (hx2.out.on kp)
      have Q5 := Lib.hid (sstep hbw.out kp)
      clear hmp hup happ kp t0 t1 t2
      go_wp2_with fail
      refine (spec_l2Collect wp 0 _ N Vp MMx HMP.out (by omega) (by omega)).mono ?_
      rintro e wc ⟨vc, rfl, rc, kc⟩
      obtain ⟨ac, cc, hvc, _, hlc⟩ := rc.form
      subst hvc
      have R2 : Hid (Lts wc ac (M.flat MMx N).length (nI (BL (j + 1))) (nC (BL (j + 1)))) := by unfold Hid; rw [HSt.out]; exact hlc
      have R3 : Hid ((M.flat MMx N).length = (BL (j + 1)).length) := by unfold Hid; rw [HSt.out]
      have q3 := Lib.hid (Q3.out.on kc)
      have qm := Lib.hid (QM.out.on kc)
      have q4 := Lib.hid (Q4.out.on kc)
      have q5 := Lib.hid (sstep Q5.out kc)
      obtain ⟨N2, hN2⟩ : ∃ N2, (M.flat MMx N).length = N2 := ⟨_, rfl⟩
      rw [hN2] at R2 R3 ⊢
      clear rc kc hlc hN2
      go_wp2
      go_roundw
      case rel => exact ⟨j + 1, ac, N2, cc, by omega, by go_num, rfl, R3.out, R2.out, q3.out, qm.out, q4.out, q5.out⟩
      case measure => simp [intOf]; omega
    · obtain rfl : j = x := by omega
      have HFt := Lib.hid (HF.out (BL j) h60)
      rw [HEM.out] at HFt
      go_wp2_with fail
      refine (HFt.out _ ax nx cx hnx.out hs.out hl.out hms.out).mono ?_
      rintro e wp ⟨Gp, Vp, up, rfl, hmp, hup, happ, kp⟩
      have hzw := hbw.out.size
      go_wp2
      go_ret
      exact ⟨Gp, Vp, rfl, hmp.lower hzw, sstep hbw.out kp⟩
end Go.Proofs.YtmjgblhihpbbdaaDoor
