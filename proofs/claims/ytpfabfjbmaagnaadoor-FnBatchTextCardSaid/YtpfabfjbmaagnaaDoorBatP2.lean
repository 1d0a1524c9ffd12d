/-
  ParseBatch, in the program and in the model of the document: the whole.
-/
import Derived.Test.YtpfabfjbmaagnaaDoorBatP
namespace Go.Proofs.YtpfabfjbmaagnaaDoor
open Go.RowKit
open Go.PlainAid (bt get_bt bt_nonneg bt_le)
set_option linter.unusedVariables false

/-- Whether a text is that of a batch, and of which. -/
def BatIs (t : ByteArray) (ok : Bool) (L : List (Int × ByteArray)) : Prop := (ok = true ∧ BatOf t L) ∨ (ok = false ∧ L = [] ∧ ∀ R, ¬ BatOf t R)
theorem batIs_ex (t : ByteArray) : ∃ ok L, BatIs t ok L := by
  rcases Classical.em (∃ L, BatOf t L) with ⟨L, h⟩ | h
  · exact ⟨true, L, Or.inl ⟨rfl, h⟩⟩
  · exact ⟨false, [], Or.inr ⟨rfl, rfl, fun R hR => h ⟨R, hR⟩⟩⟩
theorem batIs_len {t : ByteArray} {ok : Bool} {L : List (Int × ByteArray)} (h : BatIs t ok L) : L.length ≤ 60 := by
  rcases h with ⟨_, h⟩ | ⟨_, h, _⟩
  · exact (M.batch_yes h.1).1
  · rw [h]; exact Nat.zero_le _
def batPOut (W : World) (ok : Bool) (L : List (Int × ByteArray)) (e : Ending) (w' : World) : Prop := ∃ v, e = .returned (.tuple #[v, .bool ok]) ∧ Row w' W.heap.size v L ∧ Below W.heap.size W w'
theorem batP_ret {W w' : World} {ok b : Bool} {L R : List (Int × ByteArray)} {v : Value} (h : ok = b ∧ L = R) (hr : Row w' W.heap.size v R) (hb : Below W.heap.size W w') : batPOut W ok L (.returned (.tuple #[v, .bool b])) w' := by
  obtain ⟨rfl, rfl⟩ := h
  exact ⟨v, rfl, hr, hb⟩
theorem batP_no {t : ByteArray} {ok : Bool} {L : List (Int × ByteArray)} (h : BatIs t ok L) (hn : ∀ R, ¬ BatOf t R) : ok = false ∧ L = [] := by
  rcases h with ⟨_, h⟩ | ⟨h1, h2, _⟩
  · exact absurd h (hn L)
  · exact ⟨h1, h2⟩
theorem batP_yes {t : ByteArray} {ok : Bool} {L R : List (Int × ByteArray)} (h : BatIs t ok L) (hR : BatOf t R) (hf : ∀ i (h : i < R.length), LFit (sC (M.items t) i) R[i]) : ok = true ∧ L = R := by
  rcases h with ⟨h1, h2⟩ | ⟨_, _, h3⟩
  · exact ⟨h1, (h2.same ((hR.items.1.symm).trans h2.items.1) hf).symm⟩
  · exact absurd hR (h3 R)
theorem batP_same {t : ByteArray} {L R : List (Int × ByteArray)} (h : BatOf t L) (hn : R.length = (M.items t).length) (hf : ∀ i (h : i < R.length), LFit (sC (M.items t) i) R[i]) : R = L := h.same (hn.trans h.items.1) hf
theorem lfit_snoc {t : ByteArray} {R : List (Int × ByteArray)} {i : Int} {c : ByteArray} (h : ∀ j (h : j < R.length), LFit (sC (M.items t) j) R[j]) (h2 : LFit (sC (M.items t) R.length) (i, c)) : ∀ j (h : j < (R ++ [(i, c)]).length), LFit (sC (M.items t) j) (R ++ [(i, c)])[j] := fun j hj => by
  by_cases e : j < R.length
  · rw [List.getElem_append_left e]; exact h j e
  · have e2 : j = R.length := by rw [List.length_append] at hj; simp at hj; omega
    subst e2
    rw [List.getElem_append_right (Nat.le_refl _)]
    simpa using h2
theorem lfit_fits {t : ByteArray} {R : List (Int × ByteArray)} (h : ∀ j (h : j < R.length), LFit (sC (M.items t) j) R[j]) : Fits R.length (nI R) (nC R) := fun i hi => by
  have := h i hi
  rw [nI_at hi, nC_at hi]
  exact ⟨this.1, by unfold maxLen; have := this.2.1; omega⟩

set_option maxHeartbeats 2000000 in
set_option maxRecDepth 100000 in
theorem impl_ParseBatch (t : ByteArray) (w : World) (hT : PowT w) (hM : MaxL w) (hE : ErrT w) (ht : t.size ≤ 1048576) (ok : Bool) (L : List (Int × ByteArray)) (hi : BatIs t ok L) :
    Calls Tryd.prog 8 #[.string t] w (batPOut w ok L) := by
  have HS := Lib.hid (impl_splitItems t w hM ht)
  have HPT := Lib.hid hT
  have HM := Lib.hid hM
  have HE := Lib.hid hE
  have HI := Lib.hid hi
  have hn := items_len (t := t)
  have HSZ : Hid (∀ i, i < (M.items t).length → (sC (M.items t) i).size ≤ 1048576) := fun i hi => Nat.le_trans (items_fit i hi) ht
  clear hT hM hE hi
  obtain ⟨n, hN⟩ : ∃ n, (M.items t).length = n := ⟨_, rfl⟩
  have HN := Lib.hid hN
  rw [hN] at HS hn HSZ
  clear hN
  go_enter Tryd.func8, Tryd.ntmps8
  go_wp2_with fail
  refine HS.out.mono ?_
  rintro e w1 ⟨a, rfl, hl, hb1⟩
  have HL := Lib.hid hl
  have HP1 := Lib.hid (HPT.out.below hb1)
  have HM1 := Lib.hid (HM.out.below hb1)
  have HE1 := Lib.hid (HE.out.below hb1)
  have B1 := Lib.hid hb1
  have z1 := hb1.size
  clear hl hb1 HS
  go_wp2
  go_loopw [4, 10] (fun q i wr => ∃ (k : Nat) (R : List (Int × ByteArray)), k ≤ n ∧ i = .int .i64 k ∧ R.length = k ∧ Hid (∀ j (h : j < R.length), LFit (sC (M.items t) j) R[j]) ∧ Hid (Row wr w1.heap.size q R) ∧ Below w1.heap.size w1 wr) (fun _ i _ => n - (intOf i).toNat)
  case atStart => exact ⟨0, [], Nat.zero_le _, rfl, rfl, fun j hj => absurd hj (by simp), Row.nil _ _, Below.refl _ _⟩
  case round =>
    obtain ⟨k, R, hk, rfl, hRk, hfit, hrow, hb⟩ := hrel
    have hz := hb.size
    by_cases hlt : k < n
    · obtain ⟨b, o, rfl, c0⟩ := (HL.out.on hb) k hlt
      have hp := HSZ.out k hlt
      have HMr := Lib.hid (HM1.out.below hb)
      have HEr := Lib.hid (HE1.out.below hb)
      have HSN := Lib.hid (fun i c (h : LFit (sC (M.items t) k) (i, c)) => lfit_snoc (i := i) (c := c) hfit.out (by rw [hRk]; exact h))
      obtain ⟨p, hpp⟩ : ∃ p, sC (M.items t) k = p := ⟨_, rfl⟩
      rw [hpp] at c0 hp HSN
      clear hpp
      go_wp2_with fail
      refine (impl_letterOf p wr HMr.out HEr.out hp).mono ?_
      rintro e w2 ⟨iv, cv, rfl, hlf, hb2⟩
      have R2 := Lib.hid (hrow.out.on hb2)
      have hB2 := Lib.hid (sstep hb hb2)
      have z2 := hb2.size
      have HF2 := Lib.hid (HSN.out iv cv hlf)
      clear hb2 hrow hlf HSN
      go_wp2_with (at_builtin; refine wpList_append_letter _ rfl _ _ rfl w1.heap.size u4 R rfl (R2.out.alloc _) _ iv cv rfl ?_ (by omega) (by simp; omega) ?_)
      · simp [go_sem]
      · intro v1 w3 r1 gr1 ho1
        have R1 := Lib.hid r1
        have B3 : Below w1.heap.size w1 w3 := Below.grown (hB2.out.alloc (by omega) _) gr1 (by simp; omega) (fun q e => (R2.out.lt q e).1)
        clear r1 gr1 ho1
        go_wp2
        go_roundw
        case rel => exact ⟨k + 1, R ++ [(iv, cv)], by omega, by go_num, by rw [List.length_append, hRk]; rfl, HF2, R1, B3⟩
        case measure => simp [intOf]; omega
    · obtain rfl : k = n := by omega
      obtain ⟨a1, c1, e, _, hst⟩ := hrow.out.form
      have hft := lfit_fits hfit.out
      have HROW := Lib.hid hrow.out
      have HRL : Hid (R.length = (M.items t).length) := hRk.trans HN.out.symm
      have HSM := Lib.hid (fun (R' : List (Int × ByteArray)) (h : BatOf t R') => batP_same h HRL.out hfit.out)
      rw [hRk] at e hst hft
      subst e
      have HST := Lib.hid hst
      have HFT := Lib.hid hft
      have BB := Lib.hid (sstep B1.out hb)
      have zB := BB.out.size
      clear hst hft
      cases hv : M.batch k (nI R) (nC R)
      · have HV := Lib.hid hv
        have HNO := Lib.hid (batP_no HI.out (fun R' h => by
          have e := HSM.out R' h
          have h1 := h.1
          rw [← e, hRk, HV.out] at h1
          cases h1))
        clear hv
        go_wp2_with fail
        refine (impl_BatchValid wr a1 k c1 (nI R) (nC R) HST.out HFT.out).mono ?_
        rw [HV.out]
        rintro e w2 ⟨rfl, hb2⟩
        go_wp2
        go_ret2
        exact batP_ret HNO.out (Row.nil _ _) (sstep BB.out hb2)
      · have HV := Lib.hid hv
        clear hv
        obtain ⟨x, hx⟩ : ∃ x, M.batText k (nI R) (nC R) = x := ⟨_, rfl⟩
        have hbr := hb
        have HFM := Lib.hid (fun (W : World) (hb : Below wr.heap.size wr W) => impl_FormatBatch W a1 k c1 (nI R) (nC R) ((HP1.out.below hbr).below hb) (HST.out.on hb) HFT.out)
        rw [hx] at HFM
        by_cases hxt : x = t
        · have hee : (x.toList == t.toList) = true := by rw [hxt]; simp
          have hne : (x.toList != t.toList) = false := by rw [bne, hee]; rfl
          have HBO : Hid (BatOf t R) := ⟨by rw [hRk]; exact HV.out, by rw [hRk, hx, hxt]⟩
          have HYES := Lib.hid (batP_yes HI.out HBO.out hfit.out)
          clear hx hxt
          go_wp2_with fail
          refine (impl_BatchValid wr a1 k c1 (nI R) (nC R) HST.out HFT.out).mono ?_
          rw [HV.out]
          rintro e w2 ⟨rfl, hb2⟩
          go_wp2_with fail
          refine (HFM.out w2 hb2).mono ?_
          rintro e w3 ⟨rfl, hb3⟩
          have RF := Lib.hid ((hrow.out.on hb2).on hb3)
          go_wp2
          go_ret2
          exact batP_ret HYES.out (RF.out.lower z1) (sstep (sstep BB.out hb2) hb3)
        · have hee := neq_txt hxt
          have hne : (x.toList != t.toList) = true := by rw [bne, hee]; rfl
          have HNO := Lib.hid (batP_no HI.out (fun R' h => by
            have e := HSM.out R' h
            have h1 := h.2
            rw [← e, hRk, hx] at h1
            exact hxt h1))
          clear hx hxt
          go_wp2_with fail
          refine (impl_BatchValid wr a1 k c1 (nI R) (nC R) HST.out HFT.out).mono ?_
          rw [HV.out]
          rintro e w2 ⟨rfl, hb2⟩
          go_wp2_with fail
          refine (HFM.out w2 hb2).mono ?_
          rintro e w3 ⟨rfl, hb3⟩
          go_wp2
          go_ret2
          exact batP_ret HNO.out (Row.nil _ _) (sstep (sstep BB.out hb2) hb3)

set_option maxHeartbeats 2000000 in
set_option maxRecDepth 100000 in
theorem spec_ParseBatch (t : ByteArray) (w : World) (ht : t.size ≤ 1048576) (ok : Bool) (L : List (Int × ByteArray)) (hi : BatIs t ok L) :
    Calls Tryd.prog 11 #[.string t] w (batPOut w ok L) := by
  have R0 := Lib.hid (one_row w)
  have hB := Lib.hid (below_alloc0 w (.cells #[] 37))
  have HI := Lib.hid hi
  clear hi
  by_cases hd : t = ⟨#[45]⟩
  · have hdd : (t.toList == [45]) = true := by rw [hd, ByteArray.toList_eq]; rfl
    have HBO : BatOf t [] := ⟨rfl, by rw [hd]; rfl⟩
    have HYES := Lib.hid (batP_yes HI.out HBO (fun i h => absurd h (by simp)))
    clear hd HBO
    go_enter Tryd.func11, Tryd.ntmps11
    go_wp2
    go_ret2
    exact batP_ret HYES.out R0.out hB.out
  · have hdn := dash_no hd
    have HD := Lib.hid hd
    have hit : M.items t = M.bparts 32 t := if_neg hd
    have HC : Hid (∀ W : World, Calls Tryd.prog 25 #[.string t, .int .u8 32] W (SRowOut W (M.items t))) := fun W => by rw [hit]; exact spec_l9Cut t 32 32 (by rfl) W ht
    have hn := items_len (t := t)
    have HSZ : Hid (∀ i, i < (M.items t).length → (sC (M.items t) i).size ≤ 1048576) := fun i hi => Nat.le_trans (items_fit i hi) ht
    clear hd hit
    obtain ⟨n, hN⟩ : ∃ n, (M.items t).length = n := ⟨_, rfl⟩
    have HN := Lib.hid hN
    rw [hN] at hn HSZ
    clear hN
    go_enter Tryd.func11, Tryd.ntmps11
    go_wp2_with fail
    refine (HC.out _).mono ?_
    rintro e w2 ⟨v, rfl, r2, hb2⟩
    obtain ⟨W1, hW1⟩ : ∃ W1, w.alloc (.cells #[] 37) = W1 := ⟨_, rfl⟩
    have z1 : W1.heap.size = w.heap.size + 1 := by rw [← hW1]; simp
    rw [hW1] at r2 hb2 R0 hB
    have z2 := hb2.size
    have R2 := Lib.hid (R0.out.on hb2)
    have B2 := Lib.hid (sstep hB.out hb2)
    obtain ⟨a, c, rfl, _, hl⟩ := r2.form
    have hln : (M.items t).length = n := HN.out
    rw [hln] at hl
    rw [hln]
    have HL := Lib.hid hl
    have HA : Hid (∀ b o, a = some ⟨b, o, none⟩ → 0 < n → b ≠ w.heap.size) := fun b o e h0 => by
      have := (r2.lt b (by rw [e]; rfl)).1
      omega
    have HW1 := Lib.hid hW1
    clear hl hb2 r2 hW1 R0 hB HC hln
    go_wp2
    go_loopw [4, 6] (fun q i wr => ∃ (k : Nat) (R : List (Int × ByteArray)), k ≤ n ∧ k ≤ 61 ∧ i = .int .i64 k ∧ R.length = k ∧ Hid (∀ j (h : j < R.length), LFit (sC (M.items t) j) R[j]) ∧ Hid (∀ j, j < k → 0 ≤ M.findB (sC (M.items t) j) 58) ∧ Hid (Row wr w.heap.size q R) ∧ Hid (∀ b, q.ownBlock = some b → b = w.heap.size ∨ w2.heap.size ≤ b) ∧ Hid (Only w2 wr (fun b => b = w.heap.size))) (fun _ i _ => 61 - (intOf i).toNat)
    case atStart => exact ⟨0, [], Nat.zero_le _, Nat.zero_le _, rfl, rfl, fun j hj => absurd hj (by simp), fun j hj => absurd hj (by omega), R2, fun b e => Or.inl (by simp [Value.ownBlock] at e; exact e.symm), Only.refl _ _⟩
    case round =>
      obtain ⟨k, R, hk, hk2, rfl, hRk, hfit, hsg, hrow, hown, hon⟩ := hrel
      have hz := hon.out.size
      by_cases hlt : k < n ∧ k ≤ 60
      · obtain ⟨hkn, hkm⟩ := hlt
        have hki : (k : Int) < (n : Int) := by omega
        have hkj : (k : Int) ≤ 60 := by omega
        obtain ⟨b, o, e, c0⟩ := (HL.out.onlyB hon.out (fun b o e h0 => HA.out b o e h0)) k hkn
        subst e
        have hp := HSZ.out k hkn
        have HBARE : Hid (M.findB (sC (M.items t) k) 58 < 0 → ∀ R', ¬ BatOf t R') := fun h R' hR => by
          have h1 := hR.items
          rw [HN.out] at h1
          rw [h1.2 k (by omega)] at h
          unfold M.letT at h
          rw [find_app no_colon] at h
          omega
        have HSN := Lib.hid (fun i c (h : LFit (sC (M.items t) k) (i, c)) => lfit_snoc (i := i) (c := c) hfit.out (by rw [hRk]; exact h))
        have HSGN : Hid (0 ≤ M.findB (sC (M.items t) k) 58 → ∀ j, j < k + 1 → 0 ≤ M.findB (sC (M.items t) j) 58) := fun h j hj => by
          by_cases e : j = k
          · rw [e]; exact h
          · exact hsg.out j (by omega)
        obtain ⟨p, hpp⟩ : ∃ p, sC (M.items t) k = p := ⟨_, rfl⟩
        rw [hpp] at c0 hp HSN HBARE HSGN
        have HCS := Lib.hid (M.findB_cases p 58)
        clear hpp
        go_wp2_with fail
        refine (spec_l9Find p 58 58 (by rfl) wr hp).mono ?_
        rintro e w3 ⟨rfl, rfl⟩
        rcases HCS.out with hf | ⟨i, hf, hi⟩
        · have HNO := Lib.hid (batP_no HI.out (HBARE.out (by omega)))
          rw [hf]
          have RZ := Lib.hid (one_row wr)
          have BZ : Hid (Below w.heap.size w (wr.alloc (.cells #[] 37))) := by
            have h3 := hon.out.below (B := w.heap.size) (fun b hb hb2 e => by omega) (by omega)
            exact (B2.out.trans h3).alloc (by omega) _
          clear hf
          go_wp2
          go_ret2
          exact batP_ret HNO.out (RZ.out.lower (by omega)) BZ.out
        · have HSG := Lib.hid (HSGN.out (by omega))
          have hcl : M.cutL 58 p = p.extract 0 i := by unfold M.cutL; rw [if_neg (by omega), hf]; rfl
          have hcr : M.cutR 58 p = p.extract (i + 1) p.size := by unfold M.cutR; rw [if_neg (by omega), hf]; rfl
          have HLF : Hid (∀ x : Int, -9223372036854775808 ≤ x → x ≤ 9223372036854775807 → (∀ j : Int, 1 ≤ j → j ≤ 9999 → p.extract 0 i = M.decT j → x = j) → LFit p (x, p.extract (i + 1) p.size)) := fun x x0 x1 hx => ⟨⟨x0, x1⟩, by show (p.extract (i + 1) p.size).size ≤ _; rw [ByteArray.size_extract]; omega, fun j cc j0 j1 e => by
            have h1 := (cut_app (c := cc) (no_colon (i := j))).1
            have h2 := (cut_app (c := cc) (no_colon (i := j))).2
            rw [← e, hcl] at h1
            rw [← e, hcr] at h2
            rw [hx j j0 j1 h1, h2]⟩
          have hus : (p.extract 0 i).size ≤ 1048576 := by rw [ByteArray.size_extract]; omega
          rw [hf]
          have i0 : (0 : Int) ≤ (i : Int) := by omega
          have i1 : (i : Int) ≤ (p.size : Int) := by omega
          have i2 : (i : Int) + 1 ≤ (p.size : Int) := by omega
          have i3 : ((i : Int) + 1).toNat = i + 1 := by omega
          have i5 : (0 : Int) ≤ (i : Int) + 1 := by omega
          have i4 : IntKind.i64.wrap ((i : Int) + 1) = (i : Int) + 1 := IntWalk.i64_in _ (by omega)
          have i6 : ¬ (i : Int) < 0 := by omega
          clear hf hcl hcr
          go_wp2_with fail
          refine (spec_num (p.extract 0 i) wr hus).mono ?_
          rintro e w3 ⟨x, y, rfl, x0, x1, hx, rfl⟩
          have HFN := Lib.hid (HSN.out x _ (HLF.out x x0 x1 hx))
          clear hx hus
          go_wp2_with (at_builtin; refine wpList_append_letter _ rfl _ _ rfl w.heap.size u4 R rfl (hrow.out.alloc _) _ x (p.extract (i + 1) p.size) rfl ?_ (by omega) (by simp; omega) ?_)
          · simp [go_sem]
          · intro v3 w3 r3 gr3 ho3
            have RN := Lib.hid r3
            have o3 : Only wr w3 (fun x => x = w.heap.size ∨ w2.heap.size ≤ x) := Only.trans (Only.new (below_alloc0 wr _)) (Only.of_grown gr3) (fun x hx e => hown.out x e.symm)
            have ON : Hid (Only w2 w3 (fun x => x = w.heap.size)) := hon.out.trans o3 (fun x hx e => by omega)
            have HOW : Hid (∀ b, v3.ownBlock = some b → b = w.heap.size ∨ w2.heap.size ≤ b) := fun b e => by
              rcases ho3 with h | h
              · exact hown.out b (h.symm.trans e)
              · have := Option.some.inj (h.symm.trans e)
                first
                  | omega
                  | (simp at this; omega)
            clear r3 gr3 ho3 o3
            go_wp2
            go_roundw
            case rel => exact ⟨k + 1, R ++ [(x, p.extract (i + 1) p.size)], by omega, by omega, by go_num, by rw [List.length_append, hRk]; rfl, HFN, HSG, RN, HOW, ON⟩
            case measure => simp [intOf]; omega
      · have hn1 : 0 < n := by
          rw [← HN.out, show M.items t = M.bparts 32 t from if_neg HD.out]
          exact M.bparts_pos 32 t
        have hk1 : 0 < k := by omega
        have htne : t ≠ ⟨#[]⟩ := fun e => by
          have h1 := items_fit (t := t) 0 (by rw [HN.out]; exact hn1)
          rcases M.findB_cases (sC (M.items t) 0) 58 with h2 | ⟨i, h2, h3⟩
          · have := hsg.out 0 hk1; omega
          · have : t.size = 0 := by rw [e]; rfl
            omega
        obtain ⟨a1, c1, e, _, hst⟩ := hrow.out.form
        have hft := lfit_fits hfit.out
        have HROW := Lib.hid hrow.out
        have HSM : Hid (∀ R', BatOf t R' → R = R') := fun R' h => by
          have h1 := h.items.1
          have h2 := (M.batch_yes h.1).1
          have h3 := HN.out
          exact batP_same h (by omega) hfit.out
        rw [hRk] at e hst hft
        subst e
        have HFM := Lib.hid (spec_FormatBatch wr a1 k c1 (nI R) (nC R) hst hft (by omega))
        have BW : Hid (Below w.heap.size w wr) := B2.out.trans (hon.out.below (B := w.heap.size) (fun b hb hb2 e => by omega) (by omega))
        have zw := BW.out.size
        clear hst hft hown hon
        obtain ⟨x, hx⟩ : ∃ x, M.batText k (nI R) (nC R) = x := ⟨_, rfl⟩
        rw [hx] at HFM
        by_cases hxt : x = t
        · have hee : (x.toList == t.toList) = true := by rw [hxt]; simp
          have hne : (x.toList != t.toList) = false := by rw [bne, hee]; rfl
          have hv : M.batch k (nI R) (nC R) = true := by
            cases e : M.batch k (nI R) (nC R)
            · exfalso
              apply htne
              rw [← hxt, ← hx]
              unfold M.batText
              rw [e]
              rfl
            · rfl
          have HBO : Hid (BatOf t R) := ⟨by rw [hRk]; exact hv, by rw [hRk, hx, hxt]⟩
          have HYES := Lib.hid (batP_yes HI.out HBO.out hfit.out)
          clear hx hxt hv htne
          rcases (show (¬ (k : Int) < (n : Int)) ∨ ((k : Int) < (n : Int) ∧ ¬ (k : Int) ≤ 60) by omega) with hg | ⟨hg, hg2⟩
          all_goals
            go_wp2_with fail
            refine HFM.out.mono ?_
            rintro e w3 ⟨rfl, hb3⟩
            have RF := Lib.hid (HROW.out.on hb3)
            have BF := Lib.hid (BW.out.trans (hb3.mono zw))
            go_wp2
            go_ret2
            exact batP_ret HYES.out RF.out BF.out
        · have hee := neq_txt hxt
          have hne : (x.toList != t.toList) = true := by rw [bne, hee]; rfl
          have HNO := Lib.hid (batP_no HI.out (fun R' h => by
            have e := HSM.out R' h
            have h1 := h.2
            rw [← e, hRk, hx] at h1
            exact hxt h1))
          clear hx hxt htne
          rcases (show (¬ (k : Int) < (n : Int)) ∨ ((k : Int) < (n : Int) ∧ ¬ (k : Int) ≤ 60) by omega) with hg | ⟨hg, hg2⟩
          all_goals
            go_wp2_with fail
            refine HFM.out.mono ?_
            rintro e w3 ⟨rfl, hb3⟩
            have RZ := Lib.hid (one_row w3)
            have z3 := hb3.size
            have BZ : Hid (Below w.heap.size w (w3.alloc (.cells #[] 37))) := (BW.out.trans (hb3.mono zw)).alloc (by omega) _
            go_wp2
            go_ret2
            exact batP_ret HNO.out (RZ.out.lower (by omega)) BZ.out
end Go.Proofs.YtpfabfjbmaagnaaDoor
