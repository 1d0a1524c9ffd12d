/-
  ParseRules, in the program and in the model of the document.
-/
import Derived.Test.YtodnolefdapbdaaDoorPair
import Derived.Test.YtodnolefdapbdaaDoorRulText
import Derived.Test.YtodnolefdapbdaaDoorRCat
import Derived.Deep.RegionHeld3
import Derived.Maps.AppendAt
namespace Go.Proofs.YtodnolefdapbdaaDoor
open Go.RowKit
open Go.PlainAid (bt get_bt bt_nonneg bt_le)
set_option linter.unusedVariables false

theorem step_append_rul {ops : Array Oper} {o : Oper} {a : Act} {K : Act → World → Prop} {Q : Exit → Act → World → Prop} {E : Prop} (w : World) (hgd : o.guard = none) (s x : Operand)
    (ho : o.op = .call { callee := .builtin .append, args := #[s, x], argTypes := #[32, 32] })
    (base : Nat) (v : Value) (L : List (ByteArray × ByteArray)) (hs : a.eval s = v) (hrow : RRow w base v L) (b : Nat) (i t : ByteArray) (hx : a.eval x = .slice (some ⟨b, 0, none⟩) 1 1)
    (hc : w.cell? ⟨b, 0, none⟩ = some (.string i) ∧ w.cell? ⟨b, 1, none⟩ = some (.string t)) (hl : L.length ≤ 1048576) (hbase : base ≤ w.heap.size)
    (hK : ∀ v' w', RRow w' base v' (L ++ [(i, t)]) → w.grownBy w' v.ownBlock → (v'.ownBlock = v.ownBlock ∨ v'.ownBlock = some w.heap.size) → K (a.put o.dst v') w') :
    if Region.wanted o (yielded ops a.tmps) = true then Oper.wp Tryd.prog o a w K Q else E := by
  have hw : Region.wanted o (yielded ops a.tmps) = true := by simp [Region.wanted, hgd]
  rw [if_pos hw]
  obtain ⟨i0, hi, hz0, hz1, hz2⟩ := info_parts info_rule
  have hcells : ∀ j u, [Value.string i, Value.string t][j]? = some u → w.cell? ((⟨b, 0, none⟩ : Addr).add j) = some u := fun j u hj => by
    match j, hj with
    | 0, hj => simp at hj; subst hj; simpa [Addr.add] using hc.1
    | 1, hj => simp at hj; subst hj; simpa [Addr.add] using hc.2
  have hone : ∀ u ∈ [Value.string i, Value.string t], u.oneCell' = true := fun u hu => by
    simp at hu
    rcases hu with rfl | rfl <;> rfl
  obtain ⟨v', w', hr, h2, h3, _, h5⟩ := run_append_own_at (P := Tryd.prog) (w := w) base 32 o.type 56 i0 _ 2 32 Tryd.underlying32 hi hz0 hz1 hz2 rfl (by decide) v L.length (fcells L) hrow ⟨b, 0, none⟩ 1 1 [.string i, .string t] rfl hcells hone (by unfold maxLen; omega) (by omega) hbase
  unfold Oper.wp execOp
  simp only [ho, resolve, invoke, builtin, Sem.run_bind, Sem.run_pure, Result.andThen_ok, List.map_toArray, List.map_cons, List.map_nil, hs, hx, hr]
  refine hK v' w' ?_ h3 h5
  unfold RRow
  rw [List.length_append, fcells_append]
  exact h2

def M.rulPOk (t : ByteArray) : Bool := M.rul (M.prN t) (M.prF t) (M.prT t)
def M.rulPL (t : ByteArray) : List (ByteArray × ByteArray) := if M.rulPOk t then M.flst (M.prF t) (M.prT t) (M.prN t) else []
def rulPOut (W : World) (ok : Bool) (L : List (ByteArray × ByteArray)) (e : Ending) (w' : World) : Prop := ∃ v, e = .returned (.tuple #[v, .bool ok]) ∧ RRow w' W.heap.size v L ∧ Below W.heap.size W w'
theorem rulPOut.no {W w' : World} {t : ByteArray} {v : Value} (h : M.rulPOk t = false) (hr : RRow w' W.heap.size v []) (hb : Below W.heap.size W w') : rulPOut W (M.rulPOk t) (M.rulPL t) (.returned (.tuple #[v, .bool false])) w' := by
  unfold M.rulPL
  rw [h]
  exact ⟨v, rfl, hr, hb⟩
theorem rulPOut.yes {W w' : World} {t : ByteArray} {v : Value} (h : M.rulPOk t = true) (hr : RRow w' W.heap.size v (M.flst (M.prF t) (M.prT t) (M.prN t))) (hb : Below W.heap.size W w') : rulPOut W (M.rulPOk t) (M.rulPL t) (.returned (.tuple #[v, .bool true])) w' := by
  unfold M.rulPL
  rw [h]
  exact ⟨v, rfl, hr, hb⟩
theorem rul_bare {t : ByteArray} {k : Nat} (hk : k < M.prN t) (h : M.findB (sC (M.items t) k) 62 < 0) : M.rulPOk t = false := by
  exact M.rul_no (P := M.prF t) hk (Or.inr (Or.inl (by rw [pr_bare h]; rfl)))
theorem rulPL_len (t : ByteArray) : (M.rulPL t).length ≤ 60 := by
  unfold M.rulPL
  cases h : M.rulPOk t
  · exact Nat.zero_le _
  · have := (rul_sizes (show M.rul (M.prN t) (M.prF t) (M.prT t) = true from h)).1
    rw [if_pos rfl, M.flst_length]
    omega
theorem rul_late {t : ByteArray} {k : Nat} (h : k ≤ M.prN t) (h2 : ¬ (k < M.prN t ∧ k ≤ 20)) : M.rul k (M.prF t) (M.prT t) = M.rulPOk t := by
  by_cases e : k = M.prN t
  · rw [e]; rfl
  · unfold M.rulPOk
    rw [M.rul_long (by omega), M.rul_long (by omega)]

set_option maxHeartbeats 1000000 in
theorem impl_ParseRules (t : ByteArray) (w : World) (hM : MaxL w) (ht : t.size ≤ 1048576) :
    Calls Tryd.prog 17 #[.string t] w (rulPOut w (M.rulPOk t) (M.rulPL t)) := by
  have HS : Hid (Calls Tryd.prog 28 #[.string t] w fun e w' => ∃ a, e = .returned (.slice a (M.prN t) (M.prN t)) ∧ Strs w' a (M.prN t) (sC (M.items t)) ∧ Below w.heap.size w w') := impl_splitItems t w hM ht
  have HM := Lib.hid hM
  have hn := pr_len ht
  have HF := Lib.hid (pr_fits ht)
  have HSZ : Hid (∀ i, i < M.prN t → (sC (M.items t) i).size ≤ 1048576) := fun i hi => Nat.le_trans (items_fit i hi) ht
  clear hM
  obtain ⟨n, hN⟩ : ∃ n, M.prN t = n := ⟨_, rfl⟩
  have HN := Lib.hid hN
  rw [hN] at HS hn HF HSZ
  clear hN
  go_enter Tryd.func17, Tryd.ntmps17
  go_wp2_with fail
  refine HS.out.mono ?_
  rintro e w1 ⟨a, rfl, hl, hb1⟩
  have HL := Lib.hid hl
  have B1 := Lib.hid hb1
  have z1 := hb1.size
  clear hl hb1 HS
  go_wp2
  go_loopw [4, 13] (fun q i wr => ∃ k : Nat, k ≤ n ∧ i = .int .i64 k ∧ Hid (RRow wr w1.heap.size q (M.flst (M.prF t) (M.prT t) k)) ∧ Below w1.heap.size w1 wr) (fun _ i _ => n - (intOf i).toNat)
  case atStart => exact ⟨0, Nat.zero_le _, rfl, RRow.nil _ _, Below.refl _ _⟩
  case round =>
    obtain ⟨k, hk, rfl, hrow, hb⟩ := hrel
    have hz := hb.size
    by_cases hlt : k < n
    · obtain ⟨b, o, rfl, c0⟩ := (HL.out.on hb) k hlt
      have hp := HSZ.out k hlt
      have HST : Hid (M.flst (M.prF t) (M.prT t) (k + 1) = M.flst (M.prF t) (M.prT t) k ++ [(M.cutL 62 (sC (M.items t) k), M.cutR 62 (sC (M.items t) k))]) := M.flst_succ _ _ k
      have hlen := M.flst_length (M.prF t) (M.prT t) k
      obtain ⟨LL, hLL⟩ : ∃ LL, M.flst (M.prF t) (M.prT t) k = LL := ⟨_, rfl⟩
      rw [hLL] at hrow HST hlen
      have HMr := Lib.hid ((HM.out.below B1.out).below hb)
      generalize sC (M.items t) k = p at *
      clear hLL
      go_wp2_with fail
      refine (strings_cut 62 p wr HMr.out hp).mono ?_
      rintro e w2 ⟨y, rfl, hb2⟩
      have R2 := Lib.hid (hrow.out.on hb2)
      have hB2 := Lib.hid (sstep hb hb2)
      have z2 := hb2.size
      obtain ⟨f, hf⟩ : ∃ f, M.cutL 62 p = f := ⟨_, rfl⟩
      obtain ⟨r, hr⟩ : ∃ r, M.cutR 62 p = r := ⟨_, rfl⟩
      rw [hf, hr] at HST
      rw [hf, hr]
      clear hb2 hrow hf hr
      go_wp2_with (at_builtin; refine wpList_append_rule _ rfl _ _ rfl w1.heap.size u4 LL rfl (R2.out.alloc _) _ f r rfl ?_ (by omega) (by simp; omega) ?_)
      · simp [go_sem]
      · intro v1 w3 r1 gr1 ho1
        have R1 : Hid (RRow w3 w1.heap.size v1 (M.flst (M.prF t) (M.prT t) (k + 1))) := by rw [HST.out]; exact r1
        have hB2' := hB2.out
        have B3 : Below w1.heap.size w1 w3 := Below.grown (by go_grown) gr1 (by simp; omega) (fun q e => (R2.out.lt q e).1)
        clear r1 gr1 ho1 hB2'
        go_wp2
        go_roundw
        case rel => exact ⟨k + 1, by omega, by go_num, R1, B3⟩
        case measure => simp [intOf]; omega
    · obtain rfl : k = n := by omega
      obtain ⟨a1, c1, e, _, hst⟩ := hrow.out.form
      rw [M.flst_length] at e hst
      subst e
      have HSS : Hid (Fws wr a1 k (M.prF t) (M.prT t)) := RRow.fws_lst (show RRow wr w1.heap.size (.slice a1 k c1) _ from hrow.out)
      have hOK : M.rulPOk t = M.rul k (M.prF t) (M.prT t) := by unfold M.rulPOk; rw [HN.out]
      clear hst
      cases hv : M.rul k (M.prF t) (M.prT t)
      · have HV := Lib.hid hv
        have HO := Lib.hid (hOK.trans hv)
        clear hv hOK
        go_wp2_with fail
        refine (impl_RulesValid _ a1 k c1 (M.prF t) (M.prT t) HSS.out HF.out).mono ?_
        rw [HV.out]
        rintro e w2 ⟨rfl, hb2⟩
        go_wp2
        go_ret2
        exact rulPOut.no HO.out (RRow.nil _ _) (sstep (sstep B1.out hb) hb2)
      · have HV := Lib.hid hv
        have HO := Lib.hid (hOK.trans hv)
        clear hv hOK
        go_wp2_with fail
        refine (impl_RulesValid _ a1 k c1 (M.prF t) (M.prT t) HSS.out HF.out).mono ?_
        rw [HV.out]
        rintro e w2 ⟨rfl, hb2⟩
        go_wp2
        go_ret2
        exact rulPOut.yes HO.out (by rw [HN.out]; exact (hrow.out.on hb2).lower z1) (sstep (sstep B1.out hb) hb2)

set_option maxHeartbeats 2000000 in
set_option maxRecDepth 100000 in
theorem spec_ParseRules (t : ByteArray) (w : World) (ht : t.size ≤ 1048576) :
    Calls Tryd.prog 20 #[.string t] w (rulPOut w (M.rulPOk t) (M.rulPL t)) := by
  have R0 := Lib.hid (rone_frow w)
  have hB := Lib.hid (below_alloc0 w (.cells #[] 56))
  by_cases hd : t = ⟨#[45]⟩
  · have HOK : Hid (M.rulPOk t = true) := by unfold Hid M.rulPOk; rw [hd, pr_dash]; rfl
    have HL : Hid (M.flst (M.prF t) (M.prT t) (M.prN t) = []) := by unfold Hid; rw [hd, pr_dash]; rfl
    have hdd : (t.toList == [45]) = true := by rw [hd, ByteArray.toList_eq]; rfl
    clear hd
    go_enter Tryd.func20, Tryd.ntmps20
    go_wp2
    go_ret2
    exact rulPOut.yes HOK.out (by rw [HL.out]; exact R0.out) hB.out
  · have hdn := dash_no hd
    have HD := Lib.hid hd
    have hit : M.items t = M.bparts 32 t := if_neg hd
    have HC : Hid (∀ W : World, Calls Tryd.prog 33 #[.string t, .int .u8 32] W (SRowOut W (M.items t))) := fun W => by rw [hit]; exact spec_l9Cut t 32 32 (by rfl) W ht
    have hn := pr_len ht
    have HF := Lib.hid (pr_fits ht)
    have HSZ : Hid (∀ i, i < M.prN t → (sC (M.items t) i).size ≤ 1048576) := fun i hi => Nat.le_trans (items_fit i hi) ht
    clear hd hit
    obtain ⟨n, hN⟩ : ∃ n, M.prN t = n := ⟨_, rfl⟩
    have HN := Lib.hid hN
    rw [hN] at hn HF HSZ
    clear hN
    go_enter Tryd.func20, Tryd.ntmps20
    go_wp2_with fail
    refine (HC.out _).mono ?_
    rintro e w2 ⟨v, rfl, r2, hb2⟩
    obtain ⟨W1, hW1⟩ : ∃ W1, w.alloc (.cells #[] 56) = W1 := ⟨_, rfl⟩
    have z1 : W1.heap.size = w.heap.size + 1 := by rw [← hW1]; simp
    rw [hW1] at r2 hb2 R0 hB
    have z2 := hb2.size
    have R2 := Lib.hid (R0.out.on hb2)
    have B2 := Lib.hid (sstep hB.out hb2)
    obtain ⟨a, c, rfl, _, hl⟩ := r2.form
    have hln : (M.items t).length = n := HN.out
    rw [hln] at hl
    rw [hln]
    have HL := Lib.hid hl
    have HA : Hid (∀ b o, a = some ⟨b, o, none⟩ → 0 < n → b ≠ w.heap.size) := fun b o e h0 => by
      have := (r2.lt b (by rw [e]; rfl)).1
      omega
    have HW1 := Lib.hid hW1
    clear hl hb2 r2 hW1 R0 hB HC hln
    go_wp2
    go_loopw [4, 6] (fun q i wr => ∃ k : Nat, k ≤ n ∧ k ≤ 21 ∧ i = .int .i64 k ∧ Hid (∀ j, j < k → 0 ≤ M.findB (sC (M.items t) j) 62) ∧ Hid (RRow wr w.heap.size q (M.flst (M.prF t) (M.prT t) k)) ∧ Hid (∀ b, q.ownBlock = some b → b = w.heap.size ∨ w2.heap.size ≤ b) ∧ Hid (Only w2 wr (fun b => b = w.heap.size))) (fun _ i _ => 21 - (intOf i).toNat)
    case atStart => exact ⟨0, Nat.zero_le _, Nat.zero_le _, rfl, fun j hj => absurd hj (by omega), R2, fun b e => Or.inl (by simp [Value.ownBlock] at e; exact e.symm), Only.refl _ _⟩
    case round =>
      obtain ⟨k, hk, hk2, rfl, hsg, hrow, hown, hon⟩ := hrel
      have hz := hon.out.size
      by_cases hlt : k < n ∧ k ≤ 20
      · obtain ⟨hkn, hkm⟩ := hlt
        have hki : (k : Int) < (n : Int) := by omega
        have hkj : (k : Int) ≤ 20 := by omega
        obtain ⟨b, o, e, c0⟩ := (HL.out.onlyB hon.out (fun b o e h0 => HA.out b o e h0)) k hkn
        have hbw := HA.out b o e (by omega)
        have hb2l : b < w2.heap.size := HL.out.lt e (by omega)
        subst e
        have hp := HSZ.out k hkn
        have HBARE := Lib.hid (fun h => rul_bare (t := t) (k := k) (by rw [HN.out]; exact hkn) h)
        have HCUT := Lib.hid (fun i h => pr_cut (t := t) (i := k) (k := i) h)
        have HST := Lib.hid (M.flst_succ (M.prF t) (M.prT t) k)
        have HSGN : Hid (0 ≤ M.findB (sC (M.items t) k) 62 → ∀ j, j < k + 1 → 0 ≤ M.findB (sC (M.items t) j) 62) := fun h j hj => by
          by_cases e : j = k
          · rw [e]; exact h
          · exact hsg.out j (by omega)
        have hlen := M.flst_length (M.prF t) (M.prT t) k
        obtain ⟨LL, hLL⟩ : ∃ LL, M.flst (M.prF t) (M.prT t) k = LL := ⟨_, rfl⟩
        rw [hLL] at hrow HST hlen
        generalize sC (M.items t) k = p at *
        have HCS := Lib.hid (M.findB_cases p 62)
        clear hLL
        go_wp2_with fail
        refine (spec_l9Find p 62 62 (by rfl) wr hp).mono ?_
        rintro e w3 ⟨rfl, rfl⟩
        rcases HCS.out with hf | ⟨i, hf, hi⟩
        · have HO := Lib.hid (HBARE.out (by omega))
          rw [hf]
          have RZ := Lib.hid (rone_frow wr)
          have BZ : Hid (Below w.heap.size w (wr.alloc (.cells #[] 56))) := by
            have h3 := hon.out.below (B := w.heap.size) (fun b hb hb2 e => by omega) (by omega)
            exact (B2.out.trans h3).alloc (by omega) _
          clear hf
          go_wp2
          go_ret2
          exact rulPOut.no HO.out (RZ.out.lower (by omega)) BZ.out
        · obtain ⟨hcl, hcr⟩ := HCUT.out i hf
          have HCL := Lib.hid hcl
          have HCR := Lib.hid hcr
          have HSG := Lib.hid (HSGN.out (by omega))
          rw [hf]
          have i0 : (0 : Int) ≤ (i : Int) := by omega
          have i1 : (i : Int) ≤ (p.size : Int) := by omega
          have i2 : (i : Int) + 1 ≤ (p.size : Int) := by omega
          have i3 : ((i : Int) + 1).toNat = i + 1 := by omega
          have i5 : (0 : Int) ≤ (i : Int) + 1 := by omega
          have i4 : IntKind.i64.wrap ((i : Int) + 1) = (i : Int) + 1 := IntWalk.i64_in _ (by omega)
          have i6 : ¬ (i : Int) < 0 := by omega
          obtain ⟨OB, hOB⟩ : ∃ OB, (Obj.cells #[.string (p.extract 0 i), .string (p.extract (i + 1) p.size)] 56) = OB := ⟨_, rfl⟩
          have hca : (wr.alloc OB).drew.cell? ⟨b, o + k, none⟩ = some (.string p) := ((below_alloc0 wr OB).cell (p := ⟨b, o + k, none⟩) (World.block_lt_of_cell? _ _ c0)).trans c0
          have hs3 : ∀ w3, ((wr.alloc OB).drew).grownBy w3 (Value.ownBlock u4) → w3.cell? ⟨b, o + k, none⟩ = some (.string p) := fun w3 g => by
            have hlt : b < (wr.alloc OB).drew.heap.size := Nat.lt_of_lt_of_le (World.block_lt_of_cell? _ _ c0) (below_alloc0 wr OB).size
            have hb3 := (Only.of_grown g).block b hlt (fun e => by
              rcases hown.out b e.symm with h | h
              · exact hbw h
              · omega)
            exact (World.cell?_of_block hb3).trans hca
          rw [← hOB] at hca hs3
          clear hOB hf hcl hcr
          go_wp2
          go_region_held3 (fun w' => w'.cell? ⟨b, o + k, none⟩ = some (.string p)) (first | exact c0 | exact hca | exact s3) (first
            | (refine step_append_rul _ (by rfl) _ _ (by rfl) w.heap.size _ LL (by rfl) (RRow.alloc (show _ from hrow.out) _) _ (p.extract 0 i) (p.extract (i + 1) p.size) (by rfl) (by constructor <;> simp [go_sem]) (by omega) (by simp; omega) ?_; intro v3 w3 r3 gr3 ho3; have s3 := hs3 w3 gr3))
          have RN : Hid (RRow w3 w.heap.size v3 (M.flst (M.prF t) (M.prT t) (k + 1))) := by rw [HST.out, ← HCL.out, ← HCR.out]; exact r3
          have o3 : Only wr w3 (fun x => x = w.heap.size ∨ w2.heap.size ≤ x) := by
            refine Only.trans (Only.new (show Below wr.heap.size wr (wr.alloc (.cells #[.string (p.extract 0 i), .string (p.extract (i + 1) p.size)] 56)).drew from (below_alloc0 wr _).drew)) (Only.of_grown gr3) (fun x hx e => hown.out x e.symm)
          have ON : Hid (Only w2 w3 (fun x => x = w.heap.size)) := hon.out.trans o3 (fun x hx e => by omega)
          have HOW : Hid (∀ b, v3.ownBlock = some b → b = w.heap.size ∨ w2.heap.size ≤ b) := fun b e => by
            rcases ho3 with h | h
            · exact hown.out b (h.symm.trans e)
            · have := Option.some.inj (h.symm.trans e)
              simp at this
              omega
          clear r3 gr3 ho3 o3 s3
          go_wp2
          go_roundw
          case rel => exact ⟨k + 1, by omega, by omega, by go_num, HSG.out, RN, HOW, ON⟩
          case measure => simp [intOf]; omega
      · have HLATE := Lib.hid (rul_late (t := t) (k := k) (by rw [HN.out]; exact hk) (by rw [HN.out]; exact hlt))
        have hn1 : 0 < n := by
          rw [← HN.out]
          unfold M.prN
          rw [show M.items t = M.bparts 32 t from if_neg HD.out]
          exact M.bparts_pos 32 t
        have hk1 : 0 < k := by omega
        obtain ⟨a1, c1, e, _, hst⟩ := hrow.out.form
        rw [M.flst_length] at e hst
        subst e
        have HSS : Hid (Fws wr a1 k (M.prF t) (M.prT t)) := RRow.fws_lst (show RRow wr w.heap.size (.slice a1 k c1) _ from hrow.out)
        have HFK : Hid (FFits k (M.prF t) (M.prT t)) := fun i hi => HF.out i (by omega)
        have HFM := Lib.hid (spec_FormatRules wr a1 k c1 (M.prF t) (M.prT t) HSS.out HFK.out (by omega))
        have BW : Hid (Below w.heap.size w wr) := B2.out.trans (hon.out.below (B := w.heap.size) (fun b hb hb2 e => by omega) (by omega))
        have zw := BW.out.size
        have HROW : Hid (RRow wr w.heap.size (.slice a1 k c1) (M.flst (M.prF t) (M.prT t) k)) := hrow.out
        clear hst hrow hown hon HSS HFK
        cases hv : M.rul k (M.prF t) (M.prT t)
        · have hx : M.rulText k (M.prF t) (M.prT t) = ⟨#[]⟩ := by unfold M.rulText; rw [hv]; rfl
          have hne : M.rulText k (M.prF t) (M.prT t) ≠ t := fun e => pr_full (t := t) (by rw [HN.out]; exact hn1) (hsg.out 0 hk1) (e.symm.trans hx)
          have HO := Lib.hid (HLATE.out.symm.trans hv)
          obtain ⟨x, hxx⟩ : ∃ x, M.rulText k (M.prF t) (M.prT t) = x := ⟨_, rfl⟩
          rw [hxx] at hne HFM
          have hne1 := neq_txt hne
          have hne2 : (x.toList != t.toList) = true := by rw [bne, hne1]; rfl
          clear hv hx hxx hne
          rcases (show (¬ (k : Int) < (n : Int)) ∨ ((k : Int) < (n : Int) ∧ ¬ (k : Int) ≤ 20) by omega) with hg | ⟨hg, hg2⟩
          all_goals
            go_wp2_with fail
            refine HFM.out.mono ?_
            rintro e w3 ⟨rfl, hb3⟩
            have RZ := Lib.hid (rone_frow w3)
            have BZ : Hid (Below w.heap.size w (w3.alloc (.cells #[] 56))) := (BW.out.trans (hb3.mono (by omega))).alloc (by have := hb3.size; omega) _
            have z3 := hb3.size
            go_wp2
            go_ret2
            exact rulPOut.no HO.out (RZ.out.lower (by omega)) BZ.out
        · have HO := Lib.hid (HLATE.out.symm.trans hv)
          have hkm : k ≤ 20 := (rul_sizes hv).1
          have hkn : k = n := by omega
          have hx : M.rulText k (M.prF t) (M.prT t) = t := by
            unfold M.rulText
            rw [hv, if_pos rfl, hkn, ← HN.out]
            exact pr_text HD.out fun i hi => hsg.out i (by rw [HN.out] at hi; omega)
          have HROW2 : Hid (RRow wr w.heap.size (.slice a1 k c1) (M.flst (M.prF t) (M.prT t) (M.prN t))) := by
            have := HROW.out
            rw [show M.prN t = k by rw [HN.out, hkn]]
            exact this
          rw [hx] at HFM
          have hee : (t.toList == t.toList) = true := by simp
          have hg : ¬ (k : Int) < (n : Int) := by omega
          clear hv hx hkn
          go_wp2_with fail
          refine HFM.out.mono ?_
          rintro e w3 ⟨rfl, hb3⟩
          go_wp2
          go_ret2
          exact rulPOut.yes HO.out (HROW2.out.on hb3) (BW.out.trans (hb3.mono zw))
end Go.Proofs.YtodnolefdapbdaaDoor
