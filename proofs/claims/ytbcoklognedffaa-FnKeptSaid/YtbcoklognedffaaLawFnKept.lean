/-
  For every slice of bytes, laws.FnKept returns true.
-/
import Derived.Test.YtbcoklognedffaaRows
import Derived.Test.YtbcoklognedffaaDrawX
import Derived.Test.YtbcoklognedffaaRadN
import Derived.Test.YtbcoklognedffaaKeptA
import Derived.Test.YtbcoklognedffaaKept
import Derived.Test.YtbcoklognedffaaRest
import Derived.WalkKit
import Derived.ProofKit
import Derived.OpenShut
import Derived.ShutString
import Derived.ChangeOld
import Derived.Below
import Derived.Handy
import Derived.Lib.Hide
namespace Go.Proofs.Ytbcoklognedffaa.fnKept
open Go.ChangeShapes Go.WideShapes Go.ChangeAt Go.RowKit
open Go.ChangeMaps (open_string shut_string)
open Go.PlainAid (bt get_bt bt_nonneg bt_le)
set_option linter.unusedVariables false

theorem own : ownKnob Try.prog.godebug = none := by kernel_rfl
theorem laidOut : laidOutB Try.prog = true := by kernel_rfl

set_option maxHeartbeats 40000000 in
set_option maxRecDepth 100000 in
theorem walk (w : World) (a0 : Option Addr) (l0 k0 : Nat) (z0 : List Int) (w0 : IsRow .u8 w a0 l0 k0 z0) :
    Calls Try.prog 9 #[.slice a0 l0 k0] w fun e w' => e = .returned (.bool true) ∧ Below w.heap.size w w' := by
  by_cases hl : 1048576 < l0
  · go_enter Try.func9, Try.ntmps9
    go_wp2
    go_ret
    exact ⟨rfl, Below.refl _ _⟩
  go_enter Try.func9, Try.ntmps9
  go_wp2_with fail
  refine (DrawKeptLetters_any a0 l0 k0 z0 w w0).mono ?_
  rintro e u ⟨b, p, a, n, c, S, a2, m, c2, I, C, rfl, hpl, bl, hcp⟩
  have HCP := Lib.hid hcp
  clear hcp
  obtain ⟨L, hmL, hpl2⟩ := hpl.list
  subst hmL
  clear hpl
  have hpl := hpl2
  clear hpl2
  have ba := below_alloc0 u (.cells #[.int .i64 b, .int .i64 p, .slice a n c] 25)
  have PL := Lib.hid (hpl.on ba)
  have X := Lib.hid (tri_made u (.int .i64 b) (.int .i64 p) (.slice a n c) 25)
  have BL := Lib.hid (step bl ba)
  obtain ⟨v0, hv0⟩ : ∃ v0, u.alloc (.cells #[.int .i64 b, .int .i64 p, .slice a n c] 25) = v0 := ⟨_, rfl⟩
  rw [hv0] at PL X BL
  have HV0 := Lib.hid hv0
  have hn := PL.out.pn
  have hm := PL.out.ln
  have hn2 : n ≤ 1048576 := by omega
  have hm2 : L.length ≤ 1048576 := by omega
  clear hpl bl ba hv0
  obtain ⟨kn, hkn⟩ : ∃ o, M.kept b p n S L.length (nI L) (nC L) = o := ⟨_, rfl⟩
  obtain ⟨mv, hmv⟩ : ∃ o, M.moved b p n S L.length (nI L) (nC L) = o := ⟨_, rfl⟩
  have HK := Lib.hid hkn
  have HM := Lib.hid hmv
  cases hok : runOk b p n S L.length (nI L) (nC L)
  · have hk1 : kn = -1 := by
      rw [← hkn]
      exact M.kept_no hok
    have hm1 : mv = -1 := by
      rw [← hmv]
      unfold M.moved
      rw [hkn, if_pos (by omega)]
    subst hk1 hm1
    clear hkn hmv hok
    obtain ⟨⟨d0, d1, d2⟩, g0, g1, g2⟩ := X.out
    have lx := X.out.lt
    go_wp2_with fail
    rw [HV0.out]
    refine (impl_KeptLetters _ b p a n c S PL.out.ps PL.out.pf hn2 a2 L.length c2 (nI L) (nC L) PL.out.ls PL.out.lf).mono ?_
    rw [HK.out]
    rintro e v1 ⟨rfl, k1⟩
    clear d0 d1 d2 g0 g1 g2 lx
    replace BL := Lib.hid (step BL.out k1)
    replace PL := Lib.hid (PL.out.on k1)
    replace X := Lib.hid (X.out.on k1)
    clear k1
    obtain ⟨⟨d0, d1, d2⟩, g0, g1, g2⟩ := X.out
    have lx := X.out.lt
    go_wp2_with fail
    refine (impl_MovedLetters _ b p a n c S PL.out.ps PL.out.pf hn2 a2 L.length c2 (nI L) (nC L) PL.out.ls PL.out.lf hm2).mono ?_
    rw [HM.out]
    rintro e v2 ⟨rfl, k2⟩
    clear d0 d1 d2 g0 g1 g2 lx
    replace BL := Lib.hid (step BL.out k2)
    replace PL := Lib.hid (PL.out.on k2)
    replace X := Lib.hid (X.out.on k2)
    clear k2
    obtain ⟨⟨d0, d1, d2⟩, g0, g1, g2⟩ := X.out
    have lx := X.out.lt
    go_wp2_with fail
    refine (spec_KeptLetters _ b p a n c S PL.out.ps PL.out.pf hn2 a2 L.length c2 (nI L) (nC L) PL.out.ls PL.out.lf hm2).mono ?_
    rw [HK.out]
    rintro e v3 ⟨rfl, k3⟩
    clear d0 d1 d2 g0 g1 g2 lx
    replace BL := Lib.hid (step BL.out k3)
    replace PL := Lib.hid (PL.out.on k3)
    replace X := Lib.hid (X.out.on k3)
    clear k3
    obtain ⟨⟨d0, d1, d2⟩, g0, g1, g2⟩ := X.out
    have lx := X.out.lt
    go_wp2_with fail
    refine (spec_MovedLetters _ b p a n c S PL.out.ps PL.out.pf hn2 a2 L.length c2 (nI L) (nC L) PL.out.ls PL.out.lf hm2).mono ?_
    rw [HM.out]
    rintro e v4 ⟨rfl, k4⟩
    clear d0 d1 d2 g0 g1 g2 lx
    replace BL := Lib.hid (step BL.out k4)
    replace PL := Lib.hid (PL.out.on k4)
    replace X := Lib.hid (X.out.on k4)
    clear k4
    obtain ⟨⟨d0, d1, d2⟩, g0, g1, g2⟩ := X.out
    have lx := X.out.lt
    go_wp2_with fail
    refine (spec_KeptLetters _ b p a n c S PL.out.ps PL.out.pf hn2 a2 L.length c2 (nI L) (nC L) PL.out.ls PL.out.lf hm2).mono ?_
    rw [HK.out]
    rintro e v5 ⟨rfl, k5⟩
    clear d0 d1 d2 g0 g1 g2 lx
    replace BL := Lib.hid (step BL.out k5)
    replace PL := Lib.hid (PL.out.on k5)
    replace X := Lib.hid (X.out.on k5)
    clear k5
    obtain ⟨⟨d0, d1, d2⟩, g0, g1, g2⟩ := X.out
    have lx := X.out.lt
    go_wp2_with fail
    refine (spec_MovedLetters _ b p a n c S PL.out.ps PL.out.pf hn2 a2 L.length c2 (nI L) (nC L) PL.out.ls PL.out.lf hm2).mono ?_
    rw [HM.out]
    rintro e v6 ⟨rfl, k6⟩
    clear d0 d1 d2 g0 g1 g2 lx
    replace BL := Lib.hid (step BL.out k6)
    replace PL := Lib.hid (PL.out.on k6)
    replace X := Lib.hid (X.out.on k6)
    clear k6
    obtain ⟨⟨d0, d1, d2⟩, g0, g1, g2⟩ := X.out
    have lx := X.out.lt
    go_wp2
    go_ret
    exact ⟨rfl, BL.out⟩
  · have HOK := Lib.hid hok
    obtain ⟨hp, hb⟩ := runOk_yes hok
    have hbl := (batchL_list L).1 hb
    have h60 := hbl.2.2
    have hst := kept_stay (n := n) (S := S) (b := b) (p := p) hp hbl
    rw [hkn] at hst
    have hsl := stay_le n S L
    have hone := fun i hi => kept_one (b := b) (p := p) (n := n) (S := S) hp hbl i hi
    have hsr := srt_batch (n := n) (S := S) hbl
    have hks := kept_stay (n := n) (S := S) (b := b) (p := p) hp hsr
    rw [stay_srt] at hks
    have hrn := stay_ranked n S L
    have hln := srt_len n S L
    have hio := inOrder_yes hok
    have hso := stay_ord (n := n) (S := S) (L := L)
    obtain ⟨st, hst2⟩ : ∃ k, stay n S L = k := ⟨_, rfl⟩
    rw [hst2] at hst hsl hone hrn hso
    subst hst
    have hm1 : mv = (L.length : Int) - (st : Int) := by
      rw [← hmv]
      unfold M.moved
      rw [hkn, if_neg (by omega)]
    have hib : M.inOrder b p n S L.length (nI L) (nC L) = (mv == 0) := by
      rw [hio]
      by_cases h : st = L.length
      · rw [decide_eq_true (hso.1 h), hm1]
        symm
        rw [beq_iff_eq]
        omega
      · rw [decide_eq_false (fun e => h (hso.2 e)), hm1]
        symm
        rw [beq_eq_false_iff_ne]
        omega
    have HIO := Lib.hid hib
    obtain ⟨z, hz⟩ : ∃ z, (mv == 0) = z := ⟨_, rfl⟩
    rw [hz] at HIO
    have hsum : IntKind.i64.wrap ((st : Int) + mv) = (L.length : Int) := by rw [hm1]; exact (IntWalk.i64_in _ (by omega)).trans (by omega)
    have HONE := Lib.hid hone
    have HL1 := Lib.hid ((runList_srt hok).trans (by rw [lst_nI]))
    have HKS := Lib.hid hks
    have HSR := Lib.hid hsr
    have hr61 := (run_len b p n S L.length (nI L) (nC L)).1
    rw [HL1.out] at hr61
    obtain ⟨R1, hR1⟩ : ∃ R, srt n S L = R := ⟨_, rfl⟩
    rw [hR1] at HL1 HKS HSR hln hr61
    have hkle : (st : Int) ≤ (R1.length : Int) := by omega
    have hm0 : 0 ≤ mv := by omega
    clear hok hp hb hbl hst2 hone hsr hks hrn hln hio hso hib hmv hkn hm1 hR1
    obtain ⟨⟨d0, d1, d2⟩, g0, g1, g2⟩ := X.out
    have lx := X.out.lt
    go_wp2_with fail
    rw [HV0.out]
    refine (impl_KeptLetters _ b p a n c S PL.out.ps PL.out.pf hn2 a2 L.length c2 (nI L) (nC L) PL.out.ls PL.out.lf).mono ?_
    rw [HK.out]
    rintro e v1 ⟨rfl, k1⟩
    clear d0 d1 d2 g0 g1 g2 lx
    replace BL := Lib.hid (step BL.out k1)
    replace PL := Lib.hid (PL.out.on k1)
    replace X := Lib.hid (X.out.on k1)
    clear k1
    obtain ⟨⟨d0, d1, d2⟩, g0, g1, g2⟩ := X.out
    have lx := X.out.lt
    go_wp2_with fail
    refine (impl_MovedLetters _ b p a n c S PL.out.ps PL.out.pf hn2 a2 L.length c2 (nI L) (nC L) PL.out.ls PL.out.lf hm2).mono ?_
    rw [HM.out]
    rintro e v2 ⟨rfl, k2⟩
    clear d0 d1 d2 g0 g1 g2 lx
    replace BL := Lib.hid (step BL.out k2)
    replace PL := Lib.hid (PL.out.on k2)
    replace X := Lib.hid (X.out.on k2)
    clear k2
    obtain ⟨⟨d0, d1, d2⟩, g0, g1, g2⟩ := X.out
    have lx := X.out.lt
    go_wp2_with fail
    refine (spec_KeptLetters _ b p a n c S PL.out.ps PL.out.pf hn2 a2 L.length c2 (nI L) (nC L) PL.out.ls PL.out.lf hm2).mono ?_
    rw [HK.out]
    rintro e v3 ⟨rfl, k3⟩
    clear d0 d1 d2 g0 g1 g2 lx
    replace BL := Lib.hid (step BL.out k3)
    replace PL := Lib.hid (PL.out.on k3)
    replace X := Lib.hid (X.out.on k3)
    clear k3
    obtain ⟨⟨d0, d1, d2⟩, g0, g1, g2⟩ := X.out
    have lx := X.out.lt
    go_wp2_with fail
    refine (spec_MovedLetters _ b p a n c S PL.out.ps PL.out.pf hn2 a2 L.length c2 (nI L) (nC L) PL.out.ls PL.out.lf hm2).mono ?_
    rw [HM.out]
    rintro e v4 ⟨rfl, k4⟩
    clear d0 d1 d2 g0 g1 g2 lx
    replace BL := Lib.hid (step BL.out k4)
    replace PL := Lib.hid (PL.out.on k4)
    replace X := Lib.hid (X.out.on k4)
    clear k4
    obtain ⟨⟨d0, d1, d2⟩, g0, g1, g2⟩ := X.out
    have lx := X.out.lt
    go_wp2_with fail
    refine (impl_InOrder _ b p a n c S PL.out.ps PL.out.pf hn2 a2 L.length c2 (nI L) (nC L) PL.out.ls PL.out.lf).mono ?_
    rw [HIO.out]
    rintro e v5 ⟨rfl, k5⟩
    clear d0 d1 d2 g0 g1 g2 lx
    replace BL := Lib.hid (step BL.out k5)
    replace PL := Lib.hid (PL.out.on k5)
    replace X := Lib.hid (X.out.on k5)
    clear k5
    obtain ⟨⟨d0, d1, d2⟩, g0, g1, g2⟩ := X.out
    have lx := X.out.lt
    have hzz : (z != z) = false := by cases z <;> rfl
    go_wp2
    go_loopw [7] (fun i wr => ∃ (j : Nat), j ≤ L.length ∧ i = .int .i64 j ∧ Hid (Below v5.heap.size v5 wr)) (fun i _ => L.length - (intOf i).toNat)
    case atStart => exact ⟨0, Nat.zero_le _, rfl, Below.refl _ _⟩
    case round =>
      obtain ⟨j, hj, rfl, hbw⟩ := hrel
      have X2 := Lib.hid (X.out.on hbw.out)
      have PL2 := Lib.hid (PL.out.on hbw.out)
      clear d0 d1 d2 g0 g1 g2 lx
      obtain ⟨⟨d0, d1, d2⟩, g0, g1, g2⟩ := X2.out
      have lx := X2.out.lt
      by_cases hlt : j < L.length
      · have hji : (j : Int) < (L.length : Int) := by omega
        have hls := PL2.out.ls
        obtain ⟨bb, oo, ha2, _⟩ := hls j hlt
        subst ha2
        have hh := lets_head bb oo L.length c2 j (by omega) HCP.out
        obtain ⟨a', ht, hF⟩ := lets_tail bb oo L.length c2 j hlt HCP.out
        have HT := Lib.hid (hF wr (nI L) (nC L) hls)
        have HH : Hid (Lts wr (some ⟨bb, oo, none⟩) j (nI L) (nC L)) := fun i hi => hls i (by omega)
        obtain ⟨ad, had⟩ := lets_addr bb oo L.length c2 j hlt HCP.out a' ht
        subst had
        have hwr : IntKind.i64.wrap ((j : Int) + 1) = (j : Int) + 1 := IntWalk.i64_in _ (by omega)
        obtain ⟨hbR, k, hkR, k1, k2⟩ := HONE.out j hlt
        have HFR := Lib.hid hbR.fits
        have hlR := hbR.2.2
        have HKR := Lib.hid hkR
        have hrl := rest_list (nI L) (nC L) L.length j hlt
        rw [lst_nI] at hrl
        obtain ⟨R, hR⟩ : ∃ R, L.take j ++ L.drop (j + 1) = R := ⟨_, rfl⟩
        rw [hR] at HFR HKR hrl hlR
        have HRL := Lib.hid hrl
        have HR0 := Lib.hid (one_row wr)
        clear hls hF hbR hkR hR hrl
        go_wp2_with fail
        go_region_law (first
          | (refine step_append_lts _ rfl _ _ rfl wr.heap.size (.slice (some ⟨wr.heap.size, 0, none⟩) 0 0) [] ?hs ?hrow (some ⟨bb, oo, none⟩) j c2 (nI L) (nC L) ?hx ?hu (fun _ => ⟨_, rfl⟩) ?hl ?hb ?hK; (case hs => simp [Act.eval]); (case hx => simp [Act.eval]); (case hrow => exact HR0.out.on (by go_grown)); (case hu => exact HH.out.on (by go_grown)); (case hl => (simp; omega)); (case hb => simp); intro x1 w1 r1 gr1 ho1; have K1 : Below wr.heap.size wr w1 := ((below_alloc0 wr _).drew).grown gr1 (by simp) (fun q e => by simp [Value.ownBlock] at e; omega))
          | (refine step_append_lts _ rfl _ _ rfl wr.heap.size x1 ([] ++ M.lst (nI L) (nC L) j) ?hs2 r1 (some ad) (L.length - (j + 1)) (c2 - (j + 1)) (fun i => nI L (j + 1 + i)) (fun i => nC L (j + 1 + i)) ?hx2 (HT.out.on K1) (fun _ => ⟨_, rfl⟩) ?hl2 ?hb2 ?_; (case hs2 => simp [Act.eval]); (case hx2 => simp [Act.eval]); (case hl2 => (rw [List.nil_append, lst_len]; omega)); (case hb2 => exact K1.size); intro x2 w2 r2 gr2 ho2; have K2 : Below wr.heap.size wr w2 := K1.grown gr2 K1.size (fun q e => (r1.lt q e).1)))
        rw [List.nil_append, HRL.out] at r2
        obtain ⟨a9, c9, e9, _, l9⟩ := r2.form
        subst e9
        have L9 := Lib.hid l9
        have X3 := Lib.hid (X2.out.on K2)
        have PL3 := Lib.hid (PL2.out.on K2)
        have B3 := Lib.hid (step hbw.out K2)
        clear r1 r2 gr1 gr2 ho1 ho2 K1 K2 l9 X2 PL2 HT HH HR0 HRL d0 d1 d2 g0 g1 g2 lx
        obtain ⟨⟨d0, d1, d2⟩, g0, g1, g2⟩ := X3.out
        have lx := X3.out.lt
        go_wp2_with fail
        refine (impl_KeptLetters w2 b p a n c S PL3.out.ps PL3.out.pf hn2 a9 R.length c9 (nI R) (nC R) L9.out HFR.out).mono ?_
        rw [HKR.out]
        rintro e w3 ⟨rfl, k3⟩
        have B4 := Lib.hid (step B3.out k3)
        clear B3 k3 HKR X3 PL3 d0 d1 d2 g0 g1 g2 lx
        by_cases hk : k = st
        · subst hk
          go_wp2
          go_roundw
          case rel => exact ⟨j + 1, by omega, by go_num, B4.out⟩
          case measure => simp [intOf]; omega
        · have hwk : IntKind.i64.wrap ((st : Int) - 1) = (k : Int) := (IntWalk.i64_in _ (by omega)).trans (by omega)
          have hk3 : ((k : Int) == (st : Int)) = false := by rw [beq_eq_false_iff_ne]; omega
          have hk4 : ((k : Int) != (st : Int)) = true := by simp [bne, hk3]
          go_wp2
          go_roundw
          case rel => exact ⟨j + 1, by omega, by go_num, B4.out⟩
          case measure => simp [intOf]; omega
      · obtain rfl : j = L.length := by omega
        go_wp2_with fail
        refine (impl_RunPlan wr b p a n c S PL2.out.ps PL2.out.pf hn2 a2 L.length c2 (nI L) (nC L) PL2.out.ls PL2.out.lf hm2).mono ?_
        rw [HOK.out, HL1.out]
        rintro e w1 ⟨p1, p2, rfl, r1, r2, _, k1⟩
        obtain ⟨a4, c4, rfl, _, l4⟩ := r1.form
        obtain ⟨a5, c5, rfl, _, _⟩ := r2.form
        have L4 := Lib.hid l4
        have X3 := Lib.hid (X2.out.on k1)
        have PL3 := Lib.hid (PL2.out.on k1)
        have B3 := Lib.hid (step hbw.out k1)
        clear r1 r2 l4 k1 X2 PL2 d0 d1 d2 g0 g1 g2 lx
        obtain ⟨⟨d0, d1, d2⟩, g0, g1, g2⟩ := X3.out
        have lx := X3.out.lt
        go_wp2_with fail
        refine (impl_KeptLetters w1 b p a n c S PL3.out.ps PL3.out.pf hn2 a4 R1.length c4 (nI R1) (nC R1) L4.out HSR.out.fits).mono ?_
        rw [HKS.out]
        rintro e w2 ⟨rfl, k2⟩
        have B4 := Lib.hid (step B3.out k2)
        clear B3 k2 X3 PL3 d0 d1 d2 g0 g1 g2 lx
        go_wp2
        go_ret
        exact ⟨rfl, step BL.out B4.out⟩

set_option maxRecDepth 100000 in
theorem lifted (os : Os) (started : os.Started) (H : Type) (enc : TypeId × Value → H) :
    ReturnsInHanded {} Try.checked os 9 .any (Rows.fnKeptSpec.pre6 enc Try.prog Try.f9 Rows.fnKeptRow.domain false) (Rows.fnKeptSpec.post enc Try.prog Try.f9 false true false false) := by
  refine returnsInHanded_of_change (C := Try.checked) own started (by kernel_rfl) Try.func9
    (ChangeSpec.witness6 (enc := enc) (C := Try.checked) false ⟨#[], #[.slice none 0 0], []⟩ 8 (by kernel_rfl) (by kernel_rfl) (by kernel_rfl) (by kernel_rfl)) ?_
  intro W base args ds gs before hval0 hW hcnd _
  have hval : ∀ (j : Nat) t v, Try.f9.params[j]? = some t → args[j]? = some v → Value.okWide Try.prog W .any base t v := hval0
  have hW' := hW
  obtain ⟨p, q, hA0, hV, rfl, hfz, hnd⟩ := hW
  have hA : DataW.TrodAll enc Try.prog W 0 (fun _ => true) true Try.f9.params.toList args.toList ds p := hA0
  rw [Try.params9] at hA hval
  obtain ⟨v0, vs0, d0, ds0, p0, q0, hargs, rfl, rfl, h0, r0⟩ := trodAll_cons hA
  obtain ⟨rfl, rfl, rfl⟩ := trodAll_nil r0
  obtain rfl : args = #[v0] := by cases args; simp_all
  obtain ⟨rfl, rfl⟩ := trodVars_none hV
  have g0 := h0
  have lt0 : ∀ x ∈ p0, x.block < W.heap.size := by obtain ⟨m, hm⟩ := g0; exact DataW.trod_lt m _ _ _ hm
  obtain ⟨a0, l0, k0, rfl⟩ := okWide_slice Try.underlying22 (hval 0 22 v0 rfl rfl)
  obtain ⟨z0, w0⟩ : ∃ zs, IsRow .u8 W a0 l0 k0 zs := by
    obtain ⟨fuel, hf⟩ := h0
    rcases open_ints Try.underlying22 Try.underlying5 (by kernel_rfl) hf with ⟨hcs, _⟩ | ⟨x, l, c, zs, hcs, _, hl, hm, hz, _, hcell, hwz⟩
    · simp [Value.cells] at hcs
      obtain ⟨rfl, rfl, rfl⟩ := hcs
      exact ⟨[], .inl ⟨rfl, rfl, rfl, rfl⟩⟩
    · simp [Value.cells] at hcs
      obtain ⟨rfl, rfl, rfl⟩ := hcs
      exact ⟨zs, .inr ⟨_, rfl, hl, hm, by simpa using hz, hcell, hwz⟩⟩
  clear hA0 hval0
  refine (walk W a0 l0 k0 z0 w0).mono fun e W' ⟨he, bel⟩ => ?_
  subst he
  exact ⟨_, rfl, _, _, _, [], _, [], hW', trodAll_mk1 (shut_bool Try.underlying4 _), (trodAll_cons_mk (Below.trod laidOut (by kernel_rfl) (of_decide_eq_true (by kernel_rfl)) g0 bel lt0) trodAll_mk0), rfl, bel.frame _, fun h => by cases h⟩

theorem proved : Rows.FnKeptSaid :=
  OpenClaim.holds_of_wide 9 Try.f9 rfl rfl rfl rfl rfl rfl rfl ⟨rfl, rfl, rfl, rfl, rfl⟩ rfl rfl rfl rfl rfl (by kernel_rfl) Try.func9 (by kernel_rfl)
    (of_decide_eq_true (by kernel_rfl)) (by unfold Func.isWrapper; first | (rw [if_pos (by decide +kernel)]; kernel_rfl) | (rw [if_neg (by decide +kernel)]; exact ⟨rfl, rfl⟩))
    (fun os started H enc _ => lifted os started H enc)
#print axioms proved
end Go.Proofs.Ytbcoklognedffaa.fnKept
