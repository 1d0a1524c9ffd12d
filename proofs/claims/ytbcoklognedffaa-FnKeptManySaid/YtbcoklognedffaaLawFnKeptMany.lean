/-
  For every slice of bytes, laws.FnKeptMany returns true.
-/
import Derived.Test.YtbcoklognedffaaRows
import Derived.Test.YtbcoklognedffaaDrawX
import Derived.Test.YtbcoklognedffaaRadN
import Derived.Test.YtbcoklognedffaaKeptA
import Derived.Test.YtbcoklognedffaaKept
import Derived.Test.YtbcoklognedffaaRest
import Derived.WalkKit
import Derived.ProofKit
import Derived.OpenShut
import Derived.ShutString
import Derived.ChangeOld
import Derived.Below
import Derived.Handy
import Derived.Lib.Hide
namespace Go.Proofs.Ytbcoklognedffaa.fnKeptMany
open Go.ChangeShapes Go.WideShapes Go.ChangeAt Go.RowKit
open Go.ChangeMaps (open_string shut_string)
open Go.PlainAid (bt get_bt bt_nonneg bt_le)
set_option linter.unusedVariables false

theorem own : ownKnob Try.prog.godebug = none := by kernel_rfl
theorem laidOut : laidOutB Try.prog = true := by kernel_rfl

set_option maxHeartbeats 40000000 in
set_option maxRecDepth 100000 in
theorem walk (w : World) (a0 : Option Addr) (l0 k0 : Nat) (z0 : List Int) (w0 : IsRow .u8 w a0 l0 k0 z0) :
    Calls Try.prog 10 #[.slice a0 l0 k0] w fun e w' => e = .returned (.bool true) ∧ Below w.heap.size w w' := by
  by_cases hl : 1048576 < l0
  · go_enter Try.func10, Try.ntmps10
    go_wp2
    go_ret
    exact ⟨rfl, Below.refl _ _⟩
  go_enter Try.func10, Try.ntmps10
  go_wp2_with fail
  refine (DrawMovedLetters_any a0 l0 k0 z0 w w0).mono ?_
  rintro e u ⟨b, p, a, n, c, S, a2, m, c2, I, C, rfl, hpl, bl, hcp⟩
  have HCP := Lib.hid hcp
  clear hcp
  obtain ⟨L, hmL, hpl2⟩ := hpl.list
  subst hmL
  clear hpl
  have hpl := hpl2
  clear hpl2
  have ba := below_alloc0 u (.cells #[.int .i64 b, .int .i64 p, .slice a n c] 25)
  have PL := Lib.hid (hpl.on ba)
  have X := Lib.hid (tri_made u (.int .i64 b) (.int .i64 p) (.slice a n c) 25)
  have BL := Lib.hid (step bl ba)
  obtain ⟨v0, hv0⟩ : ∃ v0, u.alloc (.cells #[.int .i64 b, .int .i64 p, .slice a n c] 25) = v0 := ⟨_, rfl⟩
  rw [hv0] at PL X BL
  have HV0 := Lib.hid hv0
  have hn := PL.out.pn
  have hm := PL.out.ln
  have hn2 : n ≤ 1048576 := by omega
  have hm2 : L.length ≤ 1048576 := by omega
  clear hpl bl ba hv0
  obtain ⟨mv, hmv⟩ : ∃ o, M.moved b p n S L.length (nI L) (nC L) = o := ⟨_, rfl⟩
  have HM := Lib.hid hmv
  cases hok : runOk b p n S L.length (nI L) (nC L)
  · have hk1 : M.kept b p n S L.length (nI L) (nC L) = -1 := M.kept_no hok
    have hm1 : mv = -1 := by
      rw [← hmv]
      unfold M.moved
      rw [hk1, if_pos (by omega)]
    subst hm1
    clear hmv hok hk1
    obtain ⟨⟨d0, d1, d2⟩, g0, g1, g2⟩ := X.out
    have lx := X.out.lt
    go_wp2_with fail
    rw [HV0.out]
    refine (impl_MovedLetters _ b p a n c S PL.out.ps PL.out.pf hn2 a2 L.length c2 (nI L) (nC L) PL.out.ls PL.out.lf hm2).mono ?_
    rw [HM.out]
    rintro e v1 ⟨rfl, k1⟩
    clear d0 d1 d2 g0 g1 g2 lx
    replace BL := Lib.hid (step BL.out k1)
    replace PL := Lib.hid (PL.out.on k1)
    replace X := Lib.hid (X.out.on k1)
    clear k1
    obtain ⟨⟨d0, d1, d2⟩, g0, g1, g2⟩ := X.out
    have lx := X.out.lt
    go_wp2_with fail
    refine (spec_MovedLetters _ b p a n c S PL.out.ps PL.out.pf hn2 a2 L.length c2 (nI L) (nC L) PL.out.ls PL.out.lf hm2).mono ?_
    rw [HM.out]
    rintro e v2 ⟨rfl, k2⟩
    clear d0 d1 d2 g0 g1 g2 lx
    replace BL := Lib.hid (step BL.out k2)
    replace PL := Lib.hid (PL.out.on k2)
    replace X := Lib.hid (X.out.on k2)
    clear k2
    obtain ⟨⟨d0, d1, d2⟩, g0, g1, g2⟩ := X.out
    have lx := X.out.lt
    go_wp2_with fail
    refine (spec_MovedLetters _ b p a n c S PL.out.ps PL.out.pf hn2 a2 L.length c2 (nI L) (nC L) PL.out.ls PL.out.lf hm2).mono ?_
    rw [HM.out]
    rintro e v3 ⟨rfl, k3⟩
    clear d0 d1 d2 g0 g1 g2 lx
    replace BL := Lib.hid (step BL.out k3)
    replace PL := Lib.hid (PL.out.on k3)
    replace X := Lib.hid (X.out.on k3)
    clear k3
    obtain ⟨⟨d0, d1, d2⟩, g0, g1, g2⟩ := X.out
    have lx := X.out.lt
    go_wp2
    go_ret
    exact ⟨rfl, BL.out⟩
  · obtain ⟨hp, hb⟩ := runOk_yes hok
    have hbl := (batchL_list L).1 hb
    have h60 := hbl.2.2
    have hm1 := moved_stay (n := n) (S := S) (b := b) (p := p) hp hbl
    rw [hmv] at hm1
    have hsl := stay_le n S L
    obtain ⟨st, hst⟩ : ∃ k, stay n S L = k := ⟨_, rfl⟩
    rw [hst] at hm1 hsl
    have HBL := Lib.hid hbl
    have HST := Lib.hid hst
    have HP := Lib.hid hp
    have hm0 : 0 ≤ mv := by omega
    have HMV := Lib.hid hm1
    clear hok hp hb hbl hm1 hst hmv
    obtain ⟨⟨d0, d1, d2⟩, g0, g1, g2⟩ := X.out
    have lx := X.out.lt
    go_wp2_with fail
    rw [HV0.out]
    refine (impl_MovedLetters _ b p a n c S PL.out.ps PL.out.pf hn2 a2 L.length c2 (nI L) (nC L) PL.out.ls PL.out.lf hm2).mono ?_
    rw [HM.out]
    rintro e v1 ⟨rfl, k1⟩
    clear d0 d1 d2 g0 g1 g2 lx
    replace BL := Lib.hid (step BL.out k1)
    replace PL := Lib.hid (PL.out.on k1)
    replace X := Lib.hid (X.out.on k1)
    clear k1
    obtain ⟨⟨d0, d1, d2⟩, g0, g1, g2⟩ := X.out
    have lx := X.out.lt
    go_wp2_with fail
    refine (spec_MovedLetters _ b p a n c S PL.out.ps PL.out.pf hn2 a2 L.length c2 (nI L) (nC L) PL.out.ls PL.out.lf hm2).mono ?_
    rw [HM.out]
    rintro e v2 ⟨rfl, k2⟩
    clear d0 d1 d2 g0 g1 g2 lx
    replace BL := Lib.hid (step BL.out k2)
    replace PL := Lib.hid (PL.out.on k2)
    replace X := Lib.hid (X.out.on k2)
    clear k2
    obtain ⟨⟨d0, d1, d2⟩, g0, g1, g2⟩ := X.out
    have lx := X.out.lt
    go_wp2_with (at_builtin; refine wpList_append_lts _ rfl _ _ rfl v2.heap.size (.slice (some ⟨v2.heap.size, 0, none⟩) 0 0) [] rfl (one_row v2) a2 L.length c2 (nI L) (nC L) rfl (PL.out.ls.on (by go_grown)) (by simp; omega) (by simp) ?_)
    intro xv w5 r5 gr5 ho5
    rw [lst_nI] at r5
    have B5 : Below v2.heap.size v2 w5 := (below_alloc0 v2 _).grown gr5 (by simp) (fun q e => by simp [Value.ownBlock] at e; omega)
    obtain ⟨a5, c5, e5, hc5, l5⟩ := r5.form
    subst e5
    have LX0 := Lib.hid l5
    have X5 := Lib.hid (X.out.on B5)
    have PL5 := Lib.hid (PL.out.on B5)
    have BL5 := Lib.hid (step BL.out B5)
    have HC5 := Lib.hid hc5
    have HN0 := Lib.hid (need_none n S L st)
    clear d0 d1 d2 g0 g1 g2 lx X PL BL r5 gr5 ho5 B5 l5 hc5
    go_wp2
    go_loopw [6, 7] (fun x i wr => ∃ (XL : List (Int × ByteArray)) (j : Nat) (ax : Option Addr) (cx : Nat), j ≤ XL.length ∧ i = .int .i64 j ∧ x = .slice ax XL.length cx ∧ Hid (XL.length ≤ cx) ∧ Hid (BatchL XL) ∧ Hid (stay n S XL = st) ∧ Hid (Need n S XL st j) ∧ Hid (Lts wr ax XL.length (nI XL) (nC XL)) ∧ Hid (Below w5.heap.size w5 wr)) (fun x i _ => 2 * lenOf x - (intOf i).toNat)
    case atStart => exact ⟨L, 0, a5, c5, Nat.zero_le _, rfl, rfl, HC5, HBL, HST, HN0, LX0, Below.refl _ _⟩
    case round =>
      obtain ⟨XL, j, ax, cx, hj, rfl, rfl, hcx, hbx, hsx, hnx, hlx, hbw⟩ := hrel
      have X2 := Lib.hid (X5.out.on hbw.out)
      have PL2 := Lib.hid (PL5.out.on hbw.out)
      have hx60 := hbx.out.2.2
      have HMX := Lib.hid (moved_stay (n := n) (S := S) (b := b) (p := p) HP.out hbx.out)
      have hsle := stay_le n S XL
      rw [hsx.out] at hsle
      rw [Hid, hsx.out] at HMX
      obtain ⟨mx, hmx⟩ : ∃ o, M.moved b p n S XL.length (nI XL) (nC XL) = o := ⟨_, rfl⟩
      rw [hmx] at HMX
      have HMX1 := Lib.hid hmx
      have HMX2 := Lib.hid HMX
      clear HMX hmx
      by_cases hlt : j < XL.length
      · have hji : (j : Int) < (XL.length : Int) := by omega
        have hls := hlx.out
        obtain ⟨bb, oo, ha2, _⟩ := hls j hlt
        subst ha2
        have hh := lets_head bb oo XL.length cx j (by omega) hcx.out
        obtain ⟨a', ht, hF⟩ := lets_tail bb oo XL.length cx j hlt hcx.out
        have HT := Lib.hid (hF wr (nI XL) (nC XL) hls)
        have HH : Hid (Lts wr (some ⟨bb, oo, none⟩) j (nI XL) (nC XL)) := fun i hi => hls i (by omega)
        obtain ⟨ad, had⟩ := lets_addr bb oo XL.length cx j hlt hcx.out a' ht
        subst had
        have hwr : IntKind.i64.wrap ((j : Int) + 1) = (j : Int) + 1 := IntWalk.i64_in _ (by omega)
        have hbR := hbx.out.sub (sub_one XL j)
        have hmR := moved_stay (n := n) (S := S) (b := b) (p := p) HP.out hbR
        have hone := stay_one (n := n) (S := S) hlt
        rw [hsx.out] at hone
        have hrl0 := rest_len XL hlt
        have HND := Lib.hid (need_drop hnx.out hlt)
        have HNN := Lib.hid (fun h => need_next hnx.out (i := j) h)
        have hrl := rest_list (nI XL) (nC XL) XL.length j hlt
        rw [lst_nI] at hrl
        obtain ⟨R, hR⟩ : ∃ R, XL.take j ++ XL.drop (j + 1) = R := ⟨_, rfl⟩
        rw [hR] at hbR hmR hone hrl0 HND HNN hrl
        obtain ⟨kr, hkr⟩ : ∃ k, stay n S R = k := ⟨_, rfl⟩
        rw [hkr] at hmR hone HNN
        have HKR := Lib.hid hkr
        obtain ⟨mr, hmr⟩ : ∃ o, M.moved b p n S R.length (nI R) (nC R) = o := ⟨_, rfl⟩
        rw [hmr] at hmR
        have HMR := Lib.hid hmr
        have HMR2 := Lib.hid hmR
        have HRL := Lib.hid hrl
        have HRB := Lib.hid hbR
        have HFR := Lib.hid hbR.fits
        have hR60 : R.length ≤ 1048576 := by omega
        have hX60 : XL.length ≤ 1048576 := by omega
        have HFX := Lib.hid hbx.out.fits
        have HR0 := Lib.hid (one_row wr)
        have HRL0 := Lib.hid hrl0
        have HONE := Lib.hid hone
        clear hls hF hbR hmR hkr hmr hR hrl hrl0 hone
        go_wp2_with fail
        go_region_law (first
          | (refine step_append_lts _ rfl _ _ rfl wr.heap.size (.slice (some ⟨wr.heap.size, 0, none⟩) 0 0) [] ?hs ?hrow (some ⟨bb, oo, none⟩) j cx (nI XL) (nC XL) ?hx ?hu (fun _ => ⟨_, rfl⟩) ?hl ?hb ?hK; (case hs => simp [Act.eval]); (case hx => simp [Act.eval]); (case hrow => exact HR0.out.on (by go_grown)); (case hu => exact HH.out.on (by go_grown)); (case hl => (simp; omega)); (case hb => simp); intro x1 w1 r1 gr1 ho1; have K1 : Below wr.heap.size wr w1 := ((below_alloc0 wr _).drew).grown gr1 (by simp) (fun q e => by simp [Value.ownBlock] at e; omega))
          | (refine step_append_lts _ rfl _ _ rfl wr.heap.size x1 ([] ++ M.lst (nI XL) (nC XL) j) ?hs2 r1 (some ad) (XL.length - (j + 1)) (cx - (j + 1)) (fun i => nI XL (j + 1 + i)) (fun i => nC XL (j + 1 + i)) ?hx2 (HT.out.on K1) (fun _ => ⟨_, rfl⟩) ?hl2 ?hb2 ?_; (case hs2 => simp [Act.eval]); (case hx2 => simp [Act.eval]); (case hl2 => (rw [List.nil_append, lst_len]; omega)); (case hb2 => exact K1.size); intro x2 w2 r2 gr2 ho2; have K2 : Below wr.heap.size wr w2 := K1.grown gr2 K1.size (fun q e => (r1.lt q e).1)))
        rw [List.nil_append, HRL.out] at r2
        obtain ⟨a9, c9, e9, hc9, l9⟩ := r2.form
        subst e9
        have L9 := Lib.hid l9
        have HC9 := Lib.hid hc9
        have X3 := Lib.hid (X2.out.on K2)
        have PL3 := Lib.hid (PL2.out.on K2)
        have B3 := Lib.hid (step hbw.out K2)
        have LX3 := Lib.hid (hlx.out.on K2)
        clear r1 r2 gr1 gr2 ho1 ho2 K1 K2 l9 hc9 X2 PL2 HT HH HR0 HRL hh ht hwr
        obtain ⟨⟨d0, d1, d2⟩, g0, g1, g2⟩ := X3.out
        have lx := X3.out.lt
        go_wp2_with fail
        go_region_held3 (fun w' => w'.cell? ⟨u.heap.size, 0, none⟩ = some (.int .i64 b) ∧ w'.cell? ⟨u.heap.size, 1, none⟩ = some (.int .i64 p) ∧ w'.cell? ⟨u.heap.size, 2, none⟩ = some (.slice a n c)) (go_keep) (first
          | (go_at_call 44; have hK7 := K7; clear hK7; refine (impl_MovedLetters _ b p a n c S ((PL3.out.ps.on K7).on (by go_grown)) PL3.out.pf hn2 (some ⟨bb, oo, none⟩) XL.length cx (nI XL) (nC XL) ((LX3.out.on K7).on (by go_grown)) HFX.out hX60).mono ?_; rw [HMX1.out]; rintro e w8 ⟨rfl, k8⟩; have K8 : Below w2.heap.size w2 w8 := (by exact sstep (sstep K7 (by go_grown)) k8); have X8 := Lib.hid (X3.out.on K8); obtain ⟨⟨e3, e4, e5⟩, _⟩ := X8.out)
          | (go_at_call 44; refine (impl_MovedLetters _ b p a n c S (PL3.out.ps.on (by go_grown)) PL3.out.pf hn2 a9 R.length c9 (nI R) (nC R) (L9.out.on (by go_grown)) HFR.out hR60).mono ?_; rw [HMR.out]; rintro e w7 ⟨rfl, k7⟩; have K7 : Below w2.heap.size w2 w7 := (by exact sstep (by go_grown) k7); have X7 := Lib.hid (X3.out.on K7); obtain ⟨⟨e0, e1, e2⟩, _⟩ := X7.out))
        have B9 := Lib.hid (step B3.out K8)
        have L10 := Lib.hid (L9.out.on K8)
        have LX10 := Lib.hid (LX3.out.on K8)
        have h1 := HMR2.out
        have h2 := HMX2.out
        have h3 := HONE.out
        have h4 := HRL0.out
        clear k7 k8 K7 K8 X7 X8 e0 e1 e2 e3 e4 e5 X3 PL3 B3 L9 LX3 d0 d1 d2 g0 g1 g2 lx HMR2 HMX2 HONE HRL0
        by_cases hc : mr < mx
        · have hks : kr = st := by omega
          have hjr : j ≤ R.length := by omega
          have hme : R.length < XL.length := by omega
          have HSR : Hid (stay n S R = st) := HKR.out.trans hks
          clear h1 h2 h3 h4 hks
          go_wp2
          go_roundw
          case rel => exact ⟨R, j, a9, c9, hjr, rfl, rfl, HC9, HRB, HSR, HND, L10, B9⟩
          case measure => simp [intOf, lenOf]; omega
        · have hks : kr < st := by omega
          have HN2 := Lib.hid (HNN.out hks)
          clear h1 h2 h3 h4 hks
          go_wp2
          go_roundw
          case rel => exact ⟨XL, j + 1, some ⟨bb, oo, none⟩, cx, by omega, by go_num, rfl, hcx, hbx, hsx, HN2, LX10, B9⟩
          case measure => simp [intOf, lenOf]; omega
      · obtain rfl : j = XL.length := by omega
        have hall := need_all hnx.out hsx.out
        have HIO := Lib.hid (in_order (b := b) (p := p) HP.out hbx.out (hsx.out.trans hall))
        have hmv2 := HMV.out
        have hws : IntKind.i64.wrap ((L.length : Int) - mv) = (XL.length : Int) := (IntWalk.i64_in _ (by omega)).trans (by omega)
        clear hall hmv2
        obtain ⟨⟨d0, d1, d2⟩, g0, g1, g2⟩ := X2.out
        have lx := X2.out.lt
        go_wp2_with fail
        refine (impl_InOrder wr b p a n c S PL2.out.ps PL2.out.pf hn2 ax XL.length cx (nI XL) (nC XL) hlx.out hbx.out.fits).mono ?_
        rw [HIO.out]
        rintro e w3 ⟨rfl, k3⟩
        clear d0 d1 d2 g0 g1 g2 lx hws
        go_wp2
        go_ret
        exact ⟨rfl, sstep (step BL5.out hbw.out) k3⟩

set_option maxRecDepth 100000 in
theorem lifted (os : Os) (started : os.Started) (H : Type) (enc : TypeId × Value → H) :
    ReturnsInHanded {} Try.checked os 10 .any (Rows.fnKeptManySpec.pre6 enc Try.prog Try.f10 Rows.fnKeptManyRow.domain false) (Rows.fnKeptManySpec.post enc Try.prog Try.f10 false true false false) := by
  refine returnsInHanded_of_change (C := Try.checked) own started (by kernel_rfl) Try.func10
    (ChangeSpec.witness6 (enc := enc) (C := Try.checked) false ⟨#[], #[.slice none 0 0], []⟩ 8 (by kernel_rfl) (by kernel_rfl) (by kernel_rfl) (by kernel_rfl)) ?_
  intro W base args ds gs before hval0 hW hcnd _
  have hval : ∀ (j : Nat) t v, Try.f10.params[j]? = some t → args[j]? = some v → Value.okWide Try.prog W .any base t v := hval0
  have hW' := hW
  obtain ⟨p, q, hA0, hV, rfl, hfz, hnd⟩ := hW
  have hA : DataW.TrodAll enc Try.prog W 0 (fun _ => true) true Try.f10.params.toList args.toList ds p := hA0
  rw [Try.params10] at hA hval
  obtain ⟨v0, vs0, d0, ds0, p0, q0, hargs, rfl, rfl, h0, r0⟩ := trodAll_cons hA
  obtain ⟨rfl, rfl, rfl⟩ := trodAll_nil r0
  obtain rfl : args = #[v0] := by cases args; simp_all
  obtain ⟨rfl, rfl⟩ := trodVars_none hV
  have g0 := h0
  have lt0 : ∀ x ∈ p0, x.block < W.heap.size := by obtain ⟨m, hm⟩ := g0; exact DataW.trod_lt m _ _ _ hm
  obtain ⟨a0, l0, k0, rfl⟩ := okWide_slice Try.underlying22 (hval 0 22 v0 rfl rfl)
  obtain ⟨z0, w0⟩ : ∃ zs, IsRow .u8 W a0 l0 k0 zs := by
    obtain ⟨fuel, hf⟩ := h0
    rcases open_ints Try.underlying22 Try.underlying5 (by kernel_rfl) hf with ⟨hcs, _⟩ | ⟨x, l, c, zs, hcs, _, hl, hm, hz, _, hcell, hwz⟩
    · simp [Value.cells] at hcs
      obtain ⟨rfl, rfl, rfl⟩ := hcs
      exact ⟨[], .inl ⟨rfl, rfl, rfl, rfl⟩⟩
    · simp [Value.cells] at hcs
      obtain ⟨rfl, rfl, rfl⟩ := hcs
      exact ⟨zs, .inr ⟨_, rfl, hl, hm, by simpa using hz, hcell, hwz⟩⟩
  clear hA0 hval0
  refine (walk W a0 l0 k0 z0 w0).mono fun e W' ⟨he, bel⟩ => ?_
  subst he
  exact ⟨_, rfl, _, _, _, [], _, [], hW', trodAll_mk1 (shut_bool Try.underlying4 _), (trodAll_cons_mk (Below.trod laidOut (by kernel_rfl) (of_decide_eq_true (by kernel_rfl)) g0 bel lt0) trodAll_mk0), rfl, bel.frame _, fun h => by cases h⟩

theorem proved : Rows.FnKeptManySaid :=
  OpenClaim.holds_of_wide 10 Try.f10 rfl rfl rfl rfl rfl rfl rfl ⟨rfl, rfl, rfl, rfl, rfl⟩ rfl rfl rfl rfl rfl (by kernel_rfl) Try.func10 (by kernel_rfl)
    (of_decide_eq_true (by kernel_rfl)) (by unfold Func.isWrapper; first | (rw [if_pos (by decide +kernel)]; kernel_rfl) | (rw [if_neg (by decide +kernel)]; exact ⟨rfl, rfl⟩))
    (fun os started H enc _ => lifted os started H enc)
#print axioms proved
end Go.Proofs.Ytbcoklognedffaa.fnKeptMany
