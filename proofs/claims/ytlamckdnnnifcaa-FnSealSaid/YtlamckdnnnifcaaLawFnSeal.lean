/-
  For every slice of bytes, laws.FnSeal returns true.
-/
import Derived.Test.YtlamckdnnnifcaaRows
import Derived.Test.YtlamckdnnnifcaaSealD
import Derived.Deep.RegionLaw
import Derived.BigQuiet
import Derived.WalkKit
import Derived.ProofKit
import Derived.OpenShut
import Derived.ShutString
import Derived.ChangeOld
import Derived.Below
import Derived.Handy
import Derived.Lib.Hide
namespace Go.Proofs.Ytlamckdnnnifcaa.fnSeal
open Go.ChangeShapes Go.WideShapes Go.ChangeAt Go.RowKit
open Go.ChangeMaps (open_string shut_string)
open Go.PlainAid (bt get_bt bt_nonneg bt_le)
set_option linter.unusedVariables false

theorem own : ownKnob Try.prog.godebug = none := by kernel_rfl
theorem laidOut : laidOutB Try.prog = true := by kernel_rfl

set_option maxHeartbeats 40000000 in
set_option maxRecDepth 100000 in
theorem walk (w : World) (a0 : Option Addr) (l0 k0 : Nat) (z0 : List Int) (w0 : IsRow .u8 w a0 l0 k0 z0) :
    Calls Try.prog 5 #[.slice a0 l0 k0] w fun e w' => e = .returned (.bool true) ∧ Below w.heap.size w w' := by
  by_cases hl : 1048576 < l0
  · go_enter Try.func5, Try.ntmps5
    go_wp2
    go_ret
    exact ⟨rfl, Below.refl _ _⟩
  go_enter Try.func5, Try.ntmps5
  go_wp2_with fail
  refine (DrawSealOf_row a0 l0 k0 z0 w w0).mono ?_
  rintro e u ⟨v, base, L, rfl, hrow, hn, hfi, bl⟩
  obtain ⟨a, c, hv, hcap, hlt⟩ := hrow.form
  subst hv
  have LT := Lib.hid hlt
  have FI : Hid (Fits L.length (nI L) (nC L)) := hfi
  have BL := Lib.hid bl
  have hn2 : L.length ≤ 1048576 := by omega
  clear hrow hfi bl hlt
  have HI := Lib.hid (fun W h => impl_SealOf W a L.length c (nI L) (nC L) h FI.out)
  have HS := Lib.hid (fun W h => spec_SealOf W a L.length c (nI L) (nC L) h FI.out hn2)
  have HV := Lib.hid (fun W h => impl_BatchValid W a L.length c (nI L) (nC L) h FI.out)
  cases hok : M.batch L.length (nI L) (nC L)
  · rw [M.sealOf_no hok] at HI HS
    rw [hok] at HV
    clear hok
    go_wp2_with fail
    refine (HI.out _ LT.out).mono ?_
    rintro e v1 ⟨rfl, k1⟩
    replace BL := Lib.hid (step BL.out k1)
    replace LT := Lib.hid (LT.out.on k1)
    clear k1
    go_wp2_with fail
    refine (HS.out _ LT.out).mono ?_
    rintro e v2 ⟨rfl, k2⟩
    replace BL := Lib.hid (step BL.out k2)
    replace LT := Lib.hid (LT.out.on k2)
    clear k2
    go_wp2_with fail
    refine (HS.out _ LT.out).mono ?_
    rintro e v3 ⟨rfl, k3⟩
    replace BL := Lib.hid (step BL.out k3)
    replace LT := Lib.hid (LT.out.on k3)
    clear k3
    go_wp2_with fail
    refine (HV.out _ LT.out).mono ?_
    rintro e v4 ⟨rfl, k4⟩
    replace BL := Lib.hid (step BL.out k4)
    replace LT := Lib.hid (LT.out.on k4)
    clear k4
    go_wp2
    go_ret
    exact ⟨rfl, BL.out⟩
  · have hbl := (batchL_list L).1 hok
    have hbd := M.seal_bd M.sq (nI L) L.length
    have hsl := M.sealOf_yes (f := M.sq) hok
    obtain ⟨N, hN⟩ : ∃ N, M.sealOf M.sq L.length (nI L) (nC L) = N := ⟨_, rfl⟩
    rw [← hsl, hN] at hbd
    obtain ⟨hN0, hN1⟩ := hbd
    have hnn : (N != N) = false := by simp
    have hn0 : ¬ N < 0 := by omega
    have hrv := seal_perm (List.reverse_perm L) hbl (n := L.length) (by simp)
    have hso := seal_perm (sortS_perm hbl) hbl (n := L.length) (sortS_perm hbl).length_eq
    have hsl2 : M.sortL L.length (nI L) (nC L) = sortS L := by rw [sortL_yes hok, lst_nI]
    have hbr : BatchL L.reverse := hbl.perm (List.reverse_perm L).symm
    have hbs := sorted_batch hbl
    have hlr : L.reverse.length = L.length := by simp
    have hls : (sortS L).length = L.length := (sortS_perm hbl).length_eq
    have hfr := hbr.fits
    have hfs := hbs.fits
    rw [hlr] at hfr
    rw [hls] at hfs
    have hrst := fun i (hi : i < L.length) => seal_rest hbl hi
    rw [hN] at HI HS hrv hso
    rw [hN] at hrst
    have hHT := fun W h => soTurned_any W a L.length c (nI L) (nC L) h hn
    have hHO := fun W h => soSorted_any W a L.length c (nI L) (nC L) h FI.out
    rw [lst_nI] at hHT
    rw [hsl2] at hHO
    obtain ⟨RV, hRV⟩ : ∃ R, L.reverse = R := ⟨_, rfl⟩
    obtain ⟨RS, hRS⟩ : ∃ R, sortS L = R := ⟨_, rfl⟩
    rw [hRV] at hrv hfr hHT hlr
    rw [hRS] at hso hfs hHO hls
    have HHT := Lib.hid hHT
    have HHO := Lib.hid hHO
    have HLR := Lib.hid hlr
    have HLS := Lib.hid hls
    have HRV := Lib.hid (fun W a' c' h => hrv ▸ impl_SealOf W a' L.length c' (nI RV) (nC RV) h hfr)
    have HRS := Lib.hid (fun W a' c' h => hso ▸ impl_SealOf W a' L.length c' (nI RS) (nC RS) h hfs)
    have HRT := Lib.hid hrst
    have HCP := Lib.hid hcap
    clear hok hbl hsl hN hrv hso hsl2 hbr hbs hlr hls hfr hfs hrst hHT hHO hRV hRS
    go_wp2_with fail
    refine (HI.out _ LT.out).mono ?_
    rintro e v1 ⟨rfl, k1⟩
    replace BL := Lib.hid (step BL.out k1)
    replace LT := Lib.hid (LT.out.on k1)
    clear k1
    go_wp2_with fail
    refine (HS.out _ LT.out).mono ?_
    rintro e v2 ⟨rfl, k2⟩
    replace BL := Lib.hid (step BL.out k2)
    replace LT := Lib.hid (LT.out.on k2)
    clear k2
    have HV6 := Lib.hid BL.out
    clear BL
    obtain ⟨Z, hZ⟩ : ∃ Z, v2 = Z := ⟨_, rfl⟩
    rw [hZ] at LT HV6 ⊢
    clear hZ HI HS HV
    go_wp2
    go_loopw [5] (fun i wr => ∃ (j : Nat), j ≤ L.length ∧ i = .int .i64 j ∧ Hid (Below Z.heap.size Z wr)) (fun i _ => L.length - (intOf i).toNat)
    case atStart => exact ⟨0, Nat.zero_le _, rfl, Below.refl _ _⟩
    case round =>
      obtain ⟨j, hj, rfl, hbw⟩ := hrel
      have LT2 := Lib.hid (LT.out.on hbw.out)
      by_cases hlt : j < L.length
      · have hji : (j : Int) < (L.length : Int) := by omega
        have hls := LT2.out
        obtain ⟨bb, oo, ha2, _⟩ := hls j hlt
        subst ha2
        have hh := lets_head bb oo L.length c j (by omega) HCP.out
        obtain ⟨a', ht, hF⟩ := lets_tail bb oo L.length c j hlt HCP.out
        have HT := Lib.hid (hF wr (nI L) (nC L) hls)
        have HH : Hid (Lts wr (some ⟨bb, oo, none⟩) j (nI L) (nC L)) := fun i hi => hls i (by omega)
        obtain ⟨ad, had⟩ := lets_addr bb oo L.length c j hlt HCP.out a' ht
        subst had
        have hwr : IntKind.i64.wrap ((j : Int) + 1) = (j : Int) + 1 := IntWalk.i64_in _ (by omega)
        obtain ⟨hbR, hm0, hme, hx0, hx1⟩ := HRT.out j hlt
        have HFR := Lib.hid hbR.fits
        have hlR := hbR.2.2
        have hmb := M.sealOf_yes (f := M.sq) ((batchL_list _).2 hbR)
        have hmd := M.seal_bd M.sq (nI (L.take j ++ L.drop (j + 1))) (L.take j ++ L.drop (j + 1)).length
        rw [← hmb] at hmd
        have hrl := rest_list (nI L) (nC L) L.length j hlt
        rw [lst_nI] at hrl
        obtain ⟨R, hR⟩ : ∃ R, L.take j ++ L.drop (j + 1) = R := ⟨_, rfl⟩
        rw [hR] at HFR hrl hlR hm0 hme hmd
        have HRL := Lib.hid hrl
        obtain ⟨m, hm⟩ : ∃ m, M.sealOf M.sq R.length (nI R) (nC R) = m := ⟨_, rfl⟩
        rw [hm] at hm0 hme hmd
        have HM := Lib.hid hm
        obtain ⟨x, hx⟩ : ∃ x, nI L j = x := ⟨_, rfl⟩
        rw [hx] at hm0 hme hx0 hx1
        obtain ⟨xx, hxx⟩ : ∃ xx, x * x = xx := ⟨_, rfl⟩
        have hxb := M.sq_bd hx0 hx1
        rw [hxx] at hm0 hxb
        have HX := Lib.hid hx
        have HR0 := Lib.hid (one_row wr)
        obtain ⟨hm1, hm2⟩ := hmd
        have y1 : IntKind.i64.wrap (x * x) = xx := by rw [hxx]; exact IntWalk.i64_in _ (by omega)
        have y2 : IntKind.i64.wrap (m + xx) = m + xx := IntWalk.i64_in _ (by omega)
        have y3 : IntKind.i64.wrap (m + xx - N) = m + xx - N := IntWalk.i64_in _ (by omega)
        have y4 : (m + xx - N).tmod 9973 = 0 := (tmod_zero _).2 hm0
        have y5 : IntKind.i64.wrap 0 = 0 := IntWalk.i64_in _ (by omega)
        have HME := Lib.hid hme
        have hlsj : ∀ W, Lts W (some ⟨bb, oo, none⟩) L.length (nI L) (nC L) → W.cell? ⟨bb, oo + j * 2, none⟩ = some (.int .i64 x) := fun W hW => by
          obtain ⟨b', o', e, c0, _⟩ := hW j hlt
          cases e
          rw [HX.out] at c0
          exact c0
        have HLJ := Lib.hid hlsj
        clear hls hF hbR hR hrl hm hx hm0 hme hmb hxx hlsj
        go_wp2_with fail
        go_region_law (first
          | (refine step_append_lts _ rfl _ _ rfl wr.heap.size (.slice (some ⟨wr.heap.size, 0, none⟩) 0 0) [] ?hs ?hrow (some ⟨bb, oo, none⟩) j c (nI L) (nC L) ?hx ?hu (fun _ => ⟨_, rfl⟩) ?hl ?hb ?hK; (case hs => simp [Act.eval]); (case hx => simp [Act.eval]); (case hrow => exact HR0.out.on (by go_grown)); (case hu => exact HH.out.on (by go_grown)); (case hl => (simp; omega)); (case hb => simp); intro x1 w1 r1 gr1 ho1; have K1 : Below wr.heap.size wr w1 := ((below_alloc0 wr _).drew).grown gr1 (by simp) (fun q e => by simp [Value.ownBlock] at e; omega))
          | (refine step_append_lts _ rfl _ _ rfl wr.heap.size x1 ([] ++ M.lst (nI L) (nC L) j) ?hs2 r1 (some ad) (L.length - (j + 1)) (c - (j + 1)) (fun i => nI L (j + 1 + i)) (fun i => nC L (j + 1 + i)) ?hx2 (HT.out.on K1) (fun _ => ⟨_, rfl⟩) ?hl2 ?hb2 ?_; (case hs2 => simp [Act.eval]); (case hx2 => simp [Act.eval]); (case hl2 => (rw [List.nil_append, lst_len]; omega)); (case hb2 => exact K1.size); intro x2 w2 r2 gr2 ho2; have K2 : Below wr.heap.size wr w2 := K1.grown gr2 K1.size (fun q e => (r1.lt q e).1)))
        rw [List.nil_append, HRL.out] at r2
        obtain ⟨a9, c9, e9, _, l9⟩ := r2.form
        subst e9
        have L9 := Lib.hid l9
        have LT3 := Lib.hid (LT2.out.on K2)
        have B3 := Lib.hid (step hbw.out K2)
        clear r1 r2 gr1 gr2 ho1 ho2 K1 K2 l9 LT2 HT HH HR0 HRL
        go_wp2_with fail
        refine (impl_SealOf w2 a9 R.length c9 (nI R) (nC R) L9.out HFR.out).mono ?_
        rw [HM.out]
        rintro e w3 ⟨rfl, k3⟩
        have B4 := Lib.hid (step B3.out k3)
        have hcx := HLJ.out _ (LT3.out.on k3)
        clear B3 k3 HFR L9 LT3
        by_cases hmn : m = N
        · have y6 := HME.out hmn
          have y7 : x.tmod 9973 = 0 := (tmod_zero _).2 y6
          have y8 : (m == N) = true := by rw [beq_iff_eq]; exact hmn
          clear hmn y6
          go_wp2_with fail
          go_quiet (fail)
          go_wp2
          go_roundw
          case rel => exact ⟨j + 1, by omega, by go_num, below_drewS B4.out _⟩
          case measure => simp [intOf]; omega
        · have y8 : (m == N) = false := by rw [beq_eq_false_iff_ne]; exact hmn
          clear hmn
          go_wp2_with fail
          go_quiet (fail)
          go_wp2
          go_roundw
          case rel => exact ⟨j + 1, by omega, by go_num, below_drewS B4.out _⟩
          case measure => simp [intOf]; omega
      · obtain rfl : j = L.length := by omega
        have e1 : (N == N) = true := by simp
        have e2 : N < 9973 := by omega
        go_wp2_with fail
        refine (HHT.out wr LT2.out).mono ?_
        rintro e w1 ⟨p1, rfl, r1, k1⟩
        obtain ⟨a1, c1, rfl, _, l1⟩ := r1.form
        rw [HLR.out] at l1 ⊢
        have L1 := Lib.hid l1
        have B1 := Lib.hid (step hbw.out k1)
        have LT3 := Lib.hid (LT2.out.on k1)
        clear r1 k1 l1
        go_wp2_with fail
        refine (HRV.out w1 a1 c1 L1.out).mono ?_
        rintro e w2 ⟨rfl, k2⟩
        have B2 := Lib.hid (step B1.out k2)
        have LT4 := Lib.hid (LT3.out.on k2)
        clear k2
        go_wp2_with fail
        refine (HHO.out w2 LT4.out).mono ?_
        rintro e w3 ⟨p3, rfl, r3, k3⟩
        obtain ⟨a3, c3, rfl, _, l3⟩ := r3.form
        rw [HLS.out] at l3 ⊢
        have L3 := Lib.hid l3
        have B3 := Lib.hid (step B2.out k3)
        clear r3 k3 l3
        go_wp2_with fail
        refine (HRS.out w3 a3 c3 L3.out).mono ?_
        rintro e w4 ⟨rfl, k4⟩
        have B4 := Lib.hid (step B3.out k4)
        clear k4
        go_wp2
        go_ret
        exact ⟨rfl, step HV6.out B4.out⟩

set_option maxRecDepth 100000 in
theorem lifted (os : Os) (started : os.Started) (H : Type) (enc : TypeId × Value → H) :
    ReturnsInHanded {} Try.checked os 5 .any (Rows.fnSealSpec.pre6 enc Try.prog Try.f5 Rows.fnSealRow.domain false) (Rows.fnSealSpec.post enc Try.prog Try.f5 false true false false) := by
  refine returnsInHanded_of_change (C := Try.checked) own started (by kernel_rfl) Try.func5
    (ChangeSpec.witness6 (enc := enc) (C := Try.checked) false ⟨#[], #[.slice none 0 0], []⟩ 8 (by kernel_rfl) (by kernel_rfl) (by kernel_rfl) (by kernel_rfl)) ?_
  intro W base args ds gs before hval0 hW hcnd _
  have hval : ∀ (j : Nat) t v, Try.f5.params[j]? = some t → args[j]? = some v → Value.okWide Try.prog W .any base t v := hval0
  have hW' := hW
  obtain ⟨p, q, hA0, hV, rfl, hfz, hnd⟩ := hW
  have hA : DataW.TrodAll enc Try.prog W 0 (fun _ => true) true Try.f5.params.toList args.toList ds p := hA0
  rw [Try.params5] at hA hval
  obtain ⟨v0, vs0, d0, ds0, p0, q0, hargs, rfl, rfl, h0, r0⟩ := trodAll_cons hA
  obtain ⟨rfl, rfl, rfl⟩ := trodAll_nil r0
  obtain rfl : args = #[v0] := by cases args; simp_all
  obtain ⟨rfl, rfl⟩ := trodVars_none hV
  have g0 := h0
  have lt0 : ∀ x ∈ p0, x.block < W.heap.size := by obtain ⟨m, hm⟩ := g0; exact DataW.trod_lt m _ _ _ hm
  obtain ⟨a0, l0, k0, rfl⟩ := okWide_slice Try.underlying22 (hval 0 22 v0 rfl rfl)
  obtain ⟨z0, w0⟩ : ∃ zs, IsRow .u8 W a0 l0 k0 zs := by
    obtain ⟨fuel, hf⟩ := h0
    rcases open_ints Try.underlying22 Try.underlying5 (by kernel_rfl) hf with ⟨hcs, _⟩ | ⟨x, l, c, zs, hcs, _, hl, hm, hz, _, hcell, hwz⟩
    · simp [Value.cells] at hcs
      obtain ⟨rfl, rfl, rfl⟩ := hcs
      exact ⟨[], .inl ⟨rfl, rfl, rfl, rfl⟩⟩
    · simp [Value.cells] at hcs
      obtain ⟨rfl, rfl, rfl⟩ := hcs
      exact ⟨zs, .inr ⟨_, rfl, hl, hm, by simpa using hz, hcell, hwz⟩⟩
  clear hA0 hval0
  refine (walk W a0 l0 k0 z0 w0).mono fun e W' ⟨he, bel⟩ => ?_
  subst he
  exact ⟨_, rfl, _, _, _, [], _, [], hW', trodAll_mk1 (shut_bool Try.underlying4 _), (trodAll_cons_mk (Below.trod laidOut (by kernel_rfl) (of_decide_eq_true (by kernel_rfl)) g0 bel lt0) trodAll_mk0), rfl, bel.frame _, fun h => by cases h⟩

theorem proved : Rows.FnSealSaid :=
  OpenClaim.holds_of_wide 5 Try.f5 rfl rfl rfl rfl rfl rfl rfl ⟨rfl, rfl, rfl, rfl, rfl⟩ rfl rfl rfl rfl rfl (by kernel_rfl) Try.func5 (by kernel_rfl)
    (of_decide_eq_true (by kernel_rfl)) (by unfold Func.isWrapper; first | (rw [if_pos (by decide +kernel)]; kernel_rfl) | (rw [if_neg (by decide +kernel)]; exact ⟨rfl, rfl⟩))
    (fun os started H enc _ => lifted os started H enc)
#print axioms proved
end Go.Proofs.Ytlamckdnnnifcaa.fnSeal
