/-
  What AddRule and RemoveRule return in the model of the document.
-/
import Derived.Test.YtkbebpadbdhnhaaAddR
namespace Go.Proofs.Ytkbebpadbdhnhaa
open Go.RowKit Go.Maps
open Go.PlainAid (bt get_bt bt_nonneg bt_le)
set_option linter.unusedVariables false

theorem RRow.put1 {w : World} {base g c : Nat} {L : List (ByteArray × ByteArray)} (h : RRow w base (.slice (some ⟨g, 0, none⟩) L.length c) L) {j : Nat} {x z : ByteArray} (hx : L[j]? = some (x, z)) (s : ByteArray) :
    RRow (w.setCell ⟨g, j * 2 + 1, none⟩ (.string s)) base (.slice (some ⟨g, 0, none⟩) (L.set j (x, s)).length c) (L.set j (x, s)) := by
  have hl : j < L.length := by
    rcases Nat.lt_or_ge j L.length with h | h
    · exact h
    · rw [List.getElem?_eq_none h] at hx; cases hx
  have h2 := (World.ownsRow.stored h (j * 2 + 1) (.string s)).1
  have e : (fcells L).set (j * 2 + 1) (.string s) = fcells (L.set j (x, s)) := by
    rw [← fcells_set]
    have hat := (fcells_at L j hl).1
    have hv : L[j].1 = x := by
      have : L[j]? = some L[j] := List.getElem?_eq_getElem hl
      rw [this] at hx
      rw [Option.some.inj hx]
    rw [hv] at hat
    obtain ⟨hl2, he⟩ := List.getElem?_eq_some_iff.1 hat
    rw [← he, List.set_getElem_self]
  rw [e] at h2
  unfold RRow
  rw [List.length_set]
  exact h2
theorem flst_get? (P N : Nat → ByteArray) {n k : Nat} (h : k < n) : (M.flst P N n)[k]? = some (P k, N k) := by simp [M.flst, h]
set_option maxHeartbeats 2000000 in
set_option maxRecDepth 100000 in
theorem spec_AddRule (w : World) (a : Option Addr) (n cap : Nat) (F T : Nat → ByteArray) (h : Fws w a n F T) (hf : FFits n F T) (hn : n ≤ 1048576) (x y : ByteArray) (hx : x.size ≤ maxLen) (hy : y.size ≤ maxLen) :
    Calls Try.prog 6 #[.slice a n cap, .string x, .string y] w (ROut w (M.addROk F T n x y) (M.addRL F T n x y)) := by
  have HL := Lib.hid h
  have HF := Lib.hid hf
  have HF2 := Lib.hid (fits_addR hf hx hy)
  have HLX := Lib.hid (h.on (below_alloc0 w (.cells #[] 44)))
  have R0 := Lib.hid (rone_frow w)
  have hB := Lib.hid (below_alloc0 w (.cells #[] 44))
  clear h hf
  go_enter Try.func6, Try.ntmps6
  go_wp2_with (at_builtin; refine rwpList_append_fws _ rfl _ _ rfl w.heap.size _ [] rfl R0.out _ n cap F T rfl HLX.out (by simp; omega) (by simp) ?_)
  intro v1 w3 r1 gr1 ho1
  have R1 := Lib.hid r1
  have K1 : Hid (Below w.heap.size w w3) := hB.out.grown gr1 hB.out.size (fun q e => (R0.out.lt q e).1)
  clear r1 gr1 ho1 hB R0 HLX
  obtain ⟨a1, c1, hv1, _, hw1⟩ := R1.out.form
  have hfl := M.flst_length F T n
  have HLN := Lib.hid hfl
  have hw2 : Fws w3 a1 n F T := by
    have := hw1
    rw [hfl] at this
    exact this.congr fun i hi => by
      have g := flst_get? F T hi
      have hlt : i < (M.flst F T n).length := by rw [hfl]; exact hi
      rw [nF_at hlt, nT_at hlt]
      have : (M.flst F T n)[i]? = some (M.flst F T n)[i] := List.getElem?_eq_getElem hlt
      rw [this] at g
      rw [Option.some.inj g]; exact ⟨rfl, rfl⟩
  have HI := Lib.hid (spec_l6Index w3 a1 n c1 F T hw2 hn x)
  have HV := Lib.hid (spec_RulesValid)
  rw [hfl] at hv1
  subst hv1
  have hz1 := K1.out.size
  clear hw1 hw2 hfl
  go_wp2_with fail
  refine HI.out.mono ?_
  rintro e w4 ⟨rfl, rfl⟩
  rcases M.rankC F x n with ⟨hr, _⟩ | ⟨k, hk, hkx, _, hr⟩
  · have HR := Lib.hid (M.addRaw_new (N := T) (y := y) hr)
    rw [hr]
    clear hr
    have R2 : Hid (RRow w3 w.heap.size (.slice a1 n c1) (M.flst F T n)) := R1.out
    go_wp2_with (at_builtin; refine wpList_append_rule _ rfl _ _ rfl w.heap.size _ _ rfl (R2.out.alloc _) _ x y rfl ?_ (by rw [HLN.out]; omega) (by simp; omega) ?_)
    · simp [go_sem]
    · intro v3 w4 hr4 hg4 ho4
      have K4 := Lib.hid (rfbelow_grown (W := w) (K1.out.alloc hz1 _) (R2.out.alloc _) (Nat.le_refl _) hg4)
      have R4 : Hid (RRow w4 w.heap.size v3 (M.addRaw F T n x y)) := by rw [Hid, HR.out]; exact hr4
      clear hr4 hg4 ho4
      obtain ⟨a4, c4, hv4, _, hw4⟩ := R4.out.form
      have hlen4 := M.addRaw_len F T n x y
      have HW := Lib.hid hw4
      have HY := Lib.hid (HV.out w4 a n cap F T (HL.out.on K4.out) HF.out hn)
      have hz4 := K4.out.size
      have E3 := Lib.hid ((rone_frow w4).lower hz4)
      have B3 := Lib.hid (K4.out.alloc hz4 (.cells #[] 44))
      subst hv4
      clear hw4
      cases hok : M.rul n F T
      · obtain ⟨e1, e2⟩ := M.addR_no (x := x) (y := y) (Or.inl hok)
        have E1 := Lib.hid e1
        have E2 := Lib.hid e2
        rw [hok] at HY
        clear hok e1 e2
        go_wp2_with fail
        refine HY.out.mono ?_
        rintro e w5 ⟨rfl, rfl⟩
        go_wp2
        go_ret2
        exact ROut.mk E1.out E2.out E3.out B3.out
      rw [hok] at HY
      have HOK := Lib.hid hok
      have h20 := (M.rul_yes hok).1
      have HX := Lib.hid (HV.out w4 a4 _ c4 _ _ HW.out HF2.out (by omega))
      clear hok
      go_wp2_with fail
      refine HY.out.mono ?_
      rintro e w5 ⟨rfl, rfl⟩
      cases hok2 : M.rul (M.addRaw F T n x y).length (nF (M.addRaw F T n x y)) (nT (M.addRaw F T n x y))
      · obtain ⟨e1, e2⟩ := M.addR_no (P := F) (N := T) (n := n) (Or.inr hok2)
        have E1 := Lib.hid e1
        have E2 := Lib.hid e2
        rw [hok2] at HX
        clear hok2 e1 e2
        go_wp2_with fail
        refine HX.out.mono ?_
        rintro e w5 ⟨rfl, rfl⟩
        go_wp2
        go_ret2
        exact ROut.mk E1.out E2.out E3.out B3.out
      · obtain ⟨e1, e2⟩ := M.addR_yes HOK.out hok2
        have E1 := Lib.hid e1
        have E2 := Lib.hid e2
        rw [hok2] at HX
        clear hok2 e1 e2
        go_wp2_with fail
        refine HX.out.mono ?_
        rintro e w5 ⟨rfl, rfl⟩
        go_wp2
        go_ret2
        exact ROut.mk E1.out E2.out R4.out K4.out
  · have HR := Lib.hid (M.addRaw_old (N := T) (y := y) hr)
    rw [hr]
    clear hr
    rcases R1.out.cases with ⟨hs, hnil⟩ | ⟨g, c, hs, hbg, hgl⟩
    · have := HLN.out
      rw [hnil] at this
      simp at this
      omega
    injection hs with hs1 hsn hs2
    clear hsn
    subst hs1 hs2
    have R2 : RRow w3 w.heap.size (.slice (some ⟨g, 0, none⟩) (M.flst F T n).length c1) (M.flst F T n) := by rw [HLN.out]; exact R1.out
    obtain ⟨p0, s0, c0, d0, _, f0, f1, _, _⟩ := R2.cellsAt (j := k) (by rw [HLN.out]; exact hk)
    have hlen : Hid ((M.addRaw F T n x y).length = n) := by rw [Hid, HR.out, List.length_set, HLN.out]
    have R4 : Hid (RRow (w3.setCell ⟨g, k * 2 + 1, none⟩ (.string y)) w.heap.size (.slice (some ⟨g, 0, none⟩) n c1) (M.addRaw F T n x y)) := by
      have h1 := R2.put1 (j := k) (x := x) (z := T k) (by rw [flst_get? F T hk, hkx]) y
      rw [← HR.out, hlen.out] at h1
      exact h1
    have K4 : Hid (Below w.heap.size w (w3.setCell ⟨g, k * 2 + 1, none⟩ (.string y))) := K1.out.setCell hbg _
    have hki : (k : Int) < (n : Int) := by omega
    obtain ⟨a4, c4, hv4, _, hw4⟩ := R4.out.form
    rw [hlen.out] at hv4 hw4
    injection hv4 with hv5 _ hv6
    subst hv5 hv6
    have HF3 := HF2.out
    rw [hlen.out] at HF3
    have HX := Lib.hid (HV.out _ _ _ c1 _ _ hw4 HF3 hn)
    have HY := Lib.hid (HV.out _ a n cap F T (HL.out.on K4.out) HF.out hn)
    have hz4 := K4.out.size
    have e3 := (rone_frow (w3.setCell ⟨g, k * 2 + 1, none⟩ (.string y))).lower hz4
    rw [World.size_setCell] at e3
    have E3 := Lib.hid e3
    clear e3
    have B3 := Lib.hid (K4.out.alloc hz4 (.cells #[] 44))
    clear hw4 HF3 R2 hkx
    cases hok : M.rul n F T
    · obtain ⟨e1, e2⟩ := M.addR_no (x := x) (y := y) (Or.inl hok)
      have E1 := Lib.hid e1
      have E2 := Lib.hid e2
      rw [hok] at HY
      clear hok e1 e2
      go_wp2_with fail
      refine HY.out.mono ?_
      rintro e w5 ⟨rfl, rfl⟩
      go_wp2
      go_ret2
      exact ROut.mk E1.out E2.out E3.out B3.out
    rw [hok] at HY
    have HOK := Lib.hid hok
    clear hok
    go_wp2_with fail
    refine HY.out.mono ?_
    rintro e w5 ⟨rfl, rfl⟩
    cases hok2 : M.rul (M.addRaw F T n x y).length (nF (M.addRaw F T n x y)) (nT (M.addRaw F T n x y))
    · obtain ⟨e1, e2⟩ := M.addR_no (P := F) (N := T) (n := n) (Or.inr hok2)
      have E1 := Lib.hid e1
      have E2 := Lib.hid e2
      have hok3 := hok2
      rw [hlen.out] at hok3
      rw [hok3] at HX
      clear hok2 hok3 e1 e2
      go_wp2_with fail
      refine HX.out.mono ?_
      rintro e w5 ⟨rfl, rfl⟩
      go_wp2
      go_ret2
      exact ROut.mk E1.out E2.out E3.out B3.out
    · obtain ⟨e1, e2⟩ := M.addR_yes HOK.out hok2
      have E1 := Lib.hid e1
      have E2 := Lib.hid e2
      have hok3 := hok2
      rw [hlen.out] at hok3
      rw [hok3] at HX
      clear hok2 hok3 e1 e2
      go_wp2_with fail
      refine HX.out.mono ?_
      rintro e w5 ⟨rfl, rfl⟩
      go_wp2
      go_ret2
      exact ROut.mk E1.out E2.out R4.out K4.out
end Go.Proofs.Ytkbebpadbdhnhaa
