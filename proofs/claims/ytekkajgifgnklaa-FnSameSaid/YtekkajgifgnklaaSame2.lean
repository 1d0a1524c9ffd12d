/-
  Whether two lists of orders send all letters to the same ends: program and model.
-/
import Derived.Test.YtekkajgifgnklaaSame
import Derived.Test.YtekkajgifgnklaaFBatch
namespace Go.Proofs.Ytekkajgifgnklaa
open Go.RowKit Go.Maps
open Go.PlainAid (bt get_bt bt_nonneg bt_le)
set_option linter.unusedVariables false

namespace M
theorem code_ne {c : ByteArray} (h : code c = true) : c ≠ ⟨#[]⟩ := by
  intro e
  subst e
  unfold code at h
  simp at h
  exact absurd h.2 (by decide)
theorem iter_code {nx : ByteArray → Option ByteArray} (hn : ∀ x y, nx x = some y → code y = true) {c : ByteArray} (hc : code c = true) : ∀ {t : Nat} {d : ByteArray}, iter nx t c = some d → code d = true
  | 0, d, h => by
    have : c = d := Option.some.inj h
    rw [← this]; exact hc
  | t + 1, d, h => by
    have h2 : (iter nx t c).bind nx = some d := h
    cases e : iter nx t c with
    | none => rw [e] at h2; cases h2
    | some x =>
      rw [e] at h2
      exact hn x d h2
theorem res_code {F T : Nat → ByteArray} {n : Nat} (h : fwd n F T = true) {c : ByteArray} (hc : code c = true) {d : ByteArray} {t : Nat} (hr : res F T n c = some (d, t)) : code d = true := by
  refine iter_code (fun x y hxy => ?_) hc (res_some hr).2.1
  obtain ⟨k, hk, _, _, e, _⟩ := nextOf_at hxy
  rw [e]
  exact ((fwd_yes h).2 k hk).2.1
def sameAt (F T : Nat → ByteArray) (n : Nat) (F2 T2 : Nat → ByteArray) (n2 : Nat) (c : ByteArray) : Bool := decide (endS (res F T n c) = endS (res F2 T2 n2 c))
/-- Ends that are alike are there, or not, together. -/
theorem same_some {F T F2 T2 : Nat → ByteArray} {n n2 : Nat} (h : fwd n F T = true) (h2 : fwd n2 F2 T2 = true) {c : ByteArray} (hc : code c = true) (he : endS (res F T n c) = endS (res F2 T2 n2 c)) : (res F T n c).isSome = (res F2 T2 n2 c).isSome := by
  cases e1 : res F T n c with
  | none =>
    cases e2 : res F2 T2 n2 c with
    | none => rfl
    | some q =>
      obtain ⟨d, t⟩ := q
      rw [e1, e2] at he
      exact absurd he.symm (code_ne (res_code h2 hc e2))
  | some p =>
    obtain ⟨d, t⟩ := p
    cases e2 : res F2 T2 n2 c with
    | none =>
      rw [e1, e2] at he
      exact absurd he (code_ne (res_code h hc e1))
    | some q => rfl
def allF (F T : Nat → ByteArray) (n : Nat) (F2 T2 : Nat → ByteArray) (n2 : Nat) : Nat → ByteArray := nF (flst F T n ++ flst F2 T2 n2)
def same (F T : Nat → ByteArray) (n : Nat) (F2 T2 : Nat → ByteArray) (n2 : Nat) : Bool := fwd n F T && (fwd n2 F2 T2 && (List.range (n + n2)).all fun j => sameAt F T n F2 T2 n2 (allF F T n F2 T2 n2 j))
theorem same_no1 {F T F2 T2 : Nat → ByteArray} {n n2 : Nat} (h : fwd n F T = false) : same F T n F2 T2 n2 = false := by unfold same; rw [h]; rfl
theorem same_no2 {F T F2 T2 : Nat → ByteArray} {n n2 : Nat} (h : fwd n2 F2 T2 = false) : same F T n F2 T2 n2 = false := by unfold same; rw [h, Bool.false_and, Bool.and_false]
theorem same_end {F T F2 T2 : Nat → ByteArray} {n n2 : Nat} (h : fwd n F T = true) (h2 : fwd n2 F2 T2 = true) (ha : ∀ j, j < n + n2 → sameAt F T n F2 T2 n2 (allF F T n F2 T2 n2 j) = true) : same F T n F2 T2 n2 = true := by
  unfold same
  rw [h, h2, Bool.true_and, Bool.true_and, List.all_eq_true]
  intro j hj
  exact ha j (List.mem_range.1 hj)
theorem same_out {F T F2 T2 : Nat → ByteArray} {n n2 j : Nat} (hj : j < n + n2) (he : sameAt F T n F2 T2 n2 (allF F T n F2 T2 n2 j) = false) : same F T n F2 T2 n2 = false := by
  unfold same
  have : ((List.range (n + n2)).all fun j => sameAt F T n F2 T2 n2 (allF F T n F2 T2 n2 j)) = false := by
    rw [List.all_eq_false]
    exact ⟨j, List.mem_range.2 hj, by rw [he]; decide⟩
  rw [this, Bool.and_false, Bool.and_false]
theorem allF_code {F T F2 T2 : Nat → ByteArray} {n n2 : Nat} (h : fwd n F T = true) (h2 : fwd n2 F2 T2 = true) {j : Nat} (hj : j < n + n2) : code (allF F T n F2 T2 n2 j) = true := by
  unfold allF
  have hl : j < (flst F T n ++ flst F2 T2 n2).length := by rw [List.length_append, flst_length, flst_length]; exact hj
  rw [nF_at hl]
  rcases List.mem_append.1 (List.getElem_mem hl) with hp | hp
  · unfold flst at hp
    obtain ⟨i, hi, e⟩ := List.mem_map.1 hp
    rw [show ((flst F T n ++ flst F2 T2 n2)[j]).1 = F i from (congrArg Prod.fst e).symm]
    exact ((fwd_yes h).2 i (List.mem_range.1 hi)).1
  · unfold flst at hp
    obtain ⟨i, hi, e⟩ := List.mem_map.1 hp
    rw [show ((flst F T n ++ flst F2 T2 n2)[j]).1 = F2 i from (congrArg Prod.fst e).symm]
    exact ((fwd_yes h2).2 i (List.mem_range.1 hi)).1
theorem code_size {c : ByteArray} (h : code c = true) : c.size ≤ maxLen := by
  unfold code at h
  simp at h
  rw [h.2]
  unfold maxLen
  omega
end M

set_option maxHeartbeats 2000000 in
set_option maxRecDepth 100000 in
theorem spec_SameForwards (w : World) (a : Option Addr) (n cap : Nat) (F T : Nat → ByteArray) (h : Fws w a n F T) (hf : FFits n F T) (hn : n ≤ 1048576) (a2 : Option Addr) (n2 cap2 : Nat) (F2 T2 : Nat → ByteArray) (h2 : Fws w a2 n2 F2 T2) (hf2 : FFits n2 F2 T2) (hn2 : n2 ≤ 1048576) :
    Calls Try.prog 14 #[.slice a n cap, .slice a2 n2 cap2] w fun e w' => e = .returned (.bool (M.same F T n F2 T2 n2)) ∧ Below w.heap.size w w' := by
  have HL := Lib.hid h
  have HL2 := Lib.hid h2
  have HV := Lib.hid (spec_ForwardsValid w a n cap F T h hf hn)
  have HV2 := Lib.hid (spec_ForwardsValid w a2 n2 cap2 F2 T2 h2 hf2 hn2)
  clear h hf h2 hf2
  go_enter Try.func14, Try.ntmps14
  cases hok : M.fwd n F T
  · have hv := Lib.hid (M.same_no1 (F2 := F2) (T2 := T2) (n2 := n2) hok)
    rw [hok] at HV
    clear hok
    go_wp2_with fail
    refine HV.out.mono ?_
    rintro e w1 ⟨rfl, rfl⟩
    go_wp2
    go_ret
    exact ⟨by rw [hv.out]; rfl, Below.refl _ _⟩
  cases hok2 : M.fwd n2 F2 T2
  · have hv := Lib.hid (M.same_no2 (F := F) (T := T) (n := n) hok2)
    rw [hok] at HV
    rw [hok2] at HV2
    clear hok hok2
    go_wp2_with fail
    refine HV.out.mono ?_
    rintro e w1 ⟨rfl, rfl⟩
    go_wp2_with fail
    refine HV2.out.mono ?_
    rintro e w1 ⟨rfl, rfl⟩
    go_wp2
    go_ret
    exact ⟨by rw [hv.out]; rfl, Below.refl _ _⟩
  · have HO := Lib.hid hok
    have HO2 := Lib.hid hok2
    have hN := (M.fwd_yes hok).1
    have hN2 := (M.fwd_yes hok2).1
    rw [hok] at HV
    rw [hok2] at HV2
    have R0 := Lib.hid (one_frow w)
    have K0 := Lib.hid (below_alloc0 w (.cells #[] 45))
    have hz0 := K0.out.size
    clear hok hok2
    go_wp2_with fail
    refine HV.out.mono ?_
    rintro e w1 ⟨rfl, rfl⟩
    go_wp2_with fail
    refine HV2.out.mono ?_
    rintro e w1 ⟨rfl, rfl⟩
    go_wp2_with (first
      | (at_builtin; refine wpList_append_fws _ rfl _ _ rfl w.heap.size _ _ rfl R1.out a2 n2 cap2 F2 T2 rfl (HL2.out.on K1.out) (by rw [hl1]; omega) (by exact K1.out.size) ?_; intro v2 w3 r2 gr2 ho2; have R2 : Hid (FRow w3 w.heap.size v2 (M.flst F T n ++ M.flst F2 T2 n2)) := r2; have K2 : Hid (Below w.heap.size w w3) := K1.out.grown gr2 K1.out.size (fun q e => (R1.out.lt q e).1); clear r2 gr2 ho2)
      | (at_builtin; refine wpList_append_fws _ rfl _ _ rfl w.heap.size _ [] rfl R0.out a n cap F T rfl (HL.out.on K0.out) (by simp; omega) (by simp) ?_; intro v1 w2 r1 gr1 ho1; have R1 : Hid (FRow w2 w.heap.size v1 (M.flst F T n)) := (by rw [List.nil_append] at r1; exact r1); have hl1 : (M.flst F T n).length = n := M.flst_length _ _ _; have K1 : Hid (Below w.heap.size w w2) := K0.out.grown gr1 hz0 (fun q e => (R0.out.lt q e).1); clear r1 gr1 ho1))
    have hlen : (M.flst F T n ++ M.flst F2 T2 n2).length = n + n2 := by rw [List.length_append, M.flst_length, M.flst_length]
    obtain ⟨a3, c3, hv3, _, hw3⟩ := R2.out.form
    rw [hlen] at hv3 hw3
    subst hv3
    have HW := Lib.hid hw3
    have H1 := Lib.hid (HL.out.on K2.out)
    have H2 := Lib.hid (HL2.out.on K2.out)
    clear hw3
    go_loop [6] (fun i => ∃ k : Nat, k ≤ n + n2 ∧ i = .int .i64 k ∧ Hid (∀ j, j < k → M.sameAt F T n F2 T2 n2 (M.allF F T n F2 T2 n2 j) = true)) (fun i => n + n2 - (intOf i).toNat)
    case atStart => exact ⟨0, Nat.zero_le _, rfl, fun j hj => absurd hj (by omega)⟩
    case round =>
      obtain ⟨k, hk, rfl, hall⟩ := hrel
      by_cases hlt : k < n + n2
      · obtain ⟨b, o, rfl, c0, c1⟩ := HW.out k hlt
        have hcd := M.allF_code HO.out HO2.out hlt
        obtain ⟨C, hC⟩ : ∃ C, M.allF F T n F2 T2 n2 k = C := ⟨_, rfl⟩
        rw [show nF (M.flst F T n ++ M.flst F2 T2 n2) k = C from hC] at c0
        rw [hC] at hcd
        have HX := Lib.hid (spec_l4Resolve w3 a n cap F T H1.out (by omega) C)
        have HX2 := Lib.hid (spec_l4Resolve w3 a2 n2 cap2 F2 T2 H2.out (by omega) C)
        rw [resV_eq] at HX HX2
        have hss := fun he => M.same_some HO.out HO2.out hcd he
        have hsa : M.sameAt F T n F2 T2 n2 C = decide (M.endS (M.res F T n C) = M.endS (M.res F2 T2 n2 C)) := rfl
        obtain ⟨s1, hs1⟩ : ∃ s, M.endS (M.res F T n C) = s := ⟨_, rfl⟩
        obtain ⟨s2, hs2⟩ : ∃ s, M.endS (M.res F2 T2 n2 C) = s := ⟨_, rfl⟩
        obtain ⟨y1, hy1⟩ : ∃ y, (M.res F T n C).isSome = y := ⟨_, rfl⟩
        obtain ⟨y2, hy2⟩ : ∃ y, (M.res F2 T2 n2 C).isSome = y := ⟨_, rfl⟩
        obtain ⟨t1, ht1⟩ : ∃ t, M.cntOf (M.res F T n C) = t := ⟨_, rfl⟩
        obtain ⟨t2, ht2⟩ : ∃ t, M.cntOf (M.res F2 T2 n2 C) = t := ⟨_, rfl⟩
        rw [hs1, hy1, ht1] at HX
        rw [hs2, hy2, ht2] at HX2
        rw [hs1, hs2, hy1, hy2] at hss
        rw [hs1, hs2] at hsa
        have HSA := Lib.hid hsa
        have HC := Lib.hid hC
        clear hs1 hs2 hy1 hy2 ht1 ht2 hsa hC hcd
        by_cases he : s1 = s2
        · have hyy := hss he
          subst he hyy
          have hd : (s1.toList == s1.toList) = true := by simp
          have hsa : Hid (M.sameAt F T n F2 T2 n2 (M.allF F T n F2 T2 n2 k) = true) := by rw [Hid, HC.out, HSA.out]; exact decide_eq_true rfl
          clear hss
          go_wp2_with fail
          refine HX.out.mono ?_
          rintro e w4 ⟨rfl, rfl⟩
          go_wp2_with fail
          refine HX2.out.mono ?_
          rintro e w4 ⟨rfl, rfl⟩
          go_wp2
          go_round
          case rel => exact ⟨k + 1, by omega, by go_num, fun q hq => by by_cases e : q = k; (subst e; exact hsa.out); exact hall.out q (by omega)⟩
          case measure => simp [intOf]; omega
        · have hd : (s1.toList == s2.toList) = false := neq_list0 he
          have hsa : M.sameAt F T n F2 T2 n2 (M.allF F T n F2 T2 n2 k) = false := by rw [HC.out, HSA.out]; exact decide_eq_false he
          have hv := Lib.hid (M.same_out hlt hsa)
          clear hss hsa he
          go_wp2_with fail
          refine HX.out.mono ?_
          rintro e w4 ⟨rfl, rfl⟩
          go_wp2_with fail
          refine HX2.out.mono ?_
          rintro e w4 ⟨rfl, rfl⟩
          go_wp2
          go_ret
          exact ⟨by rw [hv.out]; rfl, K2.out⟩
      · obtain rfl : k = n + n2 := by omega
        have hv := Lib.hid (M.same_end HO.out HO2.out hall.out)
        go_wp2
        go_ret
        exact ⟨by rw [hv.out]; rfl, K2.out⟩

/-- Another book's map is turned. -/
theorem Book.keep2 {w w' : World} {base g n base2 g2 n2 : Nat} {f f2 : ByteArray → Option Nat} {nx nx2 : ByteArray → Option ByteArray} (h : Book w base g n f nx) (h2 : Book w base2 g2 n2 f2 nx2) (hne : g ≠ g2) (ho : Only w w' (fun k => k = g2)) : Book w' base g n f nx := h.keep fun k hk hor => ho.block k hk fun e => by
  rcases hor with e2 | ⟨c, hc⟩
  · exact hne (e2.symm.trans e)
  · obtain ⟨_, _, _, _, ca, hca⟩ := h.node hc
    obtain ⟨_, ⟨D, ⟨es, clock, hm, _⟩, _⟩, _⟩ := h2
    rw [e, hm] at hca
    cases Option.some.inj hca

set_option maxHeartbeats 4000000 in
set_option maxRecDepth 100000 in
theorem impl_SameForwards (w : World) (a : Option Addr) (n cap : Nat) (F T : Nat → ByteArray) (h : Fws w a n F T) (hf : FFits n F T) (a2 : Option Addr) (n2 cap2 : Nat) (F2 T2 : Nat → ByteArray) (h2 : Fws w a2 n2 F2 T2) (hf2 : FFits n2 F2 T2) :
    Calls Try.prog 13 #[.slice a n cap, .slice a2 n2 cap2] w fun e w' => e = .returned (.bool (M.same F T n F2 T2 n2)) ∧ Below w.heap.size w w' := by
  have HL := Lib.hid h
  have HL2 := Lib.hid h2
  have HF := Lib.hid hf
  have HF2 := Lib.hid hf2
  clear h hf h2 hf2
  go_enter Try.func13, Try.ntmps13
  cases hok : M.fwd n F T
  · have hv := Lib.hid (M.same_no1 (F2 := F2) (T2 := T2) (n2 := n2) hok)
    go_wp2_with fail
    refine (bookOf_no _ _ _ _ _ _ HL.out HF.out hok).mono ?_
    rintro e w1 ⟨rfl, hb1⟩
    cases hok2 : M.fwd n2 F2 T2
    · go_wp2_with fail
      refine (bookOf_no _ _ _ _ _ _ (HL2.out.on hb1) HF2.out hok2).mono ?_
      rintro e w2 ⟨rfl, hb2⟩
      have hq := eql_nobook w2
      go_wp2
      go_ret
      exact ⟨by rw [hv.out]; rfl, step hb1 hb2⟩
    · go_wp2_with fail
      refine (bookOf_yes _ _ _ _ _ _ (HL2.out.on hb1) HF2.out hok2).mono ?_
      rintro e w2 ⟨g2, m2, f2, rfl, _, _, hb2⟩
      have hq := eql_nobook w2
      go_wp2
      go_ret
      exact ⟨by rw [hv.out]; rfl, step hb1 hb2⟩
  cases hok2 : M.fwd n2 F2 T2
  · have hv := Lib.hid (M.same_no2 (F := F) (T := T) (n := n) hok2)
    go_wp2_with fail
    refine (bookOf_yes _ _ _ _ _ _ HL.out HF.out hok).mono ?_
    rintro e w1 ⟨g1, m1, f1, rfl, _, _, hb1⟩
    go_wp2_with fail
    refine (bookOf_no _ _ _ _ _ _ (HL2.out.on hb1) HF2.out hok2).mono ?_
    rintro e w2 ⟨rfl, hb2⟩
    have hq := eql_nobook w2
    have hq1 := eql_book g1 w2
    go_wp2
    go_ret
    exact ⟨by rw [hv.out]; rfl, step hb1 hb2⟩
  · have HO := Lib.hid hok
    have HO2 := Lib.hid hok2
    have hN := (M.fwd_yes hok).1
    have hN2 := (M.fwd_yes hok2).1
    go_wp2_with fail
    refine (bookOf_yes _ _ _ _ _ _ HL.out HF.out hok).mono ?_
    rintro e w1 ⟨g1, m1, f1, rfl, hm1, hB1, hb1⟩
    have hg1 := hB1.lt
    have hg10 := hB1.1
    have HB1 := Lib.hid hB1
    have hz1 := hb1.size
    clear hB1
    go_wp2_with fail
    refine (bookOf_yes _ _ _ _ _ _ (HL2.out.on hb1) HF2.out hok2).mono ?_
    rintro e w2 ⟨g2, m2, f2, rfl, hm2, hB2, hb2⟩
    have hg2 := hB2.lt
    have hg20 := hB2.1
    have HB2 := Lib.hid hB2
    replace HB1 := Lib.hid (HB1.out.on hb2)
    have hz2 := hb2.size
    have KB := Lib.hid (step hb1 hb2)
    have H1 := Lib.hid (HL.out.on KB.out)
    have H2 := Lib.hid ((HL2.out.on hb1).on hb2)
    have hq2 := eql_book g2 w2
    have hq1 := eql_book g1 w2
    clear hB2 hok hok2 HL HL2 hb1 hb2
    go_wp2_with (go_at_call 38; refine (concat_two _ w2.heap.size a n cap F T a2 n2 cap2 F2 T2 (by simp) (by simp) (H1.out.on (by go_grown)) (H2.out.on (by go_grown)) (by omega) (by omega)).mono ?_; rintro e w3 ⟨v3, rfl, r3, hb3⟩; have hb23 : Below w2.heap.size w2 w3 := Below.trans (by go_grown) (hb3.mono (by simp)); have R3 := Lib.hid (r3.lower (base' := w2.heap.size) (by simp)); have hlen : (M.flst F T n ++ M.flst F2 T2 n2).length = n + n2 := (by rw [List.length_append, M.flst_length, M.flst_length]); obtain ⟨a3, c3, hv3, _, hw3⟩ := R3.out.form; rw [hlen] at hv3; subst hv3; clear hw3 r3 hb3)
    have HB1' := Lib.hid (HB1.out.on hb23)
    have HB2' := Lib.hid (HB2.out.on hb23)
    have KB3 := Lib.hid (step KB.out hb23)
    clear HB1 HB2 KB hb23 H1 H2
    go_loopw [30] (fun i wr => ∃ (k : Nat) (f1 f2 : ByteArray → Option Nat), k ≤ n + n2 ∧ i = .int .i64 k ∧ Hid (∀ j, j < k → M.sameAt F T n F2 T2 n2 (M.allF F T n F2 T2 n2 j) = true) ∧ Hid (Book wr w.heap.size g1 (m1 + k) f1 (M.nextOf F T n)) ∧ Hid (Book wr w1.heap.size g2 (m2 + k) f2 (M.nextOf F2 T2 n2)) ∧ Hid (FRow wr w2.heap.size (.slice a3 (n + n2) c3) (M.flst F T n ++ M.flst F2 T2 n2)) ∧ Hid (Below w.heap.size w wr)) (fun i _ => n + n2 - (intOf i).toNat)
    case atStart => exact ⟨0, f1, f2, Nat.zero_le _, rfl, fun j hj => absurd hj (by omega), HB1', HB2', R3, KB3⟩
    case round =>
      obtain ⟨k, f1, f2, hk, rfl, hall, hb1, hb2, hrow, hb⟩ := hrel
      have hz := hb.out.size
      have hgl1 := hb1.out.lt
      have hgl2 := hb2.out.lt
      by_cases hlt : k < n + n2
      · obtain ⟨a4, c4, hv4, _, hw4⟩ := hrow.out.form
        rw [hlen] at hv4 hw4
        injection hv4 with e1 e2 e3
        subst e1 e3
        obtain ⟨b, o, rfl, c0, c1⟩ := hw4 k hlt
        have hcd := M.allF_code HO.out HO2.out hlt
        obtain ⟨C, hC⟩ : ∃ C, M.allF F T n F2 T2 n2 k = C := ⟨_, rfl⟩
        rw [show nF (M.flst F T n ++ M.flst F2 T2 n2) k = C from hC] at c0
        generalize nT (M.flst F T n ++ M.flst F2 T2 n2) k = D at c1
        rw [hC] at hcd
        have hcs := M.code_size hcd
        have hsa : M.sameAt F T n F2 T2 n2 C = decide (M.endS (M.res F T n C) = M.endS (M.res F2 T2 n2 C)) := rfl
        have hr1 := resV_eq (M.res F T n C)
        have hr2 := resV_eq (M.res F2 T2 n2 C)
        obtain ⟨s1, hs1⟩ : ∃ s, M.endS (M.res F T n C) = s := ⟨_, rfl⟩
        obtain ⟨s2, hs2⟩ : ∃ s, M.endS (M.res F2 T2 n2 C) = s := ⟨_, rfl⟩
        obtain ⟨y1, hy1⟩ : ∃ y, (M.res F T n C).isSome = y := ⟨_, rfl⟩
        obtain ⟨y2, hy2⟩ : ∃ y, (M.res F2 T2 n2 C).isSome = y := ⟨_, rfl⟩
        obtain ⟨t1, ht1⟩ : ∃ t, M.cntOf (M.res F T n C) = t := ⟨_, rfl⟩
        obtain ⟨t2, ht2⟩ : ∃ t, M.cntOf (M.res F2 T2 n2 C) = t := ⟨_, rfl⟩
        rw [hs1, hy1, ht1] at hr1
        rw [hs2, hy2, ht2] at hr2
        rw [hs1, hs2] at hsa
        have HR1 := Lib.hid hr1
        have HR2 := Lib.hid hr2
        have HSA := Lib.hid hsa
        have HC := Lib.hid hC
        have OB : Hid (∀ q, q = g1 ∨ q = g2 → ∀ bb, (Value.slice (some ⟨b, o, none⟩) (n + n2) c3).ownBlock = some bb → ¬ bb = q) := fun q hq bb hbb e => by
          have := (hrow.out.lt bb hbb).1
          rcases hq with rfl | rfl <;> omega
        have hne12 : g1 ≠ g2 := by omega
        clear hs1 hs2 hy1 hy2 ht1 ht2 hsa hC hcd hr1 hr2 hw4
        by_cases he : s1 = s2
        · subst he
          have hd : (s1.toList == s1.toList) = true := by simp
          have hsa : Hid (M.sameAt F T n F2 T2 n2 (M.allF F T n F2 T2 n2 k) = true) := by rw [Hid, HC.out, HSA.out]; exact decide_eq_true rfl
          go_wp2_with (first
            | (go_at_call 24; refine (resolve_any _ w1.heap.size g2 (m2 + k) n2 f2 F2 T2 B2a.out C hcs (by omega) hN2).mono ?_; rintro e wb ⟨rfl, ⟨f2', hB2⟩, ho⟩; rw [HR2.out]; have B1b := Lib.hid (B1a.out.keep2 B2a.out hne12 ho); have B2b := Lib.hid hB2; have Rb := Lib.hid (Ra.out.only ho (fun bb hbb => OB.out g2 (Or.inr rfl) bb hbb)); have Kb : Hid (Below w.heap.size w wb) := Ka.out.trans (ho.below (B := w.heap.size) (fun k hk _ (e : k = g2) => by omega) hza); clear hB2 ho)
            | (go_at_call 24; refine (resolve_any _ w.heap.size g1 (m1 + k) n f1 F T (hb1.out.on (by go_grown)) C hcs (by omega) hN).mono ?_; rintro e wa ⟨rfl, ⟨f1', hB1⟩, ho⟩; rw [HR1.out]; have q0 : wa.cell? ⟨wr.heap.size, 0, none⟩ = some (.string C) := (World.cell?_of_block (a := ⟨wr.heap.size, 0, none⟩) (ho.block wr.heap.size (by simp) (by omega))).trans (by simp); have hla : wr.heap.size < wa.heap.size := World.block_lt_of_cell? _ _ q0; have B2a := Lib.hid ((hb2.out.on (by go_grown)).keep2 (hb1.out.on (by go_grown)) (Ne.symm hne12) ho); have B1a := Lib.hid hB1; have Oa : Hid (Only wr wa (fun k => k = g1)) := (Only.new (by go_grown)).trans ho (fun _ _ h => h); have Ra := Lib.hid (hrow.out.only Oa.out (fun bb hbb => OB.out g1 (Or.inl rfl) bb hbb)); have Ka : Hid (Below w.heap.size w wa) := hb.out.trans (Oa.out.below (B := w.heap.size) (fun k hk _ (e : k = g1) => by omega) hz); have hza := Ka.out.size; clear hB1 ho Oa))
          go_roundw
          case rel =>
            have hall2 : Hid (∀ j, j < k + 1 → M.sameAt F T n F2 T2 n2 (M.allF F T n F2 T2 n2 j) = true) := fun q hq => by
              by_cases e : q = k
              · rw [e]; exact hsa.out
              · exact hall.out q (by omega)
            exact ⟨k + 1, f1', f2', by omega, by go_num, hall2, B1b, B2b, Rb, Kb⟩
          case measure => simp [intOf]; omega
        · have hd : (s1.toList == s2.toList) = false := neq_list0 he
          have hsa : M.sameAt F T n F2 T2 n2 (M.allF F T n F2 T2 n2 k) = false := by rw [HC.out, HSA.out]; exact decide_eq_false he
          have hv := Lib.hid (M.same_out hlt hsa)
          clear hsa he
          go_wp2_with (first
            | (go_at_call 24; refine (resolve_any _ w1.heap.size g2 (m2 + k) n2 f2 F2 T2 B2a.out C hcs (by omega) hN2).mono ?_; rintro e wb ⟨rfl, ⟨f2', hB2⟩, ho⟩; rw [HR2.out]; have B1b := Lib.hid (B1a.out.keep2 B2a.out hne12 ho); have B2b := Lib.hid hB2; have Rb := Lib.hid (Ra.out.only ho (fun bb hbb => OB.out g2 (Or.inr rfl) bb hbb)); have Kb : Hid (Below w.heap.size w wb) := Ka.out.trans (ho.below (B := w.heap.size) (fun k hk _ (e : k = g2) => by omega) hza); clear hB2 ho)
            | (go_at_call 24; refine (resolve_any _ w.heap.size g1 (m1 + k) n f1 F T (hb1.out.on (by go_grown)) C hcs (by omega) hN).mono ?_; rintro e wa ⟨rfl, ⟨f1', hB1⟩, ho⟩; rw [HR1.out]; have q0 : wa.cell? ⟨wr.heap.size, 0, none⟩ = some (.string C) := (World.cell?_of_block (a := ⟨wr.heap.size, 0, none⟩) (ho.block wr.heap.size (by simp) (by omega))).trans (by simp); have hla : wr.heap.size < wa.heap.size := World.block_lt_of_cell? _ _ q0; have B2a := Lib.hid ((hb2.out.on (by go_grown)).keep2 (hb1.out.on (by go_grown)) (Ne.symm hne12) ho); have B1a := Lib.hid hB1; have Oa : Hid (Only wr wa (fun k => k = g1)) := (Only.new (by go_grown)).trans ho (fun _ _ h => h); have Ra := Lib.hid (hrow.out.only Oa.out (fun bb hbb => OB.out g1 (Or.inl rfl) bb hbb)); have Ka : Hid (Below w.heap.size w wa) := hb.out.trans (Oa.out.below (B := w.heap.size) (fun k hk _ (e : k = g1) => by omega) hz); have hza := Ka.out.size; clear hB1 ho Oa))
          go_ret
          exact ⟨by rw [hv.out]; rfl, Kb.out⟩
      · obtain rfl : k = n + n2 := by omega
        have hv := Lib.hid (M.same_end HO.out HO2.out hall.out)
        go_wp2
        go_ret
        exact ⟨by rw [hv.out]; rfl, hb.out⟩
end Go.Proofs.Ytekkajgifgnklaa
