/-
  Drawn orders for texts, all of them VALID.
-/
import Derived.Test.YtodnolefdapbdaaDoorDrawVa
import Derived.Test.YtodnolefdapbdaaDoorDrawF2
namespace Go.Proofs.YtodnolefdapbdaaDoor
open Go.RowKit
open Go.PlainAid (bt get_bt bt_nonneg bt_le)
set_option linter.unusedVariables false

theorem digS_lit : DigS ⟨#[49, 50, 48, 48, 49]⟩ := fun i hi => by
  have h := get_bt (⟨#[49, 50, 48, 48, 49]⟩ : ByteArray) i hi
  have e : ∀ i (h : i < 5), 48 ≤ ((⟨#[49, 50, 48, 48, 49]⟩ : ByteArray)[i]'h).toNat ∧ ((⟨#[49, 50, 48, 48, 49]⟩ : ByteArray)[i]'h).toNat ≤ 57 := by decide
  have := e i hi
  omega
set_option maxHeartbeats 1000000 in
theorem l4Code_code (W w : World) (r N : Nat) (h : Sg W w r N) (hN : N ≤ 90000) :
    Calls Tryd.prog 48 #[.pointer (some ⟨r, 0, none⟩)] w (CodeSg W r (N + 1)) := by
  go_enter Tryd.func48, Tryd.ntmps48
  go_wp2_with fail
  refine (pick_sg W _ _ r _ h (by omega) (by omega) (by omega)).mono ?_
  rintro e w1 ⟨v, rfl, v0, v1, sg1⟩
  go_wp2_with fail
  refine (l1Show_dig v 2 _ v0 (by omega) (by omega)).mono ?_
  rintro e w2 ⟨s, rfl, q0, q1, hd, hb2⟩
  have HD := Lib.hid hd
  clear hd
  have sg2 := sg1.below hb2
  have hz : ((⟨#[49, 50, 48, 48, 49]⟩ : ByteArray) ++ s).size = 5 + s.size := by rw [ByteArray.size_append]; rfl
  go_wp2
  go_ret
  exact ⟨_, rfl, digS_lit.app HD.out, by rw [hz]; omega, sg2⟩
theorem nF_app_left {L R : List (ByteArray × ByteArray)} {i : Nat} (h : i < L.length) : nF (L ++ R) i = nF L i ∧ nT (L ++ R) i = nT L i := by
  have h2 : i < (L ++ R).length := by rw [List.length_append]; omega
  rw [nF_at h2, nT_at h2, nF_at h, nT_at h, List.getElem_append_left h]
  exact ⟨rfl, rfl⟩
theorem nF_app_last {L : List (ByteArray × ByteArray)} {x y : ByteArray} : nF (L ++ [(x, y)]) L.length = x ∧ nT (L ++ [(x, y)]) L.length = y := by
  have h2 : L.length < (L ++ [(x, y)]).length := by rw [List.length_append]; exact Nat.lt_succ_self _
  rw [nF_at h2, nT_at h2]
  simp
def OkF (L : List (ByteArray × ByteArray)) : Prop := M.fwdTo (nF L) (nT L) L.length = true
theorem okF_nil : OkF [] := rfl
theorem OkF.more {L : List (ByteArray × ByteArray)} (h : OkF L) {x y : ByteArray} (hx : M.code x = true) (hy : M.code y = true) (hn : ∀ j, j < L.length → nF L j ≠ x) : OkF (L ++ [(x, y)]) :=
  (M.fwdTo_iff _ _ _).2 fun i hi => by
    rw [List.length_append] at hi
    have hi1 : i < L.length + 1 := hi
    rcases Nat.lt_or_ge i L.length with e | e
    · obtain ⟨g1, g2, g3⟩ := (M.fwdTo_iff _ _ _).1 h i e
      obtain ⟨e1, e2⟩ := nF_app_left (R := [(x, y)]) e
      rw [e1, e2]
      exact ⟨g1, g2, fun k hk => by rw [(nF_app_left (R := [(x, y)]) (show k < L.length by omega)).1]; exact g3 k hk⟩
    · obtain rfl : i = L.length := by omega
      obtain ⟨e1, e2⟩ := nF_app_last (L := L) (x := x) (y := y)
      rw [e1, e2]
      exact ⟨hx, hy, fun k hk => by rw [(nF_app_left (R := [(x, y)]) hk).1]; exact hn k hk⟩
theorem OkF.fwd {L : List (ByteArray × ByteArray)} (h : OkF L) (hl : L.length ≤ 8) : M.fwd L.length (nF L) (nT L) = true := by
  rw [M.fwd_end h]
  exact decide_eq_true (by omega)
def FRowOk (W : World) (base m r N : Nat) (e : Ending) (w' : World) : Prop := ∃ (v : Value) (L : List (ByteArray × ByteArray)), e = .returned v ∧ FRow w' base v L ∧ L.length ≤ m ∧ OkF L ∧ Sg W w' r N
set_option maxHeartbeats 2000000 in
theorem l4Some_ok (w : World) (r N : Nat) (h : Rd w r N) (hN : N ≤ 80000) :
    Calls Tryd.prog 30 #[.pointer (some ⟨r, 0, none⟩)] w (FRowOk w w.heap.size 8 r (N + 50)) := by
  have hr := h.lt
  have he := one_frow w
  have sg := ((Sg.start h).alloc (.cells #[] 44)).alloc (.cells #[.int .i64 4, .int .i64 3, .int .i64 6, .int .i64 2, .int .i64 8, .int .i64 0] 3)
  have hc := cells_int [4, 3, 6, 2, 8, 0] 3 (w.alloc (.cells #[] 44))
  simp only [World.size_alloc] at hc
  have HC := Lib.hid hc
  have HE := Lib.hid (he.alloc (.cells #[.int .i64 4, .int .i64 3, .int .i64 6, .int .i64 2, .int .i64 8, .int .i64 0] 3))
  have SG := Lib.hid sg
  have RD := Lib.hid sg.1
  clear sg h he hc
  go_enter Tryd.func30, Tryd.ntmps30
  go_wp2_with fail
  refine (num_sg _ [4, 3, 6, 2, 8, 0] (w.heap.size + 1) _ r _ (Sg.start RD.out) (by omega) (by decide) (by decide) (by omega) HC.out).mono ?_
  rintro e w1 ⟨v, rfl, hm, sg1⟩
  have hv := (show ∀ x ∈ [(4 : Int), 3, 6, 2, 8, 0], 0 ≤ x ∧ x ≤ 8 from by decide) v hm
  obtain ⟨n, rfl⟩ := Int.eq_ofNat_of_zero_le hv.1
  have hn : n ≤ 8 := by omega
  have R1 := Lib.hid (HE.out.sg sg1 hr)
  have S1 := Lib.hid (SG.out.trans sg1)
  clear hm hv sg1 HE SG RD HC
  go_wp2
  go_loopw [3, 4] (fun u i wr => ∃ (k : Nat) (L : List (ByteArray × ByteArray)), i = .int .i64 k ∧ L.length + k ≤ 8 ∧ k ≤ n ∧ Hid (OkF L) ∧ Hid (FRow wr w.heap.size u L) ∧ Hid (Sg w wr r (N + 1 + 2 * (n - k)))) (fun _ i _ => (intOf i).toNat)
  case atStart => exact ⟨n, [], rfl, by simpa using hn, Nat.le_refl _, okF_nil, R1, by rw [Nat.sub_self]; exact S1⟩
  case round =>
    obtain ⟨k, L, rfl, hk, hkn, hsm, hrow, hsg⟩ := hrel
    by_cases h0 : 0 < k
    · have hk0 : (0 : Int) < (k : Int) := by omega
      go_wp2_with fail
      refine (l4Code_code _ _ r _ (Sg.start hsg.out.1) (by omega)).mono ?_
      rintro e w3 ⟨s, rfl, hds, s7, sg3⟩
      have CS := Lib.hid (hds.code s7)
      clear hds
      have R3 := Lib.hid (hrow.out.sg sg3 hr)
      have S3 := Lib.hid (hsg.out.trans sg3)
      clear sg3 hrow hsg
      go_wp2_with fail
      refine (l4Code_code _ _ r _ (Sg.start S3.out.1) (by omega)).mono ?_
      rintro e w4 ⟨t, rfl, hdt, t7, sg4⟩
      have CT := Lib.hid (hdt.code t7)
      clear hdt
      have R4 := Lib.hid (R3.out.sg sg4 hr)
      have S4 := Lib.hid (S3.out.trans sg4)
      have hw4 := S4.out.2.size
      clear sg4 R3 S3
      obtain ⟨a, c, hv, hlc, hst⟩ := R4.out.form
      have hx := Lib.hid (spec_l4Index (w4.alloc (.cells #[.string s, .string t] 44)) a L.length c (nF L) (nT L) (hst.on (below_alloc0 _ _)) (by omega) s)
      have hrk := M.rank_bd (nF L) s L.length
      obtain ⟨q, hq⟩ : ∃ q, M.rankTo (nF L) s L.length = q := ⟨_, rfl⟩
      have hno := Lib.hid (fun (h : M.rankTo (nF L) s L.length < 0) => M.rank_none (S := nF L) (c := s) (n := L.length) (by have := (M.rank_bd (nF L) s L.length).1; omega))
      rw [hq] at hrk hx hno
      subst hv
      clear hst hq
      by_cases hneg : q < 0
      · go_wp2_with (first
          | (go_at_call 43; refine (hx.out).mono ?_; rintro e w5 ⟨rfl, rfl⟩)
          | (at_builtin; refine wpList_append_forward _ rfl _ _ rfl w.heap.size _ _ rfl ((R4.out.alloc _).alloc _) _ s t rfl ?_ (by omega) (by simp; omega) ?_))
        · simp [go_sem]
        · intro v' w5 hr5 hg5 ho5
          have S5 := Lib.hid (((S4.out.alloc _).alloc _).fgrown ((R4.out.alloc _).alloc _) (Nat.le_refl _) hr hg5)
          have R5 := Lib.hid hr5
          clear hr5 hg5 ho5
          go_wp2
          go_roundw
          case rel => exact ⟨k - 1, L ++ [(s, t)], by go_num, by simp; omega, by omega, hsm.out.more CS.out CT.out (hno.out hneg), R5, S5.out.mono (by omega) (by omega)⟩
          case measure => simp [intOf]; omega
      · go_wp2_with (go_at_call 43; refine (hx.out).mono ?_; rintro e w5 ⟨rfl, rfl⟩)
        go_roundw
        case rel => exact ⟨k - 1, L, by go_num, by omega, by omega, hsm, R4.out.alloc _, (S4.out.alloc _).mono (by omega) (by omega)⟩
        case measure => simp [intOf]; omega
    · obtain rfl : k = 0 := by omega
      go_wp2
      go_ret
      exact ⟨_, _, rfl, hrow, by omega, hsm.out, hsg.out.mono (by omega) (by omega)⟩


theorem IsRow.beyond {k : IntKind} {w w' : World} {a : Option Addr} {l c : Nat} {z : List Int} (h : IsRow k w a l c z) (hb : Below w.heap.size w w') : IsRow k w' a l c z := by
  rcases h with h | ⟨x, hx, q1, q2, q3, q4, q5⟩
  · exact Or.inl h
  · exact Or.inr ⟨x, hx, q1, q2, q3, fun i hi => (hb.cell (p := x.add i) (World.block_lt_of_cell? _ _ (q4 i hi))).trans (q4 i hi), q5⟩
theorem text_full (s : ByteArray) (h : 0 < s.size) : ¬ s.toList = [] := by
  rw [ByteArray.toList_eq]
  intro e
  have h1 : s.data.toList.length = 0 := by rw [e]; rfl
  rw [Array.length_toList] at h1
  have h2 : s.data.size = s.size := rfl
  omega
def StrTwoK (w : World) (e : Ending) (w' : World) : Prop := ∃ s : ByteArray, e = .returned (.string s) ∧ s.size ≤ 2000 ∧ Below w.heap.size w w'
def LetF (w : World) (e : Ending) (w' : World) : Prop := ∃ (v : Value) (L : List (ByteArray × ByteArray)) (B : Nat), e = .returned v ∧ FRow w' B v L ∧ L.length ≤ 31 ∧ SmallF 30 L ∧ Below w.heap.size w w'
set_option maxHeartbeats 1000000 in
theorem DrawFormatForwards_row (a : Option Addr) (l k : Nat) (z : List Int) (w : World) (h : IsRow .u8 w a l k z) :
    Calls Tryd.prog 5 #[.slice a l k] w (LetF w) := by
  go_enter Tryd.func5, Tryd.ntmps5
  go_wp2_with fail
  refine (open_any a l k z w h).mono ?_
  rintro e w1 ⟨r, rfl, rd1, b1, hwr⟩
  go_wp2_with fail
  refine (l4Open_any _ r _ rd1 (by omega)).mono ?_
  rintro e w2 ⟨base, v, L, rfl, hrb, R2, l2, S2, rd2, b2⟩
  have B2 := Lib.hid (b1.trans (b2.mono hwr))
  have R2 := Lib.hid R2
  have S2 := Lib.hid S2
  clear h rd1 b1 rd2 b2
  go_wp2
  go_ret
  exact ⟨_, L, base, rfl, R2.out, l2, S2.out, B2.out⟩
end Go.Proofs.YtodnolefdapbdaaDoor
