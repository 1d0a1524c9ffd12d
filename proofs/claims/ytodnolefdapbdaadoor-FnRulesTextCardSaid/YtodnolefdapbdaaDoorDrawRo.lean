/-
  Drawn rules, all of them VALID.
-/
import Derived.Test.YtodnolefdapbdaaDoorDrawRl
import Derived.Test.YtodnolefdapbdaaDoorDrawVa
namespace Go.Proofs.YtodnolefdapbdaaDoor
open Go.RowKit
open Go.PlainAid (bt get_bt bt_nonneg bt_le)
set_option linter.unusedVariables false

theorem digS_lit4 : DigS ⟨#[49, 50, 48, 48]⟩ := fun i hi => by
  have h := get_bt (⟨#[49, 50, 48, 48]⟩ : ByteArray) i hi
  have e : ∀ i (h : i < 4), 48 ≤ ((⟨#[49, 50, 48, 48]⟩ : ByteArray)[i]'h).toNat ∧ ((⟨#[49, 50, 48, 48]⟩ : ByteArray)[i]'h).toNat ≤ 57 := by decide
  have := e i hi
  omega
theorem digS_pick (s : ByteArray) (h : s ∈ [(⟨#[49]⟩ : ByteArray), ⟨#[48]⟩, ⟨#[50]⟩]) : DigS s := by
  simp only [List.mem_cons, List.mem_nil_iff, or_false] at h
  rcases h with rfl | rfl | rfl
  · exact digS_one 49 (by decide) (by decide)
  · exact digS_one 48 (by decide) (by decide)
  · exact digS_one 50 (by decide) (by decide)
theorem DigS.pre {s : ByteArray} (h : DigS s) {q : Nat} (hq : q ≤ 7) : M.prefixOk (s.extract 0 q) = true := by
  have hz : (s.extract 0 q).size ≤ 7 := by rw [ByteArray.size_extract]; omega
  unfold M.prefixOk M.digs
  rw [Bool.and_eq_true, Bool.and_eq_true]
  refine ⟨⟨(M.digsTo_iff _ _).2 fun i hi => ?_, decide_eq_true (by omega)⟩, decide_eq_true hz⟩
  have hi2 := hi
  rw [ByteArray.size_extract] at hi2
  have h1 := get_bt (s.extract 0 q) i hi
  have h2 := get_bt s i (by omega)
  have h3 : (s.extract 0 q)[i]'hi = s[i]'(by omega) := by simp [ByteArray.getElem_extract]
  rw [h3] at h1
  have := h i (by omega)
  omega
set_option maxHeartbeats 1000000 in
theorem l6Head_dig (W w : World) (r N : Nat) (h : Sg W w r N) (hN : N ≤ 90000) :
    Calls Tryd.prog 55 #[.pointer (some ⟨r, 0, none⟩)] w (CodeSg W r (N + 3)) := by
  have hr := h.1.lt
  go_enter Tryd.func55, Tryd.ntmps55
  go_wp2_with fail
  refine (of_sg W [⟨#[49]⟩, ⟨#[48]⟩, ⟨#[50]⟩] w.heap.size _ r _ (h.alloc _) (by omega) (by decide) (by decide) (by omega) (cells_str [⟨#[49]⟩, ⟨#[48]⟩, ⟨#[50]⟩] _ w)).mono ?_
  rintro e w1 ⟨s, rfl, hm, sg1⟩
  have hs := (show ∀ x ∈ [(⟨#[49]⟩ : ByteArray), ⟨#[48]⟩, ⟨#[50]⟩], x.size = 1 from by decide) s hm
  have HDS := Lib.hid (digS_pick s hm)
  clear h hm
  have HS := Lib.hid hs
  have hs1 : s.size ≤ 1 := Nat.le_of_eq hs
  clear hs
  go_wp2_with fail
  refine (pick_sg W _ _ r _ sg1 (by omega) (by omega) (by omega)).mono ?_
  rintro e w2 ⟨v, rfl, v0, v1, sg2⟩
  clear sg1
  go_wp2_with fail
  refine (l9Dec_dig _ _ v0 (by omega)).mono ?_
  rintro e w3 ⟨t, rfl, t0, t1, hdt, hb3⟩
  have HDT := Lib.hid hdt
  clear hdt
  have sg3 := sg2.below hb3
  clear sg2 hb3
  go_wp2_with fail
  refine (pick_sg W _ _ r _ sg3 (by omega) (by omega) (by omega)).mono ?_
  rintro e w4 ⟨u, rfl, u0, u1, sg4⟩
  clear sg3
  go_wp2_with fail
  refine (l9Dec_dig _ _ u0 (by omega)).mono ?_
  rintro e w5 ⟨y, rfl, y0, y1, hdy, hb5⟩
  have HDY := Lib.hid hdy
  clear hdy
  have sg5 := sg4.below hb5
  clear sg4 hb5
  have hz : ((((⟨#[49, 50, 48, 48]⟩ : ByteArray) ++ s) ++ t) ++ y).size = 7 := by
    have := HS.out
    simp only [ByteArray.size_append]
    rw [this, show (⟨#[49, 50, 48, 48]⟩ : ByteArray).size = 4 from rfl]; omega
  have HZ := Lib.hid hz
  clear hz
  go_wp2
  go_ret
  exact ⟨_, rfl, ((digS_lit4.app HDS.out).app HDT.out).app HDY.out, HZ.out, sg5⟩

theorem nR_app_left {L R : List (ByteArray × ByteArray)} {i : Nat} (h : i < L.length) : nF (L ++ R) i = nF L i ∧ nT (L ++ R) i = nT L i := by
  have h2 : i < (L ++ R).length := by rw [List.length_append]; omega
  rw [nF_at h2, nT_at h2, nF_at h, nT_at h, List.getElem_append_left h]
  exact ⟨rfl, rfl⟩
theorem nR_app_last {L : List (ByteArray × ByteArray)} {x y : ByteArray} : nF (L ++ [(x, y)]) L.length = x ∧ nT (L ++ [(x, y)]) L.length = y := by
  have h2 : L.length < (L ++ [(x, y)]).length := by rw [List.length_append]; exact Nat.lt_succ_self _
  rw [nF_at h2, nT_at h2]
  simp
def OkR (L : List (ByteArray × ByteArray)) : Prop := M.rulTo (nF L) (nT L) L.length = true
theorem okR_nil : OkR [] := rfl
theorem OkR.more {L : List (ByteArray × ByteArray)} (h : OkR L) {x y : ByteArray} (hx : M.prefixOk x = true) (hy : M.name y = true) (hn : ∀ j, j < L.length → nF L j ≠ x) : OkR (L ++ [(x, y)]) :=
  (M.rulTo_iff _ _ _).2 fun i hi => by
    rw [List.length_append] at hi
    have hi1 : i < L.length + 1 := hi
    rcases Nat.lt_or_ge i L.length with e | e
    · obtain ⟨g1, g2, g3⟩ := (M.rulTo_iff _ _ _).1 h i e
      obtain ⟨e1, e2⟩ := nR_app_left (R := [(x, y)]) e
      rw [e1, e2]
      exact ⟨g1, g2, fun k hk => by rw [(nR_app_left (R := [(x, y)]) (show k < L.length by omega)).1]; exact g3 k hk⟩
    · obtain rfl : i = L.length := by omega
      obtain ⟨e1, e2⟩ := nR_app_last (L := L) (x := x) (y := y)
      rw [e1, e2]
      exact ⟨hx, hy, fun k hk => by rw [(nR_app_left (R := [(x, y)]) hk).1]; exact hn k hk⟩
theorem OkR.rul {L : List (ByteArray × ByteArray)} (h : OkR L) (hl : L.length ≤ 8) : M.rul L.length (nF L) (nT L) = true := M.rul_all h (by omega)
def RRowOk (W : World) (base m r N : Nat) (e : Ending) (w' : World) : Prop := ∃ (v : Value) (L : List (ByteArray × ByteArray)), e = .returned v ∧ RRow w' base v L ∧ L.length ≤ m ∧ OkR L ∧ Sg W w' r N
def NamSg (W : World) (r N : Nat) (e : Ending) (w' : World) : Prop := ∃ s : ByteArray, e = .returned (.string s) ∧ M.name s = true ∧ Sg W w' r N
/-- A slice of the call's own, of short strings that nobody writes. -/
def NmX (w : World) (v : Value) (r B : Nat) : Prop := ∃ (b c : Nat) (S : List ByteArray), v = .slice (some ⟨b, 0, none⟩) S.length c ∧ 1 ≤ S.length ∧ S.length ≤ 100 ∧ b ≠ r ∧ b < B ∧ (∀ x ∈ S, M.name x = true) ∧ ∀ i, i < S.length → w.cell? ⟨b, i, none⟩ = some (.string (S.getD i ByteArray.empty))
theorem NmX.on {w w' : World} {v : Value} {r B : Nat} {row : Option Nat} (h : NmX w v r B) (hg : w.grownBy w' row) (hn : ∀ b, row = some b → B ≤ b) : NmX w' v r B := by
  obtain ⟨b, c, S, e, h1, h2, h3, h4, h5, h6⟩ := h
  exact ⟨b, c, S, e, h1, h2, h3, h4, h5, fun i hi => hg.cell (h6 i hi) (by intro e2; have := hn b e2.symm; omega)⟩
theorem NmX.sg {w w' : World} {v : Value} {r B N : Nat} (h : NmX w v r B) (hs : Sg w w' r N) : NmX w' v r B := by
  obtain ⟨b, c, S, e, h1, h2, h3, h4, h5, h6⟩ := h
  exact ⟨b, c, S, e, h1, h2, h3, h4, h5, fun i hi => hs.2.cell (h6 i hi) (by intro e2; injection e2 with e2; exact h3 e2)⟩
theorem of_nmx (W w : World) (v : Value) (r N B : Nat) (h : Sg W w r N) (hN : N < 100000) (hn : NmX w v r B) :
    Calls Tryd.prog 32 #[.pointer (some ⟨r, 0, none⟩), v] w (NamSg W r (N + 1)) := by
  obtain ⟨b, c, S, rfl, h1, h2, h3, h4, h5, h6⟩ := hn
  exact (of_sgc W S b c w r N h hN h1 (by omega) h3 h6).mono fun e w' hp => by
    obtain ⟨x, he, hm, sg⟩ := hp
    exact ⟨x, he, h5 x hm, sg⟩

set_option maxHeartbeats 2000000 in
theorem l6Rules_ok (w : World) (vn : Value) (r N : Nat) (h : Rd w r N) (hN : N ≤ 80000) (hn : NmX w vn r w.heap.size) :
    Calls Tryd.prog 39 #[.pointer (some ⟨r, 0, none⟩), vn] w (RRowOk w w.heap.size 5 r (N + 50)) := by
  have hr := h.lt
  have he := rone_frow w
  have sg := ((Sg.start h).alloc (.cells #[] 56)).alloc (.cells #[.int .i64 3, .int .i64 4, .int .i64 2, .int .i64 5, .int .i64 1, .int .i64 0] 3)
  have hc := cells_int [3, 4, 2, 5, 1, 0] 3 (w.alloc (.cells #[] 56))
  simp only [World.size_alloc] at hc
  have HC := Lib.hid hc
  have HE := Lib.hid (he.alloc (.cells #[.int .i64 3, .int .i64 4, .int .i64 2, .int .i64 5, .int .i64 1, .int .i64 0] 3))
  have SG := Lib.hid sg
  have RD := Lib.hid sg.1
  have NM := Lib.hid hn
  clear sg h he hc hn
  go_enter Tryd.func39, Tryd.ntmps39
  go_wp2_with fail
  refine (num_sg _ [3, 4, 2, 5, 1, 0] (w.heap.size + 1) _ r _ (Sg.start RD.out) (by omega) (by decide) (by decide) (by omega) HC.out).mono ?_
  rintro e w1 ⟨v, rfl, hm, sg1⟩
  have hv := (show ∀ x ∈ [(3 : Int), 4, 2, 5, 1, 0], 0 ≤ x ∧ x ≤ 5 from by decide) v hm
  obtain ⟨n, rfl⟩ := Int.eq_ofNat_of_zero_le hv.1
  have hn5 : n ≤ 5 := by omega
  have R1 := Lib.hid (HE.out.rsg sg1 hr)
  have S1 := Lib.hid (SG.out.trans sg1)
  clear hm hv sg1 HE SG RD HC
  go_wp2
  go_loopw [5, 6] (fun u i wr => ∃ (k : Nat) (L : List (ByteArray × ByteArray)), i = .int .i64 k ∧ k ≤ 5 ∧ L.length + k ≤ 5 ∧ Hid (OkR L) ∧ Hid (RRow wr w.heap.size u L) ∧ Hid (Sg w wr r (N + 1 + 5 * (5 - k))) ∧ Hid (NmX wr vn r w.heap.size)) (fun _ i _ => (intOf i).toNat)
  case atStart => exact ⟨n, [], rfl, by omega, by simpa using hn5, okR_nil, R1, S1.out.mono (by omega) (by omega), NM.out.sg S1.out⟩
  case round =>
    obtain ⟨k, L, rfl, hk5, hk, hsm, hrow, hsg, hnm⟩ := hrel
    have hrw := hsg.out.1.lt
    have hwb : w.heap.size ≤ wr.heap.size := hsg.out.2.size
    by_cases h0 : 0 < k
    · have hk0 : (0 : Int) < (k : Int) := by omega
      obtain ⟨a, c, rfl, hlc, _⟩ := hrow.out.form
      have rdL := hsg.out.1
      have sgL := Sg.start rdL
      have hwr : wr.heap.size ≠ r := by omega
      have hwr1 : wr.heap.size + 1 ≠ r := by omega
      go_wp2_with fail
      go_cut [7] from 16 to 25 (fun s7 wx => ∃ (X : Nat) (s t : ByteArray), s7 = .pointer (some ⟨X, 0, none⟩) ∧ Hid (M.prefixOk s = true) ∧ Hid (M.name t = true) ∧ Hid (DY wr wx r (N + 1 + 5 * (5 - k) + 5) X s t))
      case first =>
        go_region_held3 (fun _ => True) (exact trivial) (first
          | (go_at_call 55; refine (l6Head_dig _ _ r _ (Sg.start (Rd.below rdL (by go_grown))) (by omega)).mono ?_; rintro e w7 ⟨s7, rfl, hds7, h77, st7⟩; have HD7 := Lib.hid hds7; clear hds7; have s70 : 7 ≤ s7.size := (by omega); have s71 : s7.size ≤ 7 := (by omega); clear h77; have o7 := (sgL.below (by go_grown)).trans st7; have z7 := st7.2.size; have y7 := o7.2.size; have hc7 := sg_cells st7; have hf7 := sg_frozen st7; (try (have x7_00 : wr.heap.size < w7.heap.size := (by have hq := st7.2.size; first | omega | (simp at hq; omega)))); (try (have x7_01 : wr.heap.size + 1 < w7.heap.size := (by have hq := st7.2.size; first | omega | (simp at hq; omega))));  (have hq7 : w7.heap.size ≠ r := by have := st7.1.lt; omega); (have hq71 : w7.heap.size + 1 ≠ r := by have := st7.1.lt; omega); clear st7)
          | (go_at_call 47; refine (num_sg _ [0, 4, 5, 6, 7, 2] _ _ r _ (Sg.start (Rd.below o7.1 (by go_grown))) (by omega) (by decide) (by decide) (by omega) (fun i hi => by first | exact cells_int [0, 4, 5, 6, 7, 2] _ _ i hi | exact (hc7 _ i (by first | (change _ < (World.alloc _ _).heap.size; simp; done) | (simp; done)) (by first | exact hwr | exact hwr1)).trans (cells_int [0, 4, 5, 6, 7, 2] _ _ i hi) | (rcases i with _ | _ | _ | _ | _ | _ | i <;> first | (simp [*, go_sem, cell_two]; done) | (exfalso; simp at hi <;> omega)))).mono ?_; rintro e w8 ⟨v8, rfl, hm8, st8⟩; have v8b := (show ∀ x ∈ [(0 : Int), 4, 5, 6, 7, 2], 0 ≤ x ∧ x ≤ 7 from by decide) v8 hm8; obtain ⟨q8, rfl⟩ := Int.eq_ofNat_of_zero_le v8b.1; (have q80 : (0 : Int) ≤ (q8 : Int) := by omega); (have q81 : (q8 : Int) ≤ (s7.size : Int) := by omega); (have q82 : q8 ≤ s7.size := by omega); have o8 := (o7.below (by go_grown)).trans st8; have z8 := st8.2.size; have y8 := o8.2.size; have hc8 := sg_cells st8; have hf8 := sg_frozen st8; (have y87 : w7.heap.size ≤ w8.heap.size := (by have hq := st8.2.size; first | omega | (simp at hq; omega))); (try (have x8_00 : wr.heap.size < w8.heap.size := (by have hq := st8.2.size; first | omega | (simp at hq; omega)))); (try (have x8_01 : wr.heap.size + 1 < w8.heap.size := (by have hq := st8.2.size; first | omega | (simp at hq; omega)))); (try (have x8_10 : w7.heap.size < w8.heap.size := (by have hq := st8.2.size; first | omega | (simp at hq; omega)))); (try (have x8_11 : w7.heap.size + 1 < w8.heap.size := (by have hq := st8.2.size; first | omega | (simp at hq; omega))));  (have hq8 : w8.heap.size ≠ r := by have := st8.1.lt; omega); clear st8 hm8 v8b)
          | (go_at_call 32; refine (of_nmx _ _ vn r _ _ (Sg.start (Rd.below o8.1 (by go_grown))) (by omega) (hnm.out.sg (o8.below (by go_grown)))).mono ?_; rintro e w9 ⟨t9, rfl, hn9, st9⟩; have HN9 := Lib.hid hn9; clear hn9; have o9 := (o8.below (by go_grown)).trans st9; have z9 := st9.2.size; have y9 := o9.2.size; have hc9 := sg_cells st9; have hf9 := sg_frozen st9; (have y97 : w7.heap.size ≤ w9.heap.size := (by have hq := st9.2.size; first | omega | (simp at hq; omega))); (have y98 : w8.heap.size ≤ w9.heap.size := (by have hq := st9.2.size; first | omega | (simp at hq; omega))); (try (have x9_00 : wr.heap.size < w9.heap.size := (by have hq := st9.2.size; first | omega | (simp at hq; omega)))); (try (have x9_01 : wr.heap.size + 1 < w9.heap.size := (by have hq := st9.2.size; first | omega | (simp at hq; omega)))); (try (have x9_10 : w7.heap.size < w9.heap.size := (by have hq := st9.2.size; first | omega | (simp at hq; omega)))); (try (have x9_11 : w7.heap.size + 1 < w9.heap.size := (by have hq := st9.2.size; first | omega | (simp at hq; omega)))); (try (have x9_20 : w8.heap.size < w9.heap.size := (by have hq := st9.2.size; first | omega | (simp at hq; omega)))); (try (have x9_21 : w8.heap.size + 1 < w9.heap.size := (by have hq := st9.2.size; first | omega | (simp at hq; omega)))); clear st9))
        all_goals
          go_wp2_with fail
          go_meet
          have hzs : Hid (M.prefixOk (s7.extract 0 q8) = true) := HD7.out.pre (by omega)
          first
            | exact ⟨_, _, _, rfl, hzs, HN9, DY.new (o9.mono (by omega) (by omega)) _ _ _⟩
            | exact ⟨_, _, _, rfl, hzs, HN9, DY.set (u := .string ⟨#[]⟩) (v := .string ⟨#[]⟩) (o9.mono (by omega) (by omega)) (by omega) (by omega) (by simp [*, go_sem]) (by simp [*, go_sem]) _ _⟩
      case rest =>
        obtain ⟨X, s, t, rfl, hs8, ht8, hdx⟩ := hcut
        have hX := hdx.out.hX
        have p0 := hdx.out.c0
        have p1 := hdx.out.c1
        have lX := World.block_lt_of_cell? _ _ p0
        have R3 := Lib.hid (hrow.out.rsg hdx.out.sg hr)
        have S3 := Lib.hid (hsg.out.trans hdx.out.sg)
        have N3 := Lib.hid (hnm.out.sg hdx.out.sg)
        obtain ⟨a8, c8, e8, _, hms⟩ := R3.out.form
        injection e8 with e81 e82 e83
        subst e81
        have HX := Lib.hid (spec_l6Index wc a L.length c (nF L) (nT L) hms (by omega) s)
        have hrk := M.rank_bd (nF L) s L.length
        have hno := Lib.hid (fun (h : M.rankTo (nF L) s L.length < 0) => M.rank_none (S := nF L) (c := s) (n := L.length) (by have := (M.rank_bd (nF L) s L.length).1; omega))
        obtain ⟨q, hq⟩ : ∃ q, M.rankTo (nF L) s L.length = q := ⟨_, rfl⟩
        rw [hq] at hrk HX hno
        clear hdx hms e82 e83 hq rdL sgL hrow hsg hnm
        go_wp2_with fail
        refine HX.out.mono ?_
        rintro e w5 ⟨rfl, rfl⟩
        have hsz := S3.out.2.size
        by_cases hneg : q < 0
        · go_wp2_with (at_builtin; refine wpList_append_rule _ rfl _ _ rfl w.heap.size _ _ rfl (R3.out.alloc _) _ s t rfl ?_ (by omega) (by simp; omega) ?_)
          · simp [go_sem]
          · intro v' w5 hr5 hg5 ho5
            have S5 := Lib.hid ((S3.out.alloc _).rgrown (R3.out.alloc _) (Nat.le_refl _) hr hg5)
            have R5 := Lib.hid hr5
            have N5 := Lib.hid ((N3.out.sg ((Sg.start S3.out.1).alloc _)).on hg5 (fun b' e10 => ((R3.out.alloc (.cells #[.string s, .string t] 56)).lt b' e10).1))
            clear hr5 hg5 ho5
            go_wp2
            go_roundw
            case rel => exact ⟨k - 1, L ++ [(s, t)], by go_num, by omega, by simp; omega, hsm.out.more hs8.out ht8.out (hno.out hneg), R5, S5.out.mono (by omega) (by omega), N5⟩
            case measure => simp [intOf]; omega
        · go_wp2_with fail
          go_roundw
          case rel => exact ⟨k - 1, L, by go_num, by omega, by omega, hsm, R3, S3.out.mono (by omega) (by omega), N3⟩
          case measure => simp [intOf]; omega
    · obtain rfl : k = 0 := by omega
      go_wp2
      go_ret
      exact ⟨_, _, rfl, hrow, by omega, hsm.out, hsg.out.mono (by omega) (by omega)⟩
end Go.Proofs.YtodnolefdapbdaaDoor
