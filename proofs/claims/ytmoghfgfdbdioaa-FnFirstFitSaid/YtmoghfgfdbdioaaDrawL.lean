/-
  Drawn weights and trucks.
-/
import Derived.Test.YtmoghfgfdbdioaaDrawB
import Derived.Test.YtmoghfgfdbdioaaIntS
import Derived.Test.YtmoghfgfdbdioaaNumA
import Derived.Laws.Slices
namespace Go.Proofs.Ytmoghfgfdbdioaa
open Go.RowKit
set_option linter.unusedVariables false

theorem isgOnly {W w : World} {r N : Nat} (h : Sg W w r N) : Only W w (fun k => k = r) := (Only.of_grown h.2).mono fun x _ e => by injection e
theorem IRow.isg {w w' : World} {base r N : Nat} {v : Value} {L : List Int} (h : IRow w base v L) (hs : Sg w w' r N) (hr : r < base) : IRow w' base v L :=
  h.only (isgOnly hs) (fun b hb e => by have := (h.lt b hb).1; omega)
theorem Rd.igrown {w w' : World} {base r N : Nat} {v : Value} {L : List Int} (h : Rd w r N) (hr : IRow w base v L) (hrb : r < base) (hg : w.grownBy w' v.ownBlock) : Rd w' r N := by
  have hlt := h.lt
  have hne : ∀ b, b ≤ r → some b ≠ v.ownBlock := fun b hb e => by have := (hr.lt b e.symm).1; omega
  obtain ⟨p, a, l, k, hp, hN, h0, h1, hf, hlk, hk, hl, hB⟩ := h
  refine ⟨p, a, l, k, hp, hN, hg.cell h0 (hne r (Nat.le_refl _)), hg.cell h1 (hne r (Nat.le_refl _)), (World.frozen?_of_block (a := ⟨r, 1, none⟩) (hg.block r hlt (hne r (Nat.le_refl _)))).trans hf, hlk, hk, hl, ?_⟩
  rcases hB with hB | ⟨b, off, rfl, hbr, hB⟩
  · exact Or.inl hB
  · refine Or.inr ⟨b, off, rfl, hbr, fun i hi => ?_⟩
    obtain ⟨x, hx, x0, x1⟩ := hB i hi
    exact ⟨x, hg.cell hx (hne b (by omega)), x0, x1⟩
theorem Sg.igrown {W w w' : World} {base r N : Nat} {v : Value} {L : List Int} (h : Sg W w r N) (hr : IRow w base v L) (hb : W.heap.size ≤ base) (hrb : r < base) (hg : w.grownBy w' v.ownBlock) : Sg W w' r N :=
  ⟨h.1.igrown hr hrb hg, h.2.andThen hg fun j e => Or.inl (Nat.le_trans hb (hr.lt j e).1)⟩
/-- Drawn weights and a capacity. -/
def WtSg (w : World) (r N : Nat) (e : Ending) (w' : World) : Prop := ∃ (v : Value) (L : List Int) (q : Int), e = .returned (.tuple #[v, .int .i64 q]) ∧ IRow w' w.heap.size v L ∧ L.length ≤ 9 ∧ Sg w w' r N
set_option maxHeartbeats 4000000 in
set_option maxRecDepth 100000 in
theorem l5Weights_any (w : World) (r N : Nat) (h : Rd w r N) (hN : N ≤ 80000) :
    Calls Try.prog 28 #[.pointer (some ⟨r, 0, none⟩)] w (WtSg w r (N + 30)) := by
  have hr := h.lt
  go_enter Try.func28, Try.ntmps28
  go_wp2_with fail
  refine (num_sg w [10, 20, 7, 100] w.heap.size _ r _ ((Sg.start h).alloc _) (by omega) (by decide) (by decide) (by omega) (cells_int [10, 20, 7, 100] _ w)).mono ?_
  rintro e w1 ⟨q, rfl, hm1, sg1⟩
  have hq := (show ∀ x ∈ [(10 : Int), 20, 7, 100], 7 ≤ x ∧ x ≤ 100 from by decide) q hm1
  obtain ⟨q0, q1⟩ := hq
  have hr1 := sg1.1.lt
  have hz1 := sg1.2.size
  have E1 := Lib.hid ((one_irow w1).alloc (.cells #[.int .i64 5, .int .i64 6, .int .i64 4, .int .i64 7, .int .i64 8, .int .i64 3, .int .i64 0] 3))
  have S1 := Lib.hid ((sg1.alloc (.cells #[] 3)).alloc (.cells #[.int .i64 5, .int .i64 6, .int .i64 4, .int .i64 7, .int .i64 8, .int .i64 3, .int .i64 0] 3))
  have hc := cells_int [5, 6, 4, 7, 8, 3, 0] 3 (w1.alloc (.cells #[] 3))
  simp only [World.size_alloc] at hc
  have HC := Lib.hid hc
  clear h hm1 sg1 hc
  go_wp2_with fail
  refine (num_sg _ [5, 6, 4, 7, 8, 3, 0] (w1.heap.size + 1) _ r _ (Sg.start S1.out.1) (by omega) (by decide) (by decide) (by omega) HC.out).mono ?_
  rintro e w2 ⟨v, rfl, hm, sg2⟩
  have hv := (show ∀ x ∈ [(5 : Int), 6, 4, 7, 8, 3, 0], 0 ≤ x ∧ x ≤ 8 from by decide) v hm
  obtain ⟨n, rfl⟩ := Int.eq_ofNat_of_zero_le hv.1
  have hn : n ≤ 8 := by omega
  have R2 := Lib.hid (E1.out.isg sg2 hr1)
  have S2 := Lib.hid (S1.out.trans sg2)
  have hz2 : w1.heap.size ≤ w2.heap.size := by have := sg2.2.size; simp at this; omega
  clear hm hv sg2 E1 S1 HC
  go_wp2
  go_loopw [5, 6] (fun u i wr => ∃ (k : Nat) (L : List Int), i = .int .i64 k ∧ L.length + k ≤ 8 ∧ Hid (IRow wr w1.heap.size u L) ∧ Hid (Sg w wr r (N + 2 + L.length)) ∧ w1.heap.size ≤ wr.heap.size) (fun _ i _ => (intOf i).toNat)
  case atStart => exact ⟨n, [], rfl, by simpa using hn, R2, S2, hz2⟩
  case round =>
    obtain ⟨k, L, rfl, hk, hrow, hsg, hzr⟩ := hrel
    obtain ⟨a, c, rfl, hlc, _⟩ := hrow.out.form
    by_cases h0 : 0 < k
    · have hk0 : (0 : Int) < (k : Int) := by omega
      go_wp2_with fail
      refine (pick_sg _ q _ r _ (Sg.start hsg.out.1) (by omega) (by omega) (by omega)).mono ?_
      rintro e w3 ⟨x, rfl, x0, x1, sg3⟩
      have R3 := Lib.hid (hrow.out.isg sg3 hr1)
      have S3 := Lib.hid (hsg.out.trans sg3)
      have hz3 : w1.heap.size ≤ w3.heap.size := Nat.le_trans hzr sg3.2.size
      have sx : IntKind.i64.wrap (1 + x) = 1 + x := IntWalk.i64_in _ (by omega)
      clear sg3 hrow hsg
      go_wp2_with (at_builtin; refine wpList_append_int _ rfl _ _ rfl w1.heap.size _ _ rfl (R3.out.alloc _) _ (1 + x) rfl ?_ (by omega) (by simp; omega) ?_)
      · simp [go_sem]
      intro v' w4 hr4 hg4 ho4
      have S4 := Lib.hid ((S3.out.alloc _).igrown (R3.out.alloc _) hz1 hr1 hg4)
      have R4 := Lib.hid hr4
      have hz4 : w1.heap.size ≤ w4.heap.size := by have := hg4.size; simp at this; omega
      clear hr4 hg4 ho4 R3 S3
      go_wp2
      go_roundw
      case rel => exact ⟨k - 1, L ++ [1 + x], by go_num, by simp; omega, R4, S4.out.mono (by simp; omega) (by simp; omega), hz4⟩
      case measure => first | (simp [intOf]; done) | (simp [intOf]; omega)
    · obtain rfl : k = 0 := by omega
      go_wp2_with fail
      refine (pick_sg _ _ _ r _ (Sg.start hsg.out.1) (by omega) (by omega) (by omega)).mono ?_
      rintro e w3 ⟨t, rfl, t0, t1, sg3⟩
      have R3 := Lib.hid (hrow.out.isg sg3 hr1)
      have S3 := Lib.hid (hsg.out.trans sg3)
      have hz3 : w1.heap.size ≤ w3.heap.size := Nat.le_trans hzr sg3.2.size
      have hl8 : L.length ≤ 8 := by omega
      have sq : IntKind.i64.wrap (q + 1) = q + 1 := IntWalk.i64_in _ (by omega)
      clear sg3 hrow hsg
      cases c0 : (t == 0)
      · cases c1 : (t == 1)
        · cases c2 : (t == 2)
          · go_wp2
            go_ret2
            exact ⟨_, L, q, rfl, R3.out.lower hz1, by omega, S3.out.mono (by omega) (by omega)⟩
          · go_wp2
            go_loopw [5] (fun u wr => ∃ (M : List Int), M.length ≤ 9 ∧ Hid (IRow wr w1.heap.size u M) ∧ Hid (Sg w wr r (N + 20)) ∧ w1.heap.size ≤ wr.heap.size) (fun u _ => 9 - lenOf u)
            case atStart => exact ⟨L, by omega, R3, S3.out.mono (by omega) (by omega), hz3⟩
            case round =>
              obtain ⟨M, hM, hrow, hsg, hzr2⟩ := hrel
              obtain ⟨a5, c5, rfl, _, _⟩ := hrow.out.form
              by_cases hlt : M.length < 9
              · have hli : (M.length : Int) < 9 := by omega
                go_wp2_with (at_builtin; refine wpList_append_int _ rfl _ _ rfl w1.heap.size _ _ rfl (hrow.out.alloc _) _ 1 rfl ?_ (by omega) (by simp; omega) ?_)
                · simp [go_sem]
                intro v' w4 hr4 hg4 ho4
                have S4 := Lib.hid ((hsg.out.alloc _).igrown (hrow.out.alloc _) hz1 hr1 hg4)
                have R4 := Lib.hid hr4
                have hz4 : w1.heap.size ≤ w4.heap.size := by have := hg4.size; simp at this; omega
                clear hr4 hg4 ho4
                go_wp2
                go_roundw
                case rel => exact ⟨M ++ [1], by simp; omega, R4, S4, hz4⟩
                case measure =>
                  obtain ⟨a', c'', e, _⟩ := R4.out.form
                  rw [e]
                  simp [lenOf]
                  omega
              · have hli : ¬ (M.length : Int) < 9 := by omega
                go_wp2
                go_ret2
                exact ⟨_, M, q, rfl, hrow.out.lower hz1, hM, hsg.out.mono (by omega) (by omega)⟩
        · go_wp2_with fail
          refine (num_sg _ [0, 1000, 1001, 1] w3.heap.size _ r _ ((Sg.start S3.out.1).alloc _) (by omega) (by decide) (by decide) (by have := S3.out.1.lt; omega) (cells_int [0, 1000, 1001, 1] _ w3)).mono ?_
          rintro e w4 ⟨z, rfl, _, sg4⟩
          have R4 := Lib.hid (R3.out.isg sg4 hr1)
          have S4 := Lib.hid (S3.out.trans sg4)
          clear sg4 R3 S3
          go_wp2
          go_ret2
          exact ⟨_, L, z, rfl, R4.out.lower hz1, by omega, S4.out.mono (by omega) (by omega)⟩
      · go_wp2_with fail
        refine (num_sg _ [0, -1, q + 1, 9223372036854775807] w3.heap.size _ r _ ((Sg.start S3.out.1).alloc _) (by omega) (by simp) (by simp) (by have := S3.out.1.lt; omega) (cells_int [0, -1, q + 1, 9223372036854775807] _ w3)).mono ?_
        rintro e w4 ⟨z, rfl, _, sg4⟩
        have R4 := Lib.hid (R3.out.isg sg4 hr1)
        have S4 := Lib.hid (S3.out.trans sg4)
        have hz4 : w1.heap.size ≤ w4.heap.size := Nat.le_trans hz3 sg4.2.size
        clear sg4 R3 S3
        go_wp2_with (at_builtin; refine wpList_append_int _ rfl _ _ rfl w1.heap.size _ _ rfl (R4.out.alloc _) _ z rfl ?_ (by omega) (by simp; omega) ?_)
        · simp [go_sem]
        intro v' w5 hr5 hg5 ho5
        have S5 := Lib.hid ((S4.out.alloc _).igrown (R4.out.alloc _) hz1 hr1 hg5)
        have R5 := Lib.hid hr5
        clear hr5 hg5 ho5 R4 S4
        go_wp2
        go_ret2
        exact ⟨_, L ++ [z], q, rfl, R5.out.lower hz1, by simp; omega, S5.out.mono (by omega) (by omega)⟩
theorem nums_tail {w : World} {b o x : Nat} {L : List Int} (h : Nums w (some ⟨b, o, none⟩) L) (hx : 1 < L.length → x = o + 1) : Nums w (some ⟨b, x, none⟩) (L.drop 1) := by
  intro i hi
  rw [List.length_drop] at hi
  have hx := hx (by omega)
  subst hx
  obtain ⟨b', o', e, c⟩ := h (1 + i) (by omega)
  cases e
  have hd : MW.gz (L.drop 1) i = MW.gz L (1 + i) := by simp [MW.gz, List.getD, Nat.add_comm]
  exact ⟨b, o + 1, rfl, by rw [hd, Nat.add_assoc]; exact c⟩
theorem slice_tail1 (m b o c : Nat) (a : Option Addr) (ha : a = if c = 1 then some ⟨b, o, none⟩ else some ⟨b, o + 1, none⟩) (w : World) :
    (Instr.slice 23 (.slice (some ⟨b, o, none⟩) (m + 1) c) (some (.int .i64 1)) none none).run Try.prog w = .ok (.slice a m (c - 1)) w := by
  have he : Try.prog.underlying 23 = some (.slice (Try.prog.elem 23)) := by kernel_rfl
  have hz : ∀ w, (sizeOf (Try.prog.elem 23)).run Try.prog w = .ok 1 w := fun w => by kernel_rfl
  rw [run_slice_l w _ _ _ _ he .i64 1 (by omega) (by omega), hz, ha]
  rfl
/-- Drawn trucks. -/
def TrkSg (w : World) (r N : Nat) (e : Ending) (w' : World) : Prop := ∃ (a : Option Addr) (c : Nat) (G : List Int), e = .returned (.slice a G.length c) ∧ Nums w' a G ∧ G.length ≤ 10 ∧ Sg w w' r N
set_option maxHeartbeats 4000000 in
set_option maxRecDepth 100000 in
theorem l5Trucks_any (w : World) (r N n : Nat) (h : Rd w r N) (hN : N ≤ 80000) (hn : n ≤ 9) :
    Calls Try.prog 43 #[.pointer (some ⟨r, 0, none⟩), .int .i64 (n : Int)] w (TrkSg w r (N + 30)) := by
  have hr := h.lt
  have E0 := Lib.hid (one_irow w)
  have S0 := Lib.hid ((Sg.start h).alloc (.cells #[] 3))
  clear h
  go_enter Try.func43, Try.ntmps43
  go_wp2
  go_loopw [5, 6] (fun u i wr => ∃ (L : List Int), i = .int .i64 L.length ∧ L.length ≤ n ∧ Hid (IRow wr w.heap.size u L) ∧ Hid (Sg w wr r (N + L.length)) ∧ w.heap.size ≤ wr.heap.size) (fun _ i _ => n - (intOf i).toNat)
  case atStart => exact ⟨[], rfl, Nat.zero_le _, E0, S0, by simp⟩
  case round =>
    obtain ⟨L, rfl, hk, hrow, hsg, hzr⟩ := hrel
    by_cases hlt : L.length < n
    · obtain ⟨a, c, rfl, hlc, _⟩ := hrow.out.form
      have hki : (L.length : Int) < (n : Int) := by omega
      go_wp2_with fail
      refine (pick_sg _ _ _ r _ (Sg.start hsg.out.1) (by omega) (by omega) (by omega)).mono ?_
      rintro e w3 ⟨x, rfl, x0, x1, sg3⟩
      have R3 := Lib.hid (hrow.out.isg sg3 hr)
      have S3 := Lib.hid (hsg.out.trans sg3)
      have hz3 : w.heap.size ≤ w3.heap.size := Nat.le_trans hzr sg3.2.size
      clear sg3 hrow hsg
      go_wp2_with (at_builtin; refine wpList_append_int _ rfl _ _ rfl w.heap.size _ _ rfl (R3.out.alloc _) _ x rfl ?_ (by omega) (by simp; omega) ?_)
      · simp [go_sem]
      intro v' w4 hr4 hg4 ho4
      have S4 := Lib.hid ((S3.out.alloc _).igrown (R3.out.alloc _) (Nat.le_refl _) hr hg4)
      have R4 := Lib.hid hr4
      have hz4 : w.heap.size ≤ w4.heap.size := by have := hg4.size; simp at this; omega
      clear hr4 hg4 ho4 R3 S3
      go_wp2
      go_roundw
      case rel => exact ⟨L ++ [x], by simp, by simp; omega, R4, S4.out.mono (by simp; omega) (by simp; omega), hz4⟩
      case measure => first | (simp [intOf]; done) | (simp [intOf]; omega)
    · have hki : ¬ (L.length : Int) < (n : Int) := by omega
      go_wp2_with fail
      refine (pick_sg _ _ _ r _ (Sg.start hsg.out.1) (by omega) (by omega) (by omega)).mono ?_
      rintro e w3 ⟨t, rfl, t0, t1, sg3⟩
      have R3 := Lib.hid (hrow.out.isg sg3 hr)
      have S3 := Lib.hid (hsg.out.trans sg3)
      have hz3 : w.heap.size ≤ w3.heap.size := Nat.le_trans hzr sg3.2.size
      clear sg3 hrow hsg
      obtain ⟨a, c, rfl, hlc, _⟩ := R3.out.form
      have HN3 := Lib.hid R3.out.nums
      cases c0 : (t == 0)
      · cases c1 : (t == 1)
        · go_wp2
          go_ret
          exact ⟨_, _, L, rfl, HN3.out, by omega, S3.out.mono (by omega) (by omega)⟩
        · by_cases hn0 : 0 < n
          · have hk0 : (0 : Int) < (n : Int) := by omega
            have hL0 : 0 < L.length := by omega
            clear hlt hki
            obtain ⟨m, hm⟩ : ∃ m, L.length = m + 1 := ⟨L.length - 1, by omega⟩
            obtain ⟨b, o, rfl, _⟩ := HN3.out 0 (by omega)
            obtain ⟨x, hx⟩ : ∃ x, (if c = 1 then o else o + 1) = x := ⟨_, rfl⟩
            have ht := fun W => slice_tail1 m b o c (some ⟨b, x, none⟩) (by rw [← hx]; split <;> rfl) W
            have HT := Lib.hid ht
            have hxx : 1 < L.length → x = o + 1 := fun h1 => by rw [← hx, if_neg (by omega)]
            have HD := Lib.hid (nums_tail HN3.out hxx)
            have hdl : (L.drop 1).length = m := by rw [List.length_drop]; omega
            obtain ⟨D, hD⟩ : ∃ D, L.drop 1 = D := ⟨_, rfl⟩
            rw [hD] at HD hdl
            rw [hm]
            have hm9 : m ≤ 9 := by omega
            have hlc' : m + 1 ≤ c := by omega
            have hsl : L.length ≤ 9 := by omega
            have HM := Lib.hid hm
            clear hx ht hxx hD HN3 R3 hm
            have ht := HT.out
            go_wp2
            go_ret
            rw [← hdl]
            exact ⟨_, _, D, rfl, HD.out, by omega, S3.out.mono (by omega) (by omega)⟩
          · have hk0 : ¬ (0 : Int) < (n : Int) := by omega
            go_wp2
            go_ret
            exact ⟨_, _, L, rfl, HN3.out, by omega, S3.out.mono (by omega) (by omega)⟩
      · go_wp2_with fail
        refine (num_sg _ [-1, 7, 8, 0, 9223372036854775807] w3.heap.size _ r _ ((Sg.start S3.out.1).alloc _) (by omega) (by decide) (by decide) (by have := S3.out.1.lt; omega) (cells_int [-1, 7, 8, 0, 9223372036854775807] _ w3)).mono ?_
        rintro e w4 ⟨z, rfl, _, sg4⟩
        have R4 := Lib.hid (R3.out.isg sg4 hr)
        have S4 := Lib.hid (S3.out.trans sg4)
        have hz4 : w.heap.size ≤ w4.heap.size := Nat.le_trans hz3 sg4.2.size
        clear sg4 R3 S3 HN3
        go_wp2_with (at_builtin; refine wpList_append_int _ rfl _ _ rfl w.heap.size _ _ rfl (R4.out.alloc _) _ z rfl ?_ (by omega) (by simp; omega) ?_)
        · simp [go_sem]
        intro v' w5 hr5 hg5 ho5
        have S5 := Lib.hid ((S4.out.alloc _).igrown (R4.out.alloc _) (Nat.le_refl _) hr hg5)
        have R5 := Lib.hid hr5
        obtain ⟨a9, c9, rfl, _, _⟩ := hr5.form
        clear hr5 hg5 ho5 R4 S4
        go_wp2
        go_ret
        exact ⟨_, _, L ++ [z], rfl, R5.out.nums, by simp; omega, S5.out.mono (by omega) (by omega)⟩
/-- Drawn weights, and trucks for them. -/
def TwoNums (w : World) (e : Ending) (w' : World) : Prop := ∃ (a : Option Addr) (c : Nat) (W : List Int) (a2 : Option Addr) (c2 : Nat) (G : List Int), e = .returned (.tuple #[.slice a W.length c, .slice a2 G.length c2]) ∧ Nums w' a W ∧ W.length ≤ 9 ∧ Nums w' a2 G ∧ G.length ≤ 10 ∧ Below w.heap.size w w'
set_option maxHeartbeats 2000000 in
theorem DrawTruckLoads_any (a : Option Addr) (l k : Nat) (z : List Int) (w : World) (h : IsRow .u8 w a l k z) :
    Calls Try.prog 20 #[.slice a l k] w (TwoNums w) := by
  go_enter Try.func20, Try.ntmps20
  go_wp2_with fail
  refine (open_any a l k z w h).mono ?_
  rintro e w1 ⟨r, rfl, rd1, b1, hwr⟩
  have hr1 := rd1.lt
  go_wp2_with fail
  refine (l5Weights_any _ r _ rd1 (by omega)).mono ?_
  rintro e w2 ⟨v, W, q, rfl, R2, l2, sg2⟩
  obtain ⟨a2, c2, rfl, _, _⟩ := R2.form
  have hr2 := sg2.1.lt
  have B2 := Lib.hid (b1.trans ((sg2.below_r hr1).mono hwr))
  have RD2 := Lib.hid sg2.1
  have HR2 := Lib.hid R2
  clear b1 rd1 h sg2 R2
  go_wp2_with fail
  refine (l5Trucks_any _ r _ W.length RD2.out (by omega) l2).mono ?_
  rintro e w3 ⟨a3, c3, G, rfl, N3, l3, sg3⟩
  have B3 := B2.out.trans ((sg3.below_r hr2).mono hwr)
  have R3 := (HR2.out.isg sg3 hr1).nums
  have HN3 := Lib.hid N3
  clear sg3 RD2 HR2 B2 N3
  go_wp2
  go_ret2
  exact ⟨_, _, W, _, _, G, rfl, R3, l2, HN3.out, l3, B3⟩
end Go.Proofs.Ytmoghfgfdbdioaa
