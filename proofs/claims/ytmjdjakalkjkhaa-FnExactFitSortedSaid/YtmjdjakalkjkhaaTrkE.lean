/-
  The greatest weights first: what SortStableFunc leaves, what l5Sorted and FitSorted return.
-/
import Derived.Test.YtmjdjakalkjkhaaTrkD
import Derived.Test.YtmjdjakalkjkhaaSrtM
namespace Go.Proofs.Ytmjdjakalkjkhaa
open Go.RowKit
set_option linter.unusedVariables false

theorem Nums.below {w w' : World} {B : Nat} {a : Option Addr} {L : List Int} (h : Nums w a L) (hb : Below B w w') (hB : ∀ b o, a = some ⟨b, o, none⟩ → b < B) : Nums w' a L := by
  intro i hi
  obtain ⟨b, o, e, h1⟩ := h i hi
  exact ⟨b, o, e, (hb.cell (p := ⟨b, o + i, none⟩) (hB b o e)).trans h1⟩
def cmpI (a b : Int) : Int := if a < b then -1 else if b < a then 1 else 0
set_option maxHeartbeats 400000 in
theorem isNaN_any (x : Int) (w : World) : Calls Try.prog 52 #[.int .i64 x] w fun e w' => e = .returned (.bool false) ∧ w = w' := by
  go_enter Try.func52, Try.ntmps52
  go_wp2
  go_ret
  exact ⟨rfl, rfl⟩
set_option maxHeartbeats 400000 in
theorem compare_any (a b : Int) (w : World) : Calls Try.prog 43 #[.int .i64 a, .int .i64 b] w fun e w' => e = .returned (.int .i64 (cmpI a b)) ∧ w = w' := by
  by_cases h1 : a < b
  · have hv : Hid (cmpI a b = -1) := if_pos h1
    go_enter Try.func43, Try.ntmps43
    go_wp2_with (go_at_call 52; refine (isNaN_any _ _).mono ?_; rintro e w1 ⟨rfl, rfl⟩)
    go_ret
    exact ⟨ret_int hv.out.symm, rfl⟩
  · by_cases h2 : b < a
    · have hv : Hid (cmpI a b = 1) := (if_neg h1).trans (if_pos h2)
      go_enter Try.func43, Try.ntmps43
      go_wp2_with (go_at_call 52; refine (isNaN_any _ _).mono ?_; rintro e w1 ⟨rfl, rfl⟩)
      go_ret
      exact ⟨ret_int hv.out.symm, rfl⟩
    · have hv : Hid (cmpI a b = 0) := (if_neg h1).trans (if_neg h2)
      go_enter Try.func43, Try.ntmps43
      go_wp2_with (go_at_call 52; refine (isNaN_any _ _).mono ?_; rintro e w1 ⟨rfl, rfl⟩)
      go_ret
      exact ⟨ret_int hv.out.symm, rfl⟩
theorem cmpI_neg (a b : Int) : decide (cmpI a b < 0) = decide (a < b) := by
  unfold cmpI
  split
  · simp; omega
  · split <;> (simp; omega)

theorem flip_quiet {f : FuncId} {args : Array Value} {w : World} {v : Value} (h : Calls Try.prog f args w fun e w' => e = .returned v ∧ w = w') : Calls Try.prog f args w fun e w' => e = .returned v ∧ w' = w := h.mono fun _ _ ⟨a, b⟩ => ⟨a, b.symm⟩
set_option maxHeartbeats 1000000 in
theorem turn_it (w : World) (B x y : Nat) (a : Option Addr) (n c : Nat) (L : List Int) (h1 : w.cell? ⟨B, 0, none⟩ = some (.slice a n c)) (h : Nums w a L) (hL : L.length = n) (hx : x < n) (hy : y < n) :
    Calls Try.prog 42 #[.int .i64 (x : Int), .int .i64 (y : Int), .pointer (some ⟨B, 0, none⟩)] w fun e w' => e = .returned (.int .i64 (cmpI (MW.gz L y) (MW.gz L x))) ∧ ∃ m, w' = w.drewN m := by
  obtain ⟨b, o, rfl, c0⟩ := h x (by omega)
  obtain ⟨_, _, e, c1⟩ := h y (by omega)
  cases e
  clear h hL
  generalize MW.gz L x = p at *
  generalize MW.gz L y = q at *
  go_enter Try.func42, Try.ntmps42
  go_wp2
  go_quiet ((go_at_call 43; exact Calls.quiet_of_same (flip_quiet (compare_any _ _ _))))
  go_wp2
  go_ret
  exact ⟨rfl, _, rfl⟩

set_option maxHeartbeats 4000000 in
theorem insertion_turns (w : World) (base g c : Nat) (B : Nat) (a : Option Addr) (n c' : Nat) (L : List Int) (hr : IRow w base (.slice (some ⟨g, 0, none⟩) n c) (MW.mk n fun t => (t : Int))) (h1 : w.cell? ⟨B, 0, none⟩ = some (.slice a n c')) (h : Nums w a L) (hL : L.length = n) (hB : B < base) (ha : ∀ b o, a = some ⟨b, o, none⟩ → b < base) (hbw : base ≤ w.heap.size) (hbg : base ≤ g) (hn : n ≤ 8) (hn1 : 1 ≤ n) :
    Calls Try.prog 53 #[.slice (some ⟨g, 0, none⟩) n c, .int .i64 0, .int .i64 (n : Int), .func (.func 42) #[] #[.pointer (some ⟨B, 0, none⟩)]] w fun e w' => e = .returned (.tuple #[]) ∧ IRow w' base (.slice (some ⟨g, 0, none⟩) n c) (MW.srt L n) ∧ Below base w w' ∧ w.heap.size ≤ w'.heap.size := by
  have HC := Lib.hid (fun W x y (hW : Below base w W) (hx : x < n) (hy : y < n) => turn_it W B x y a n c' L ((hW.cell (p := ⟨B, 0, none⟩) hB).trans h1) (h.below hW ha) hL hx hy)
  have HR := Lib.hid hr
  have hnc : Hid (n ≤ c) := by
    obtain ⟨a', c'', e, hlc, _⟩ := hr.form
    injection e with _ e2 e3
    rw [MW.mk_length] at hlc
    rw [Hid, e3]; exact hlc
  clear hr h1 h hL ha hB
  go_enter Try.func53, Try.ntmps53
  go_wp2
  go_loopw [8] (fun i wr => ∃ k : Nat, 1 ≤ k ∧ k ≤ n ∧ i = .int .i64 k ∧ Hid (IRow wr base (.slice (some ⟨g, 0, none⟩) n c) (if k < n then MW.cur L n k k else MW.srt L n)) ∧ Hid (Below base w wr) ∧ w.heap.size ≤ wr.heap.size) (fun i _ => n - (intOf i).toNat)
  case atStart =>
    refine ⟨1, Nat.le_refl _, hn1, rfl, ?_, Below.refl _ _, Nat.le_refl _⟩
    by_cases h : 1 < n
    · rw [Hid, if_pos h, MW.cur_first L h]; exact HR.out
    · obtain rfl : n = 1 := by omega
      rw [Hid, if_neg h, MW.srt_one]; exact HR.out
  case round =>
    obtain ⟨k, hk1, hk, rfl, hrow, hb, hz⟩ := hrel
    by_cases hlt : k < n
    · rw [if_pos hlt] at hrow
      have HE : Hid (∀ t, MW.posTo L (MW.srt L k) k k = t → MW.cur L n k t = if k + 1 < n then MW.cur L n (k + 1) (k + 1) else MW.srt L n) := fun t ht => by
        rw [← ht]
        by_cases h : k + 1 < n
        · rw [if_pos h]; exact MW.cur_end h
        · rw [if_neg h]; exact MW.cur_last (by omega)
      go_wp2
      go_loopw [9] (fun j wv => ∃ t : Nat, t ≤ k ∧ j = .int .i64 t ∧ Hid (MW.posTo L (MW.srt L k) k k = MW.posTo L (MW.srt L k) k t) ∧ Hid (IRow wv base (.slice (some ⟨g, 0, none⟩) n c) (MW.cur L n k t)) ∧ Hid (Below base w wv) ∧ w.heap.size ≤ wv.heap.size) (fun j _ => (intOf j).toNat)
      case atStart => exact ⟨k, Nat.le_refl _, rfl, rfl, hrow.out, hb.out, hz⟩
      case round =>
        obtain ⟨t, ht, rfl, hp, hrw, hbv, hzv⟩ := hrel
        cases t with
        | zero =>
          have hq := HE.out 0 hp.out
          have d0 : decide ((0 : Int) < ((0 : Nat) : Int)) = false := by decide
          have R2 := Lib.hid (hq ▸ hrw.out)
          clear hq
          go_wp2
          go_quiet (fail)
          go_wp2
          go_roundw
          case rel => exact ⟨k + 1, by omega, by omega, by go_num, R2.out.on ⟨rfl, rfl, rfl, Nat.le_refl _, fun _ _ => rfl⟩, hbv.out.trans (Below.mono (w := wr) ⟨rfl, rfl, rfl, Nat.le_refl _, fun _ _ => rfl⟩ (Nat.le_trans hbw hzv)), hzv⟩
          case measure => simp [intOf]; omega
        | succ t =>
          obtain ⟨d, hd⟩ : ∃ d : Nat, MW.gz (MW.srt L k) t = d := ⟨(MW.gz (MW.srt L k) t).toNat, by have := MW.srt_in L k t (by omega); omega⟩
          have hdk : d < k := by have := MW.srt_in L k t (by omega); omega
          obtain ⟨c1, f1⟩ := hrw.out.at (t + 1) (by rw [MW.cur_length]; omega)
          obtain ⟨c2, f2⟩ := hrw.out.at t (by rw [MW.cur_length]; omega)
          rw [MW.cur_j hlt ht] at c1
          rw [MW.cur_before hlt ht, hd] at c2
          have d0 : decide ((0 : Int) < (t : Int) + 1) = true := decide_eq_true (by omega)
          have d1 : decide ((0 : Int) < ((t + 1 : Nat) : Int)) = true := decide_eq_true (by omega)
          have s0 : IntKind.i64.wrap ((t : Int) + 1 - 1) = t := by rw [IntWalk.i64_in _ (by omega)]; omega
          have hzb : base ≤ wr.heap.size := Nat.le_trans hbw hzv
          have hi := cmpI_neg (MW.gz L d) (MW.gz L k)
          obtain ⟨z, hzz⟩ : ∃ z, cmpI (MW.gz L d) (MW.gz L k) = z := ⟨_, rfl⟩
          rw [hzz] at hi
          have HZ := Lib.hid hzz
          have HCZ : Hid (∀ W, Below base w W → Calls Try.prog 42 #[.int .i64 (k : Int), .int .i64 (d : Int), .pointer (some ⟨B, 0, none⟩)] W fun e w' => e = .returned (.int .i64 z) ∧ ∃ m, w' = W.drewN m) := fun W hW => by
            have := HC.out W k d hW hlt (by omega)
            rw [hzz] at this
            exact this
          have DRW : Hid (∀ m, Below base w (wr.drewN m)) := fun m => hbv.out.trans (Below.mono (w := wr) ⟨rfl, rfl, rfl, Nat.le_refl _, fun _ _ => rfl⟩ hzb)
          by_cases hc : MW.gz L d < MW.gz L k
          · have HP : Hid (MW.posTo L (MW.srt L k) k k = MW.posTo L (MW.srt L k) k t) := by rw [Hid, hp.out]; exact MW.posTo_go (by rw [hd]; exact hc)
            rw [decide_eq_true hc] at hi
            have HI := Lib.hid hi
            have hz0 := of_decide_eq_true hi
            have HD := Lib.hid hd
            clear hzz hc hd
            go_wp2
            go_quiet ((go_at_call 42; exact Calls.quiet_of (HCZ.out _ (DRW.out _))))
            obtain ⟨w2, hw2⟩ : ∃ w2, wr.drewN nq = w2 := ⟨_, rfl⟩
            have kq : Below wr.heap.size wr w2 := hw2 ▸ ⟨rfl, rfl, rfl, Nat.le_refl _, fun _ _ => rfl⟩
            rw [hw2]
            have r2 := Lib.hid (hrw.out.on kq)
            have hb2 := Lib.hid (hbv.out.trans (kq.mono hzb))
            have hz2 : w.heap.size ≤ w2.heap.size := Nat.le_trans hzv kq.size
            clear hw2 kq c1 f1 c2 f2
            obtain ⟨c1, f1⟩ := r2.out.at (t + 1) (by rw [MW.cur_length]; omega)
            obtain ⟨c2, f2⟩ := r2.out.at t (by rw [MW.cur_length]; omega)
            rw [MW.cur_j hlt ht] at c1
            rw [MW.cur_before hlt ht, HD.out] at c2
            have R3 : Hid (IRow ((w2.setCell ⟨g, t + 1, none⟩ (.int .i64 (d : Int))).setCell ⟨g, t, none⟩ (.int .i64 (k : Int))) base (.slice (some ⟨g, 0, none⟩) n c) (MW.cur L n k t)) := by
              rw [Hid, ← MW.cur_swap hlt ht, HD.out]
              exact (r2.out.put (MW.cur_length _ _ _ _).symm (t + 1) (d : Int)).put (by rw [List.length_set, MW.cur_length]) t (k : Int)
            go_wp2
            go_region
            all_goals
              go_wp2
              exact ⟨⟨t, by omega, rfl, HP.out, R3.out, ((hb2.out.setCell hbg _).setCell hbg _).drew, by simp; exact hz2⟩, by simp [intOf]⟩
          · have HP : Hid (MW.posTo L (MW.srt L k) k k = t + 1) := by rw [Hid, hp.out]; exact MW.posTo_stop (by rw [hd]; exact hc)
            rw [decide_eq_false hc] at hi
            have hz0 := of_decide_eq_false hi
            have hq := HE.out _ HP.out
            have R2 := Lib.hid (hq ▸ hrw.out)
            clear hzz hc hd hq
            go_wp2
            go_quiet ((go_at_call 42; exact Calls.quiet_of (HCZ.out _ (DRW.out _))))
            go_wp2
            go_roundw
            case rel => exact ⟨k + 1, by omega, by omega, by go_num, R2.out.on ⟨rfl, rfl, rfl, Nat.le_refl _, fun _ _ => rfl⟩, DRW.out _, hzv⟩
            case measure => simp [intOf]; omega
    · obtain rfl : k = n := by omega
      rw [if_neg hlt] at hrow
      go_wp2
      go_returns
      exact ⟨rfl, hrow.out, hb.out, hz⟩

theorem upTo_mk (n : Nat) : MW.upTo n = MW.mk n fun t => (t : Int) := rfl
set_option maxHeartbeats 1000000 in
theorem insertion_none (w : World) (f : Value) :
    Calls Try.prog 53 #[.slice none 0 0, .int .i64 0, .int .i64 0, f] w fun e w' => e = .returned (.tuple #[]) ∧ w = w' := by
  go_enter Try.func53, Try.ntmps53
  go_wp2
  go_rounds 1
  go_returns
  exact ⟨rfl, rfl⟩

set_option maxHeartbeats 1000000 in
theorem sort_turns (w : World) (base : Nat) (B : Nat) (a : Option Addr) (n c' : Nat) (v : Value) (L : List Int) (hr : IRow w base v (MW.upTo n)) (h1 : w.cell? ⟨B, 0, none⟩ = some (.slice a n c')) (h : Nums w a L) (hL : L.length = n) (hB : B < base) (ha : ∀ b o, a = some ⟨b, o, none⟩ → b < base) (hbw : base ≤ w.heap.size) (hn : n ≤ 8) :
    Calls Try.prog 41 #[v, .func (.func 42) #[] #[.pointer (some ⟨B, 0, none⟩)]] w fun e w' => e = .returned (.tuple #[]) ∧ IRow w' base v (MW.srt L n) ∧ Below base w w' ∧ w.heap.size ≤ w'.heap.size := by
  rcases hr.cases with ⟨rfl, e⟩ | ⟨g, c, rfl, hbg, _, _⟩
  · have hn0 : n = 0 := by rw [← MW.upTo_length n, e]; rfl
    subst hn0
    have HS : Hid (∀ f w, Calls Try.prog 51 #[.slice none 0 0, .int .i64 0, f] w fun e w' => e = .returned (.tuple #[]) ∧ w = w') := fun f w => by
      go_enter Try.func51, Try.ntmps51
      go_wp2
      refine wp_loop_rounds 1 ?_
      rw [rounds_succ]
      go_wp2_with (go_at_call 53; refine (insertion_none _ _).mono ?_; rintro e w1 ⟨rfl, rfl⟩)
      go_rounds 1
      go_returns
      exact ⟨rfl, rfl⟩
    clear hr h1 h hL
    go_enter Try.func41, Try.ntmps41
    go_wp2_with (go_at_call 51; refine (HS.out _ _).mono ?_; rintro e w1 ⟨rfl, rfl⟩)
    go_returns
    exact ⟨rfl, IRow.nil _ _, Below.refl _ _, Nat.le_refl _⟩
  · rw [MW.upTo_length] at hr ⊢
    rw [upTo_mk] at hr
    have HI : Hid (Calls Try.prog 53 #[.slice (some ⟨g, 0, none⟩) n c, .int .i64 0, .int .i64 (n : Int), .func (.func 42) #[] #[.pointer (some ⟨B, 0, none⟩)]] w fun e w' => e = .returned (.tuple #[]) ∧ IRow w' base (.slice (some ⟨g, 0, none⟩) n c) (MW.srt L n) ∧ Below base w w' ∧ w.heap.size ≤ w'.heap.size) := by
      by_cases h0 : 1 ≤ n
      · exact insertion_turns w base g c B a n c' L hr h1 h hL hB ha hbw hbg hn h0
      · obtain rfl : n = 0 := by omega
        clear h1 h hL
        unfold Hid
        go_enter Try.func53, Try.ntmps53
        go_wp2
        go_rounds 1
        go_returns
        exact ⟨rfl, hr, Below.refl _ _, Nat.le_refl _⟩
    have HS : Hid (Calls Try.prog 51 #[.slice (some ⟨g, 0, none⟩) n c, .int .i64 (n : Int), .func (.func 42) #[] #[.pointer (some ⟨B, 0, none⟩)]] w fun e w' => e = .returned (.tuple #[]) ∧ IRow w' base (.slice (some ⟨g, 0, none⟩) n c) (MW.srt L n) ∧ Below base w w' ∧ w.heap.size ≤ w'.heap.size) := by
      clear hr h1 h hL
      have e1 : decide ((20 : Int) ≤ (n : Int)) = false := decide_eq_false (by omega)
      have e2 : decide ((20 : Int) < (n : Int)) = false := decide_eq_false (by omega)
      unfold Hid
      go_enter Try.func51, Try.ntmps51
      go_wp2
      refine wp_loop_rounds 1 ?_
      rw [rounds_succ]
      go_wp2_with (go_at_call 53; refine HI.out.mono ?_; rintro e w1 ⟨rfl, q1, q2, q3⟩)
      go_rounds 1
      go_returns
      exact ⟨rfl, q1, q2, q3⟩
    clear hr h1 h hL
    go_enter Try.func41, Try.ntmps41
    go_wp2_with (go_at_call 51; refine HS.out.mono ?_; rintro e w1 ⟨rfl, q1, q2, q3⟩)
    go_returns
    exact ⟨rfl, q1, q2, q3⟩

set_option maxHeartbeats 1000000 in
theorem impl_FitSorted (w : World) (a : Option Addr) (n c : Nat) (L : List Int) (h : Nums w a L) (hL : L.length = n) (hn : n ≤ 1048576) (ha : ∀ b o, a = some ⟨b, o, none⟩ → b < w.heap.size) (q : Int) :
    Calls Try.prog 22 #[.slice a n c, .int .i64 q] w (NumsOut w (MW.fitSorted L q)) := by
  have hmf : ∀ (fn : Fn) (first cap : Array Value) (w : World), (Instr.makeFunc fn first cap).run Try.prog w = .ok (.func fn first cap) w := fun _ _ _ _ => rfl
  have HB0 := Lib.hid (below_alloc0 w (.cells #[.slice a n c] 24))
  have HL := Lib.hid (h.on HB0.out)
  have HN := Lib.hid hL
  have HA := Lib.hid ha
  clear h hL ha
  cases h1 : MW.wOk L q
  · have H1 := Lib.hid h1
    have HV := Lib.hid (MW.fitSorted_no h1)
    clear h1
    go_enter Try.func22, Try.ntmps22
    go_wp2_with (go_at_call 15; refine (impl_WeightsValid _ _ _ _ _ HL.out HN.out hn q).mono ?_; rw [H1.out]; rintro e w1 ⟨rfl, hb1⟩)
    go_ret
    exact ⟨_, rfl, by rw [HV.out]; exact IRow.nil _ _, sstep HB0.out hb1⟩
  · have H1 := Lib.hid h1
    have HV := Lib.hid ((MW.fitSorted_yes h1).trans (by rw [HN.out]))
    have h8 : n ≤ 8 := by have := ((MW.wOk_iff L q).1 h1).2.1; have := HN.out; omega
    have HSI := Lib.hid (fun k (hk : k < n) => MW.srt_in L n k hk)
    clear h1
    go_enter Try.func22, Try.ntmps22
    go_wp2_with (first
      | (go_at_call 15; refine (impl_WeightsValid _ _ _ _ _ HL.out HN.out hn q).mono ?_; rw [H1.out]; rintro e w1 ⟨rfl, hb1⟩; have cB : w1.cell? ⟨w.heap.size, 0, none⟩ = some (.slice a n c) := (hb1.cell (p := ⟨w.heap.size, 0, none⟩) (by simp)).trans (by simp); have HL1 := Lib.hid (HL.out.on hb1); have z1 := (hb1.size); have HB1 := Lib.hid (sstep HB0.out hb1); have lB := World.block_lt_of_cell? _ _ cB; clear hb1)
      | (go_at_call 39; refine (impl_indicesOf _ _ _ _ hn).mono ?_; rintro e w2 ⟨v2, rfl, hr, hb2⟩; have HR := Lib.hid hr; have cB2 : w2.cell? ⟨w.heap.size, 0, none⟩ = some (.slice a n c) := (hb2.cell (p := ⟨w.heap.size, 0, none⟩) lB).trans cB; have HL2 := Lib.hid (HL1.out.on hb2); have z2 := hb2.size; have HB2 := Lib.hid (sstep HB1.out hb2); clear hr hb2 cB)
      | (go_at_call 41; refine (sort_turns _ w1.heap.size w.heap.size a n c _ L HR.out cB2 HL2.out HN.out lB (fun b o e => Nat.lt_of_lt_of_le (HA.out b o e) HB1.out.size) z2 h8).mono ?_; rintro e w3 ⟨rfl, hr3, hb3, z3⟩; obtain ⟨a3, c3, rfl, _, _⟩ := hr3.form; rw [MW.srt_length] at *; have HR3 := Lib.hid hr3.nums; have cB3 : w3.cell? ⟨w.heap.size, 0, none⟩ = some (.slice a n c) := (hb3.cell (p := ⟨w.heap.size, 0, none⟩) lB).trans cB2; have HL3 := Lib.hid (HL2.out.below hb3 (fun b o e => Nat.lt_of_lt_of_le (HA.out b o e) HB1.out.size)); have HB3 := Lib.hid (HB2.out.trans (hb3.mono HB1.out.size)); clear hr3 hb3 cB2)
      | (go_at_call 38; refine (impl_fitInTurn _ _ _ _ _ HL3.out HN.out _ _ _ HR3.out (MW.srt_length _ _) q H1.out HSI.out).mono ?_; rintro e w4 ⟨v4, rfl, hr4, hb4⟩))
    go_ret
    exact ⟨_, rfl, by rw [HV.out]; exact hr4.lower HB3.out.size, sstep HB3.out hb4⟩
end Go.Proofs.Ytmjdjakalkjkhaa
