/-
  The least number of trucks as the text of chapter 5 asks: l5Can and LeastTrucks.
-/
import Derived.Test.YtmoghfgfdbdioaaPackM
import Derived.Test.YtmoghfgfdbdioaaTrkD
namespace Go.Proofs.Ytmoghfgfdbdioaa
open Go.RowKit
set_option linter.unusedVariables false

namespace MW
/-- A weight and more behind it can be given to trucks from k on. -/
def canFrom (q : Int) (W : List Int) (x : Int) (R : List Int) (k : Nat) : Bool :=
  scanP (fun k => decide (gz R k + x ≤ q) && canP q W (R.set k (gz R k + x))) (fun k => decide (gz R k = 0)) k (R.length - k)
theorem can_cons (q : Int) (W : List Int) (x : Int) (R : List Int) : canP q (x :: W) R = canFrom q W x R 0 := rfl
theorem from_end {q : Int} {W : List Int} {x : Int} {R : List Int} {k : Nat} (h : R.length ≤ k) : canFrom q W x R k = false := by
  unfold canFrom; rw [Nat.sub_eq_zero_of_le h]; rfl
theorem from_step {q : Int} {W : List Int} {x : Int} {R : List Int} {k : Nat} (h : k < R.length) : canFrom q W x R k = if (decide (gz R k + x ≤ q) && canP q W (R.set k (gz R k + x))) = true then true else if decide (gz R k = 0) = true then false else canFrom q W x R (k + 1) := by
  unfold canFrom
  rw [show R.length - k = (R.length - (k + 1)) + 1 by omega]
  rfl
theorem from_yes {q : Int} {W : List Int} {x : Int} {R : List Int} {k : Nat} (h : k < R.length) (h1 : gz R k + x ≤ q) (h2 : canP q W (R.set k (gz R k + x)) = true) : canFrom q W x R k = true := by
  rw [from_step h, if_pos (by rw [h2, Bool.and_true]; exact decide_eq_true h1)]
theorem from_no {q : Int} {W : List Int} {x : Int} {R : List Int} {k : Nat} (h : k < R.length) (h1 : gz R k + x ≤ q → canP q W (R.set k (gz R k + x)) = false) : canFrom q W x R k = if decide (gz R k = 0) = true then false else canFrom q W x R (k + 1) := by
  rw [from_step h, if_neg]
  rw [Bool.and_eq_true, decide_eq_true_eq]
  rintro ⟨a, b⟩
  rw [h1 a] at b; cases b
theorem from_stop {q : Int} {W : List Int} {x : Int} {R : List Int} {k : Nat} (h : k < R.length) (h1 : gz R k + x ≤ q → canP q W (R.set k (gz R k + x)) = false) (h2 : gz R k = 0) : canFrom q W x R k = false := by
  rw [from_no h h1, if_pos (decide_eq_true h2)]
theorem from_next {q : Int} {W : List Int} {x : Int} {R : List Int} {k : Nat} (h : k < R.length) (h1 : gz R k + x ≤ q → canP q W (R.set k (gz R k + x)) = false) (h2 : gz R k ≠ 0) : canFrom q W x R k = canFrom q W x R (k + 1) := by
  rw [from_no h h1, if_neg (by rw [decide_eq_true_eq]; exact h2)]
theorem set_gz (R : List Int) (k : Nat) : R.set k (gz R k) = R := by
  apply List.ext_getElem?
  intro j
  rw [List.getElem?_set]
  split
  · rename_i e
    subst e
    split
    · rename_i h
      unfold gz
      rw [List.getD_eq_getElem?_getD, List.getElem?_eq_getElem h]; rfl
    · rename_i h
      rw [List.getElem?_eq_none (by omega)]
  · rfl
theorem drop_gz {L : List Int} {i : Nat} (h : i < L.length) : L.drop i = gz L i :: L.drop (i + 1) := by
  rw [List.drop_eq_getElem_cons h]
  congr 1
  unfold gz
  rw [List.getD_eq_getElem?_getD, List.getElem?_eq_getElem h]; rfl
end MW

/-- Loads are as they were, and so is all older memory. -/
def CanRes (w0 : World) (g m : Nat) (R : List Int) (b : Bool) (e : Ending) (w' : World) : Prop := e = .returned (.bool b) ∧ Below w0.heap.size w0 w' ∧ IRow w' w0.heap.size (.slice (some ⟨g, 0, none⟩) m m) R
set_option maxRecDepth 100000 in
set_option maxHeartbeats 4000000 in
theorem spec_l5Can (w0 : World) (a : Option Addr) (n c : Nat) (L : List Int) (h : Nums w0 a L) (hL : L.length = n) (q : Int) (hw : MW.wOk L q = true) (g m : Nat) (hg : w0.heap.size ≤ g) (hm : m ≤ 8) :
    ∀ (d i : Nat), i + d = n → ∀ (w : World) (R : List Int), R.length = m → (∀ k, 0 ≤ MW.gz R k ∧ MW.gz R k ≤ q) → Below w0.heap.size w0 w → IRow w w0.heap.size (.slice (some ⟨g, 0, none⟩) m m) R →
      Calls Try.prog 47 #[.slice a n c, .int .i64 q, .int .i64 (i : Int), .slice (some ⟨g, 0, none⟩) m m] w (CanRes w0 g m R (MW.canP q (L.drop i) R)) := by
  obtain ⟨⟨q1, q2⟩, hn, _⟩ := (MW.wOk_iff L q).1 hw
  have HW := Lib.hid (MW.wOk_gz hw)
  have HH := Lib.hid h
  have HLen := Lib.hid hL
  rw [hL] at hn
  clear h hL hw
  intro d
  induction d with
  | zero =>
    intro i hi w R hR hbd hB hrow
    obtain rfl : i = n := by omega
    have HB := Lib.hid hB
    have HR := Lib.hid hrow
    have HC : Hid (MW.canP q (L.drop i) R = true) := by rw [Hid, List.drop_eq_nil_of_le (by rw [HLen.out]; exact Nat.le_refl _)]; rfl
    clear hB hrow hR hbd
    rw [HC.out]
    go_enter Try.func47, Try.ntmps47
    go_wp2
    go_ret
    exact ⟨rfl, HB.out, HR.out⟩
  | succ d ih =>
    intro i hi w R hR hbd hB hrow
    have hin : i < n := by omega
    have IH := Lib.hid (ih (i + 1) (by omega))
    have HB := Lib.hid hB
    have HR := Lib.hid hrow
    have HLR := Lib.hid hR
    have HBD := Lib.hid hbd
    obtain ⟨y, hy⟩ : ∃ y, MW.gz L i = y := ⟨_, rfl⟩
    have hyb := HW.out i
    rw [hy] at hyb
    obtain ⟨W, hW⟩ : ∃ W, L.drop (i + 1) = W := ⟨_, rfl⟩
    have HD : Hid (MW.canP q (L.drop i) R = MW.canFrom q W y R 0) := by rw [Hid, MW.drop_gz (by rw [HLen.out]; exact hin), hy, hW]; exact MW.can_cons ..
    rw [hW] at IH
    obtain ⟨b, o, rfl, c9⟩ := HH.out i (by rw [HLen.out]; exact hin)
    have lb := World.block_lt_of_cell? _ _ c9
    rw [hy] at c9
    have HL : Hid (∀ W, Below w0.heap.size w0 W → W.cell? ⟨b, o + i, none⟩ = some (.int .i64 y)) := fun W k => (k.cell (p := ⟨b, o + i, none⟩) lb).trans c9
    replace lb : b < w0.heap.size := lb
    have lb1 : ¬ b = g := by omega
    clear ih hB hrow hR hbd hy hW c9
    rw [HD.out]
    have e14 : ((i : Int) == (n : Int)) = false := by simp; omega
    go_enter Try.func47, Try.ntmps47
    go_wp2
    go_loopw [9] (fun i wr => ∃ k : Nat, k ≤ m ∧ i = .int .i64 k ∧ Hid (IRow wr w0.heap.size (.slice (some ⟨g, 0, none⟩) m m) R) ∧ Hid (Below w0.heap.size w0 wr) ∧ Hid (MW.canFrom q W y R 0 = MW.canFrom q W y R k)) (fun i _ => m - (intOf i).toNat)
    case atStart => exact ⟨0, Nat.zero_le _, rfl, HR.out, HB.out, rfl⟩
    case round =>
      obtain ⟨k, hk, rfl, r1, hb, hs⟩ := hrel
      by_cases hlt : k < m
      · obtain ⟨c3, f3⟩ := r1.out.at k (by rw [HLR.out]; exact hlt)
        have c0 := HL.out _ hb.out
        have hkR : Hid (k < R.length) := by rw [Hid, HLR.out]; exact hlt
        obtain ⟨x, hx⟩ : ∃ x, MW.gz R k = x := ⟨_, rfl⟩
        have hxb := HBD.out k
        rw [hx] at c3 hxb
        have s1 : IntKind.i64.wrap (x + y) = x + y := IntWalk.i64_in _ (by omega)
        have HX := Lib.hid hx
        clear hx
        by_cases hfit : x + y ≤ q
        · have d1 : decide (x + y ≤ q) = true := decide_eq_true hfit
          have d2 : decide (q < x + y) = false := decide_eq_false (by omega)
          go_wp2
          go_quiet (fail)
          go_wp2
          obtain ⟨w2, hw2⟩ : ∃ w2, wr.drewN nq = w2 := ⟨_, rfl⟩
          have kq : Below wr.heap.size wr w2 := hw2 ▸ ⟨rfl, rfl, rfl, Nat.le_refl _, fun _ _ => rfl⟩
          rw [hw2]
          clear hw2 c0 c3 f3 d1 d2
          have r2 := Lib.hid (r1.out.on kq)
          have b2 := Lib.hid (sstep hb.out kq)
          have c0 := HL.out _ b2.out
          obtain ⟨c3, f3⟩ := r2.out.at k (by rw [HLR.out]; exact hlt)
          rw [HX.out] at c3
          have P1 := Lib.hid (fun v => r2.out.put HLR.out.symm k v)
          clear kq r1 hb
          obtain ⟨t, ht⟩ : ∃ t, MW.canP q W (R.set k (x + y)) = t := ⟨_, rfl⟩
          have HT := Lib.hid ht
          have IH2 := Lib.hid (fun (w : World) (hB : Below w0.heap.size w0 w) (hr : IRow w w0.heap.size (.slice (some ⟨g, 0, none⟩) m m) (R.set k (x + y))) => IH.out w (R.set k (x + y)) (by rw [List.length_set]; exact HLR.out) (fun j => by
            by_cases e : k = j
            · subst e; rw [MW.gz_set_self hkR.out]; omega
            · rw [MW.gz_set_ne e]; exact HBD.out j) hB hr)
          rw [ht] at IH2
          have G1 : Hid (MW.gz (R.set k (x + y)) k = x + y) := MW.gz_set_self hkR.out _
          have G2 : Hid ((R.set k (x + y)).set k x = R) := by rw [Hid, List.set_set, ← HX.out]; exact MW.set_gz R k
          have s2 : IntKind.i64.wrap (x + y - y) = x := by rw [show x + y - y = x by omega]; exact IntWalk.i64_in _ (by omega)
          have HSL : Hid ((R.set k (x + y)).length = m) := by rw [Hid, List.length_set]; exact HLR.out
          clear ht
          go_region
          all_goals
            go_wp2_with (go_at_call 47; refine (IH2.out _ ((b2.out.setCell hg _).drew) (P1.out _)).mono ?_; rintro e w3 ⟨rfl, b3, r3⟩)
            have R3 := Lib.hid r3
            have B3 := Lib.hid b3
            have c4 := HL.out _ b3
            obtain ⟨c5, f5⟩ := r3.at k (by rw [HSL.out]; exact hlt)
            rw [G1.out] at c5
            have P3 := Lib.hid (fun v => R3.out.put HSL.out.symm k v)
            clear r3 b3 c0 c3 f3
            cases t
            · cases hx0 : (x == 0)
              · have hx1 : x ≠ 0 := by simpa using hx0
                have e0 : Hid (MW.canFrom q W y R 0 = MW.canFrom q W y R (k + 1)) := by rw [Hid, hs.out]; exact MW.from_next hkR.out (fun _ => by rw [HX.out]; exact HT.out) (by rw [HX.out]; exact hx1)
                clear hx1
                go_region
                all_goals
                  obtain ⟨w4, hw4⟩ : ∃ w4, (w3.setCell ⟨g, k, none⟩ (.int .i64 x)).drew = w4 := ⟨_, rfl⟩
                  have r4 : Hid (IRow w4 w0.heap.size (.slice (some ⟨g, 0, none⟩) m m) R) := by rw [Hid, ← G2.out]; exact hw4 ▸ P3.out x
                  have b4 := Lib.hid (hw4 ▸ (B3.out.setCell (p := ⟨g, k, none⟩) hg (.int .i64 x)).drew)
                  rw [hw4]
                  clear hw4 c4 c5 f5
                  obtain ⟨c6, f6⟩ := r4.out.at k (by rw [HLR.out]; exact hlt)
                  rw [HX.out] at c6
                  go_wp2
                  go_roundw
                  case rel => exact ⟨k + 1, by omega, by go_num, r4.out, b4.out, e0.out⟩
                  case measure => simp [intOf]; omega
              · have hx1 : x = 0 := by simpa using hx0
                have e0 : Hid (MW.canFrom q W y R 0 = false) := by rw [Hid, hs.out]; exact MW.from_stop hkR.out (fun _ => by rw [HX.out]; exact HT.out) (by rw [HX.out]; exact hx1)
                clear hx1
                go_region
                all_goals
                  obtain ⟨w4, hw4⟩ : ∃ w4, (w3.setCell ⟨g, k, none⟩ (.int .i64 x)).drew = w4 := ⟨_, rfl⟩
                  have r4 : Hid (IRow w4 w0.heap.size (.slice (some ⟨g, 0, none⟩) m m) R) := by rw [Hid, ← G2.out]; exact hw4 ▸ P3.out x
                  have b4 := Lib.hid (hw4 ▸ (B3.out.setCell (p := ⟨g, k, none⟩) hg (.int .i64 x)).drew)
                  rw [hw4]
                  clear hw4 c4 c5 f5
                  obtain ⟨c6, f6⟩ := r4.out.at k (by rw [HLR.out]; exact hlt)
                  rw [HX.out] at c6
                  go_wp2
                  go_ret
                  rw [e0.out]
                  exact ⟨rfl, b4.out, r4.out⟩
            · have e0 : Hid (MW.canFrom q W y R 0 = true) := by rw [Hid, hs.out]; exact MW.from_yes hkR.out (by rw [HX.out]; exact hfit) (by rw [HX.out]; exact HT.out)
              go_region
              all_goals
                go_wp2
                go_ret
                rw [e0.out]
                refine ⟨rfl, (B3.out.setCell hg _).drew, ?_⟩
                have := P3.out x
                rw [G2.out] at this
                exact this
        · have d1 : decide (x + y ≤ q) = false := decide_eq_false hfit
          have d2 : decide (q < x + y) = true := decide_eq_true (by omega)
          cases hx0 : (x == 0)
          · have hx1 : x ≠ 0 := by simpa using hx0
            have e0 : Hid (MW.canFrom q W y R 0 = MW.canFrom q W y R (k + 1)) := by rw [Hid, hs.out]; exact MW.from_next hkR.out (fun h => absurd (by rw [HX.out] at h; exact h) hfit) (by rw [HX.out]; exact hx1)
            clear hx1
            go_wp2
            go_quiet (fail)
            go_wp2
            go_roundw
            case rel => exact ⟨k + 1, by omega, by go_num, r1.out.on ⟨rfl, rfl, rfl, Nat.le_refl _, fun _ _ => rfl⟩, sstep hb.out ⟨rfl, rfl, rfl, Nat.le_refl _, fun _ _ => rfl⟩, e0.out⟩
            case measure => simp [intOf]; omega
          · have hx1 : x = 0 := by simpa using hx0
            have e0 : Hid (MW.canFrom q W y R 0 = false) := by rw [Hid, hs.out]; exact MW.from_stop hkR.out (fun h => absurd (by rw [HX.out] at h; exact h) hfit) (by rw [HX.out]; exact hx1)
            clear hx1
            go_wp2
            go_quiet (fail)
            go_wp2
            go_ret
            rw [e0.out]
            exact ⟨rfl, sstep hb.out ⟨rfl, rfl, rfl, Nat.le_refl _, fun _ _ => rfl⟩, r1.out.on ⟨rfl, rfl, rfl, Nat.le_refl _, fun _ _ => rfl⟩⟩
      · obtain rfl : k = m := by omega
        have e0 : Hid (MW.canFrom q W y R 0 = false) := by rw [Hid, hs.out]; exact MW.from_end (by rw [HLR.out]; exact Nat.le_refl _)
        go_wp2
        go_ret
        rw [e0.out]
        exact ⟨rfl, hb.out, r1.out⟩
theorem can_zero (L : List Int) (q : Int) (h : MW.wOk L q = true) (n : Nat) (hn : n ≤ 8) : MW.canP q (L.drop 0) (List.replicate n 0) = decide (MW.lw q L (List.replicate 8 0) 0 ≤ n) := by
  rw [List.drop_zero]; exact MW.can_least h hn

/-- A number that the call returns, and memory of its own. -/
def NumIs (w : World) (x : Int) (e : Ending) (w' : World) : Prop := e = .returned (.int .i64 x) ∧ Below w.heap.size w w'
set_option maxHeartbeats 2000000 in
theorem spec_LeastTrucks (w : World) (a : Option Addr) (n c : Nat) (L : List Int) (h : Nums w a L) (hL : L.length = n) (hn : n ≤ 1048576) (q : Int) :
    Calls Try.prog 27 #[.slice a n c, .int .i64 q] w (NumIs w (MW.leastTrucks L q)) := by
  have HL := Lib.hid h
  have HN := Lib.hid hL
  clear h hL
  cases hw : MW.wOk L q
  · have HR := Lib.hid (MW.leastTrucks_no hw)
    go_enter Try.func27, Try.ntmps27
    go_wp2_with (go_at_call 13; refine (spec_WeightsValid _ _ _ _ _ HL.out HN.out hn _).mono ?_; rw [hw]; rintro e w1 ⟨rfl, rfl⟩)
    go_ret
    exact ⟨by rw [HR.out]; rfl, Below.refl _ _⟩
  · have hn8 := ((MW.wOk_iff L q).1 hw).2.1
    rw [HN.out] at hn8
    obtain ⟨t, ht⟩ : ∃ t, MW.lw q L (List.replicate 8 0) 0 = t := ⟨_, rfl⟩
    have ht8 : t ≤ 8 := by rw [← ht]; exact MW.lw_le8 q L _ 0 (by omega)
    have HR : Hid (MW.leastTrucks L q = (t : Int)) := by rw [Hid, MW.leastTrucks_yes hw, ht]
    have HC := Lib.hid (fun (m : Nat) (hm : m ≤ 8) (w1 : World) (hb : Below w.heap.size w w1) => spec_l5Can w a n c L HL.out HN.out q hw w1.heap.size m hb.size hm n 0 (by omega) (w1.alloc (.cells (madeCells #[.int .i64 0] m) 3)) (List.replicate m 0) (by simp) (fun k => by rw [MW.gz_replicate]; have := ((MW.wOk_iff L q).1 hw).1; omega) (hb.alloc hb.size _) (irow_made w1 m w.heap.size (by omega) hb.size))
    have HZ := Lib.hid (fun (m : Nat) (hm : m ≤ 8) => (can_zero L q hw m hm).trans (by rw [ht]))
    have hmk := fun (m : Nat) (hm : m ≤ 8) => make_ints m (by omega)
    have HMK := Lib.hid hmk
    clear hmk
    go_enter Try.func27, Try.ntmps27
    go_wp2_with (go_at_call 13; refine (spec_WeightsValid _ _ _ _ _ HL.out HN.out hn _).mono ?_; rw [hw]; rintro e w1 ⟨rfl, rfl⟩)
    go_loopw [5] (fun i wr => ∃ k : Nat, k ≤ t ∧ i = .int .i64 k ∧ Below w.heap.size w wr) (fun i _ => t - (intOf i).toNat)
    case atStart => exact ⟨0, Nat.zero_le _, rfl, Below.refl _ _⟩
    case round =>
      obtain ⟨k, hk, rfl, hb⟩ := hrel
      have hmk := HMK.out k (by omega)
      have HB := Lib.hid hb
      by_cases hlt : k < t
      · have hz : MW.canP q (L.drop 0) (List.replicate k 0) = false := by rw [HZ.out k (by omega)]; exact decide_eq_false (by omega)
        have HZ1 := Lib.hid hz
        clear hz
        go_wp2_with (go_at_call 47; refine (HC.out k (by omega) _ HB.out).mono ?_; rw [HZ1.out]; rintro e w3 ⟨rfl, b3, r3⟩)
        go_roundw
        case rel => exact ⟨k + 1, by omega, by go_num, b3⟩
        case measure => simp [intOf]; omega
      · obtain rfl : k = t := by omega
        have hz : MW.canP q (L.drop 0) (List.replicate k 0) = true := by rw [HZ.out k (by omega)]; exact decide_eq_true (by omega)
        have HZ1 := Lib.hid hz
        clear hz
        go_wp2_with (go_at_call 47; refine (HC.out k (by omega) _ HB.out).mono ?_; rw [HZ1.out]; rintro e w3 ⟨rfl, b3, r3⟩)
        go_ret
        exact ⟨by rw [HR.out]; rfl, b3⟩
end Go.Proofs.Ytmoghfgfdbdioaa
