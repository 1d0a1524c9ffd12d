/-
  First fit: what l5Fit, fitInTurn and FirstFit return.
-/
import Derived.Test.YtmoghfgfdbdioaaTrkC
import Derived.Deep.RegionHeld
namespace Go.Proofs.Ytmoghfgfdbdioaa
open Go.RowKit
set_option linter.unusedVariables false

namespace MW
/-- 0, 1, .. -/
def upTo (n : Nat) : List Int := (List.range n).map fun i : Nat => (i : Int)
theorem upTo_length (n : Nat) : (upTo n).length = n := by simp [upTo]
theorem upTo_succ (n : Nat) : upTo (n + 1) = upTo n ++ [(n : Int)] := by unfold upTo; rw [List.range_succ, List.map_append]; rfl
theorem gz_upTo {n k : Nat} (h : k < n) : gz (upTo n) k = k := by rw [gz_at (by rw [upTo_length]; exact h)]; simp [upTo]
/-- What FirstFit returns. -/
def firstFit (L : List Int) (q : Int) : List Int := if wOk L q = true then fGiven L q (upTo L.length) L.length else []
theorem firstFit_no {L : List Int} {q : Int} (h : wOk L q = false) : firstFit L q = [] := by unfold firstFit; rw [h]; rfl
theorem firstFit_yes {L : List Int} {q : Int} (h : wOk L q = true) : firstFit L q = fGiven L q (upTo L.length) L.length := by unfold firstFit; rw [h]; rfl
theorem firstFit_le (L : List Int) (q : Int) : (firstFit L q).length ≤ 8 := by
  cases h : wOk L q
  · rw [firstFit_no h]; exact Nat.zero_le _
  · rw [firstFit_yes h, fGiven_length]; exact ((wOk_iff L q).1 h).2.1
end MW
theorem IRow.setOther {w : World} {base g n c : Nat} {L : List Int} (h : IRow w base (.slice (some ⟨g, 0, none⟩) n c) L) {p : Addr} (hne : g ≠ p.block) (u : Value) : IRow (w.setCell p u) base (.slice (some ⟨g, 0, none⟩) n c) L :=
  h.only (Only.set w p u (S := fun b => b = p.block) rfl) fun x hb e => hne (by injection hb with hb; exact hb.trans e)

set_option maxHeartbeats 2000000 in
theorem spec_l5Fit (w : World) (a : Option Addr) (n c : Nat) (L : List Int) (h : Nums w a L) (hL : L.length = n) (a' : Option Addr) (c' : Nat) (O : List Int) (h' : Nums w a' O) (hO : O.length = n) (q : Int) (hw : MW.wOk L q = true) (ho : ∀ k, k < n → 0 ≤ MW.gz O k ∧ MW.gz O k < n) :
    Calls Try.prog 32 #[.slice a n c, .int .i64 q, .slice a' n c'] w (NumsOut w (MW.fGiven L q O n)) := by
  have HL := Lib.hid h
  have HN := Lib.hid hL
  have HL' := Lib.hid h'
  have HN' := Lib.hid hO
  have HO := Lib.hid ho
  have hn : n ≤ 8 := by have := ((MW.wOk_iff L q).1 hw).2.1; omega
  obtain ⟨q1, q2⟩ := ((MW.wOk_iff L q).1 hw).1
  have HW := Lib.hid (MW.wOk_gz hw)
  have HB := Lib.hid (fun k (hk : k ≤ n) => (MW.fit_inv (O := O) hw k (by omega)).2)
  have HR := Lib.hid (fun k (hk : k < n) => MW.fRoom_is (O := O) hw (k := k) (by omega))
  have HL1 : Hid (∀ k, (MW.fLoads L q O k).length = n) := fun k => by rw [MW.fLoads_length, hL]
  have HL2 : Hid (∀ k, (MW.fGiven L q O k).length = n) := fun k => by rw [MW.fGiven_length, hL]
  have E1 : Hid (MW.fLoads L q O 0 = List.replicate n 0) := by rw [Hid, MW.fLoads_zero, hL]
  have E2 : Hid (MW.fGiven L q O 0 = List.replicate n 0) := by rw [Hid, MW.fGiven_zero, hL]
  obtain ⟨wa, hwa⟩ : ∃ wa, w.alloc (.cells (madeCells #[.int .i64 0] n) 3) = wa := ⟨_, rfl⟩
  obtain ⟨wb, hwb⟩ : ∃ wb, wa.alloc (.cells (madeCells #[.int .i64 0] n) 3) = wb := ⟨_, rfl⟩
  have ka : Below w.heap.size w wa := hwa ▸ below_alloc0 _ _
  have kb : Below wa.heap.size wa wb := hwb ▸ below_alloc0 _ _
  have za : wa.heap.size = w.heap.size + 1 := by rw [← hwa]; simp
  have R2 : Hid (IRow wb w.heap.size (.slice (some ⟨w.heap.size, 0, none⟩) n n) (MW.fGiven L q O 0)) := by
    rw [Hid, E2.out]; exact IRow.on (hwa ▸ irow_made w n w.heap.size (by omega) (Nat.le_refl _)) kb
  have R1 : Hid (IRow wb w.heap.size (.slice (some ⟨w.heap.size + 1, 0, none⟩) n n) (MW.fLoads L q O 0)) := by
    rw [Hid, E1.out, ← za]; exact hwb ▸ irow_made wa n w.heap.size (by omega) (by omega)
  have hb0 := Lib.hid (sstep ka kb)
  have HWA := Lib.hid hwa
  have HWB := Lib.hid hwb
  have ZA := Lib.hid za
  clear h hL h' hO ho hw ka kb hwa hwb za
  have hmk := make_ints n (by omega)
  go_enter Try.func32, Try.ntmps32
  go_wp2
  rw [HWA.out, HWB.out]
  go_loopw [9] (fun i wr => ∃ k : Nat, k ≤ n ∧ i = .int .i64 k ∧ Hid (IRow wr w.heap.size (.slice (some ⟨w.heap.size + 1, 0, none⟩) n n) (MW.fLoads L q O k)) ∧ Hid (IRow wr w.heap.size (.slice (some ⟨w.heap.size, 0, none⟩) n n) (MW.fGiven L q O k)) ∧ Hid (Below w.heap.size w wr)) (fun i _ => n - (intOf i).toNat)
  case atStart => exact ⟨0, Nat.zero_le _, rfl, R1.out, R2.out, hb0.out⟩
  case round =>
    obtain ⟨k, hk, rfl, r1, r2, hb⟩ := hrel
    by_cases hlt : k < n
    · obtain ⟨g, hgg⟩ : ∃ g : Nat, MW.gz O k = g := ⟨(MW.gz O k).toNat, by have := HO.out k hlt; omega⟩
      have hgn : g < n := by have := HO.out k hlt; omega
      have hy := HW.out g
      obtain ⟨r, hrr⟩ : ∃ r, MW.fRoom L q O k = r := ⟨_, rfl⟩
      obtain ⟨t1, t2, t3⟩ := HR.out k hlt
      rw [hrr, hgg] at t2 t3
      rw [hrr, HN.out] at t1
      rw [show ((g : Int)).toNat = g from rfl] at t2 t3
      have T3 := Lib.hid t3
      have S1 : Hid (MW.fLoads L q O (k + 1) = (MW.fLoads L q O k).set r (MW.gz (MW.fLoads L q O k) r + MW.gz L g)) := by
        rw [Hid, MW.fLoads_succ, hrr, hgg]; rfl
      have S2 : Hid (MW.fGiven L q O (k + 1) = (MW.fGiven L q O k).set g (r : Int)) := by
        rw [Hid, MW.fGiven_succ, hrr, hgg]; rfl
      have hbr := HB.out k hk
      have HBR := Lib.hid hbr
      have HGG := Lib.hid hgg
      clear t3 hbr hrr
      go_wp2
      go_loopw [10] (fun kk wv => ∃ j m : Nat, j ≤ r ∧ kk = .int .i64 j ∧ wv = wr.drewN m) (fun kk _ => r - (intOf kk).toNat)
      case atStart => exact ⟨0, 0, Nat.zero_le _, rfl, rfl⟩
      case round =>
        obtain ⟨j, m, hj, rfl, rfl⟩ := hrel
        obtain ⟨c3, f3⟩ := r1.out.at j (by rw [HL1.out]; omega)
        have hxj := HBR.out j
        by_cases hjr : j < r
        · have c1 := (HL'.out.on hb.out) k (by rw [HN'.out]; exact hlt)
          have c0 := (HL.out.on hb.out) g (by rw [HN.out]; exact hgn)
          obtain ⟨b', o', rfl, c1⟩ := c1
          obtain ⟨b, o, rfl, c0⟩ := c0
          rw [HGG.out] at c1
          have hno := T3.out j hjr
          generalize MW.gz (MW.fLoads L q O k) j = x at *
          generalize MW.gz L g = y at *
          have s1 : IntKind.i64.wrap (x + y) = x + y := IntWalk.i64_in _ (by omega)
          have d1 : decide (q < x + y) = true := by simp; omega
          clear hno
          go_wp2
          go_quiet (fail)
          go_wp2
          go_roundw
          case rel => exact ⟨j + 1, _, by omega, by go_num, rfl⟩
          case measure => simp [intOf]; omega
        · obtain rfl : j = r := by omega
          obtain ⟨b', o', rfl, c1⟩ := (HL'.out.on hb.out) k (by rw [HN'.out]; exact hlt)
          obtain ⟨b, o, rfl, c0⟩ := (HL.out.on hb.out) g (by rw [HN.out]; exact hgn)
          rw [HGG.out] at c1
          have lb : b' < w.heap.size := by
            obtain ⟨_, _, e, c9⟩ := HL'.out k (by rw [HN'.out]; exact hlt)
            cases e
            exact World.block_lt_of_cell? _ _ c9
          have lb1 : ¬ b' = w.heap.size + 1 := by omega
          obtain ⟨x, hx⟩ : ∃ x, MW.gz (MW.fLoads L q O k) j = x := ⟨_, rfl⟩
          obtain ⟨y, hyy⟩ : ∃ y, MW.gz L g = y := ⟨_, rfl⟩
          rw [hx] at c3 hxj t2
          rw [hx, hyy] at S1
          rw [hyy] at c0 hy t2
          have HX := Lib.hid hx
          have HY := Lib.hid hyy
          clear hx hyy
          have s1 : IntKind.i64.wrap (x + y) = x + y := IntWalk.i64_in _ (by omega)
          have d1 : decide (q < x + y) = false := by simp; omega
          clear t2
          go_wp2
          go_quiet (fail)
          go_wp2
          obtain ⟨w2, hw2⟩ : ∃ w2, (wr.drewN m).drewN nq = w2 := ⟨_, rfl⟩
          have kq : Below wr.heap.size wr w2 := hw2 ▸ ⟨rfl, rfl, rfl, Nat.le_refl _, fun _ _ => rfl⟩
          rw [hw2]
          have HW2 := Lib.hid hw2
          clear hw2 c0 c1 c3 f3
          have r1' := Lib.hid (r1.out.on kq)
          have r2' := Lib.hid (r2.out.on kq)
          have hb' := Lib.hid (sstep hb.out kq)
          obtain ⟨_, _, e1, c1⟩ := (HL'.out.on hb'.out) k (by rw [HN'.out]; exact hlt)
          cases e1
          obtain ⟨_, _, e0, c0⟩ := (HL.out.on hb'.out) g (by rw [HN.out]; exact hgn)
          cases e0
          rw [HGG.out] at c1
          obtain ⟨c3, f3⟩ := r1'.out.at j (by rw [HL1.out]; omega)
          obtain ⟨c4, f4⟩ := r2'.out.at g (by rw [HL2.out]; omega)
          rw [HX.out] at c3
          rw [HY.out] at c0
          have P1 := Lib.hid (fun v => r1'.out.put (HL1.out k).symm j v)
          clear T3
          go_region
          all_goals
            go_wp2
            exact ⟨⟨k + 1, by omega, by go_num, by rw [S1.out]; exact (P1.out _).setOther (show w.heap.size + 1 ≠ w.heap.size by omega) _, by rw [S2.out]; exact (r2'.out.setOther (show w.heap.size ≠ w.heap.size + 1 by omega) _).put (HL2.out k).symm g _, ((hb'.out.setCell (Nat.le_succ _) _).setCell (Nat.le_refl _) _).drew⟩, by simp [intOf]; omega⟩
    · obtain rfl : k = n := by omega
      go_wp2
      go_ret
      exact ⟨_, rfl, r2.out, hb.out⟩

/-- A weight has room beside a load. -/
def fitsB (y q x : Int) : Bool := decide (IntKind.i64.wrap (x + y) ≤ q)
set_option maxHeartbeats 1000000 in
theorem fit_it (w : World) (B1 B2 B3 : Nat) (x : Int) (a : Option Addr) (n c g : Nat) (L : List Int) (q : Int) (h1 : w.cell? ⟨B1, 0, none⟩ = some (.slice a n c)) (h2 : w.cell? ⟨B2, 0, none⟩ = some (.int .i64 (g : Int))) (h3 : w.cell? ⟨B3, 0, none⟩ = some (.int .i64 q)) (h : Nums w a L) (hL : L.length = n) (hg : g < n) :
    Calls Try.prog 50 #[.int .i64 x, .pointer (some ⟨B1, 0, none⟩), .pointer (some ⟨B2, 0, none⟩), .pointer (some ⟨B3, 0, none⟩)] w fun e w' => e = .returned (.bool (fitsB (MW.gz L g) q x)) ∧ Below w.heap.size w w' := by
  obtain ⟨b, o, rfl, c0⟩ := h g (by omega)
  clear h hL
  generalize MW.gz L g = y at *
  obtain ⟨z, hz⟩ : ∃ z, IntKind.i64.wrap (x + y) = z := ⟨_, rfl⟩
  have hv : Hid (fitsB y q x = decide (z ≤ q)) := by rw [Hid, ← hz]; rfl
  go_enter Try.func50, Try.ntmps50
  go_wp2
  go_region
  all_goals
    go_wp2
    go_ret
    exact ⟨ret_bool (by rw [hv.out]), by go_grown⟩

set_option maxHeartbeats 1000000 in
theorem index_room (w : World) (a : Option Addr) (n c : Nat) (L : List Int) (h : Nums w a L) (hL : L.length = n) (hn : n ≤ 1048576) (B1 B2 B3 : Nat) (a' : Option Addr) (n' k' g : Nat) (R : List Int) (q : Int) (hR : R.length = n') (hg : g < n') (h1 : w.cell? ⟨B1, 0, none⟩ = some (.slice a' n' k')) (h2 : w.cell? ⟨B2, 0, none⟩ = some (.int .i64 (g : Int))) (h3 : w.cell? ⟨B3, 0, none⟩ = some (.int .i64 q)) (h4 : Nums w a' R) :
    Calls Try.prog 49 #[.slice a n c, .func (.func 50) #[] #[.pointer (some ⟨B1, 0, none⟩), .pointer (some ⟨B2, 0, none⟩), .pointer (some ⟨B3, 0, none⟩)]] w fun e w' => ∃ r : Int, e = .returned (.int .i64 r) ∧ FirstAt (fitsB (MW.gz R g) q) L r ∧ Below w.heap.size w w' := by
  have HL := Lib.hid h
  have HN := Lib.hid hL
  have l_h1 := World.block_lt_of_cell? _ _ h1
  have l_h2 := World.block_lt_of_cell? _ _ h2
  have l_h3 := World.block_lt_of_cell? _ _ h3
  have HC := Lib.hid (fun W (hW : Below w.heap.size w W) (x : Int) => fit_it W B1 B2 B3 x a' n' k' g R q ((hW.cell (p := ⟨B1, 0, none⟩) l_h1).trans h1) ((hW.cell (p := ⟨B2, 0, none⟩) l_h2).trans h2) ((hW.cell (p := ⟨B3, 0, none⟩) l_h3).trans h3) (h4.on hW) hR hg)
  clear h hL h1 h2 h3 l_h1 l_h2 l_h3 h4
  go_enter Try.func49, Try.ntmps49
  go_wp2
  go_loopw [8] (fun i wr => ∃ k : Nat, k ≤ n ∧ i = .int .i64 k ∧ Hid (∀ j, j < k → (fitsB (MW.gz R g) q) (MW.gz L j) = false) ∧ Below w.heap.size w wr) (fun i _ => n - (intOf i).toNat)
  case atStart => exact ⟨0, Nat.zero_le _, rfl, fun j hj => absurd hj (by omega), Below.refl _ _⟩
  case round =>
    obtain ⟨k, hk, rfl, hno, hb⟩ := hrel
    have hz := hb.size
    by_cases hlt : k < n
    · obtain ⟨b, o, rfl, c0⟩ := (HL.out.on hb) k (by rw [HN.out]; exact hlt)
      cases he : (fitsB (MW.gz R g) q) (MW.gz L k)
      · have HE := Lib.hid he
        clear he
        go_wp2_with (go_at_call 50; refine (HC.out _ hb _).mono ?_; rw [HE.out]; rintro e w1 ⟨rfl, hb1⟩)
        go_roundw
        case rel => exact ⟨k + 1, by omega, by go_num, fun j hj => by by_cases e : j = k; (subst e; exact HE.out); exact hno.out j (by omega), sstep hb hb1⟩
        case measure => simp [intOf]; omega
      · have HE := Lib.hid he
        clear he
        go_wp2_with (go_at_call 50; refine (HC.out _ hb _).mono ?_; rw [HE.out]; rintro e w1 ⟨rfl, hb1⟩)
        go_ret
        exact ⟨_, rfl, Or.inr ⟨k, rfl, by rw [HN.out]; exact hlt, HE.out, hno.out⟩, sstep hb hb1⟩
    · obtain rfl : k = n := by omega
      go_wp2
      go_ret
      exact ⟨_, rfl, Or.inl ⟨rfl, fun i hi => hno.out i (by rw [HN.out] at hi; exact hi)⟩, hb⟩

theorem first_room {L R : List Int} {q : Int} {O : List Int} {k g : Nat} {r : Int} (hw : MW.wOk L q = true) (hk : k < L.length) (hg : MW.gz O k = g) (hR : R = MW.fLoads L q O k) (h : FirstAt (fitsB (MW.gz L g) q) R r) : r = ((MW.fRoom L q O k : Nat) : Int) := by
  obtain ⟨t1, t2, t3⟩ := MW.fRoom_is (O := O) hw hk
  have hb := (MW.fit_inv (O := O) hw k (by omega)).2
  have hc := ((MW.wOk_iff L q).1 hw).1
  have hy := MW.wOk_gz hw g
  rw [hg, show ((g : Int)).toNat = g from rfl] at t2 t3
  have hP : ∀ i, fitsB (MW.gz L g) q (MW.gz R i) = decide (MW.gz (MW.fLoads L q O k) i + MW.gz L g ≤ q) := by
    intro i
    have := hb i
    unfold fitsB
    rw [hR, IntWalk.i64_in _ (by omega)]
  have hl : R.length = L.length := by rw [hR, MW.fLoads_length]
  rcases h with ⟨_, h⟩ | ⟨m, rfl, hm, h1, h2⟩
  · have := h (MW.fRoom L q O k) (by omega)
    rw [hP, decide_eq_false_iff_not] at this
    exact absurd t2 this
  · rw [hP, decide_eq_true_eq] at h1
    congr 1
    by_cases e : m < MW.fRoom L q O k
    · exact absurd h1 (t3 m e)
    · by_cases e2 : MW.fRoom L q O k < m
      · have := h2 _ e2
        rw [hP, decide_eq_false_iff_not] at this
        exact absurd t2 this
      · omega

set_option maxHeartbeats 4000000 in
theorem impl_fitInTurn (w : World) (a : Option Addr) (n c : Nat) (L : List Int) (h : Nums w a L) (hL : L.length = n) (a' : Option Addr) (c' : Nat) (O : List Int) (h' : Nums w a' O) (hO : O.length = n) (q : Int) (hw : MW.wOk L q = true) (ho : ∀ k, k < n → 0 ≤ MW.gz O k ∧ MW.gz O k < n) :
    Calls Try.prog 30 #[.slice a n c, .int .i64 q, .slice a' n c'] w (NumsOut w (MW.fGiven L q O n)) := by
  have hmf : ∀ (fn : Fn) (first cap : Array Value) (w : World), (Instr.makeFunc fn first cap).run Try.prog w = .ok (.func fn first cap) w := fun _ _ _ _ => rfl
  have HL := Lib.hid h
  have HN := Lib.hid hL
  have HL' := Lib.hid h'
  have HN' := Lib.hid hO
  have HO := Lib.hid ho
  have hn : n ≤ 8 := by have := ((MW.wOk_iff L q).1 hw).2.1; omega
  obtain ⟨q1, q2⟩ := ((MW.wOk_iff L q).1 hw).1
  have HW := Lib.hid (MW.wOk_gz hw)
  have HB := Lib.hid (fun k (hk : k ≤ n) => (MW.fit_inv (O := O) hw k (by omega)).2)
  have HR := Lib.hid (fun k (hk : k < n) => MW.fRoom_is (O := O) hw (k := k) (by omega))
  have HF := Lib.hid (fun (k g : Nat) (r : Int) (hk : k < n) (hg : MW.gz O k = (g : Int)) => first_room (O := O) (k := k) (g := g) (r := r) (R := MW.fLoads L q O k) hw (by omega) hg rfl)
  have HL1 : Hid (∀ k, (MW.fLoads L q O k).length = n) := fun k => by rw [MW.fLoads_length, hL]
  have HL2 : Hid (∀ k, (MW.fGiven L q O k).length = n) := fun k => by rw [MW.fGiven_length, hL]
  have E1 : Hid (MW.fLoads L q O 0 = List.replicate n 0) := by rw [Hid, MW.fLoads_zero, hL]
  have E2 : Hid (MW.fGiven L q O 0 = List.replicate n 0) := by rw [Hid, MW.fGiven_zero, hL]
  obtain ⟨w2, hw2⟩ : ∃ w2, (w.alloc (.cells #[.slice a n c] 23)).alloc (.cells #[.int .i64 q] 3) = w2 := ⟨_, rfl⟩
  have k2 : Below w.heap.size w w2 := hw2 ▸ sstep (below_alloc0 _ _) (below_alloc0 _ _)
  have z2 : w2.heap.size = w.heap.size + 1 + 1 := by rw [← hw2]; simp
  have d1 : w2.cell? ⟨w.heap.size, 0, none⟩ = some (.slice a n c) := by rw [← hw2]; simp
  have d2 : w2.cell? ⟨w.heap.size + 1, 0, none⟩ = some (.int .i64 q) := by rw [← hw2]; simp
  obtain ⟨wa, hwa⟩ : ∃ wa, w2.alloc (.cells (madeCells #[.int .i64 0] n) 3) = wa := ⟨_, rfl⟩
  obtain ⟨wb, hwb⟩ : ∃ wb, wa.alloc (.cells (madeCells #[.int .i64 0] n) 3) = wb := ⟨_, rfl⟩
  have ka : Below w2.heap.size w2 wa := hwa ▸ below_alloc0 _ _
  have kb : Below wa.heap.size wa wb := hwb ▸ below_alloc0 _ _
  have za : wa.heap.size = w.heap.size + 1 + 1 + 1 := by rw [← hwa]; simp [z2]
  have zb : w.heap.size + 1 + 1 + 1 < wb.heap.size := by rw [← hwb]; simp; omega
  have kab : Below w2.heap.size w2 wb := sstep ka kb
  have d1b := (kab.cell (p := ⟨w.heap.size, 0, none⟩) (by show w.heap.size < _; omega)).trans d1
  have d2b := (kab.cell (p := ⟨w.heap.size + 1, 0, none⟩) (by show w.heap.size + 1 < _; omega)).trans d2
  have d1a := (ka.cell (p := ⟨w.heap.size, 0, none⟩) (by show w.heap.size < _; omega)).trans d1
  have R1 : Hid (IRow wb w.heap.size (.slice (some ⟨w.heap.size + 1 + 1, 0, none⟩) n n) (MW.fLoads L q O 0)) := by
    rw [Hid, E1.out, ← z2]; exact IRow.on (hwa ▸ irow_made w2 n w.heap.size (by omega) (by omega)) kb
  have R2 : Hid (IRow wb w.heap.size (.slice (some ⟨w.heap.size + 1 + 1 + 1, 0, none⟩) n n) (MW.fGiven L q O 0)) := by
    rw [Hid, E2.out, ← za]; exact hwb ▸ irow_made wa n w.heap.size (by omega) (by omega)
  have hb0 := Lib.hid (sstep k2 kab)
  have HW2 := Lib.hid hw2
  have HWA := Lib.hid hwa
  have HWB := Lib.hid hwb
  have Z2 := Lib.hid z2
  have ZA := Lib.hid za
  have D1 := Lib.hid d1
  have D1A := Lib.hid d1a
  have D1B := Lib.hid d1b
  have D2B := Lib.hid d2b
  clear h hL h' hO ho hw ka kb kab hwa hwb za hw2 k2 z2 d1 d2 d1a d1b d2b
  have hmk := make_ints n (by omega)
  go_enter Try.func30, Try.ntmps30
  go_wp2
  rw [HW2.out, HWA.out, HWB.out]
  go_loopw [19] (fun i wr => ∃ k : Nat, k ≤ n ∧ i = .int .i64 k ∧ Hid (IRow wr w.heap.size (.slice (some ⟨w.heap.size + 1 + 1, 0, none⟩) n n) (MW.fLoads L q O k)) ∧ Hid (IRow wr w.heap.size (.slice (some ⟨w.heap.size + 1 + 1 + 1, 0, none⟩) n n) (MW.fGiven L q O k)) ∧ Hid (Below w.heap.size w wr) ∧ w.heap.size + 1 + 1 + 1 < wr.heap.size ∧ Hid (wr.cell? ⟨w.heap.size, 0, none⟩ = some (.slice a n c)) ∧ Hid (wr.cell? ⟨w.heap.size + 1, 0, none⟩ = some (.int .i64 q))) (fun i _ => n - (intOf i).toNat)
  case atStart => exact ⟨0, Nat.zero_le _, rfl, R1.out, R2.out, hb0.out, zb, D1B.out, D2B.out⟩
  case round =>
    obtain ⟨k, hk, rfl, r1, r2, hb, hz, e1, e2⟩ := hrel
    by_cases hlt : k < n
    · obtain ⟨g, hgg⟩ : ∃ g : Nat, MW.gz O k = g := ⟨(MW.gz O k).toNat, by have := HO.out k hlt; omega⟩
      have hgn : g < n := by have := HO.out k hlt; omega
      have hy := HW.out g
      obtain ⟨r, hrr⟩ : ∃ r, MW.fRoom L q O k = r := ⟨_, rfl⟩
      obtain ⟨t1, t2, t3⟩ := HR.out k hlt
      rw [hrr, hgg] at t2 t3
      rw [hrr, HN.out] at t1
      rw [show ((g : Int)).toNat = g from rfl] at t2 t3
      have S1 : Hid (MW.fLoads L q O (k + 1) = (MW.fLoads L q O k).set r (MW.gz (MW.fLoads L q O k) r + MW.gz L g)) := by
        rw [Hid, MW.fLoads_succ, hrr, hgg]; rfl
      have S2 : Hid (MW.fGiven L q O (k + 1) = (MW.fGiven L q O k).set g (r : Int)) := by
        rw [Hid, MW.fGiven_succ, hrr, hgg]; rfl
      have HQ : Hid (∀ x, FirstAt (fitsB (MW.gz L g) q) (MW.fLoads L q O k) x → x = (r : Int)) := fun x hx => by rw [← hrr]; exact HF.out k g x hlt hgg hx
      have hx := HB.out k hk r
      obtain ⟨b', o', rfl, c1⟩ := (HL'.out.on hb.out) k (by rw [HN'.out]; exact hlt)
      rw [hgg] at c1
      have HGG := Lib.hid hgg
      obtain ⟨wi, hwi⟩ : ∃ wi, wr.alloc (.cells #[.int .i64 (g : Int)] 3) = wi := ⟨_, rfl⟩
      have ki : Below wr.heap.size wr wi := hwi ▸ below_alloc0 _ _
      have ci : wi.cell? ⟨wr.heap.size, 0, none⟩ = some (.int .i64 (g : Int)) := by rw [← hwi]; simp
      have zi : wi.heap.size = wr.heap.size + 1 := by rw [← hwi]; simp
      have HWI := Lib.hid hwi
      have e1i := (ki.cell (p := ⟨w.heap.size, 0, none⟩) (by show w.heap.size < _; omega)).trans e1.out
      have e2i := (ki.cell (p := ⟨w.heap.size + 1, 0, none⟩) (by show w.heap.size + 1 < _; omega)).trans e2.out
      have r1i := Lib.hid (r1.out.on ki)
      have r2i := Lib.hid (r2.out.on ki)
      have hbi := Lib.hid (sstep hb.out ki)
      have HIX := Lib.hid (fun W (hW : Below wi.heap.size wi W) => index_room W (some ⟨w.heap.size + 1 + 1, 0, none⟩) n n (MW.fLoads L q O k) (r1i.out.on hW).nums (HL1.out k) (by omega) w.heap.size wr.heap.size (w.heap.size + 1) a n c g L q HN.out hgn ((hW.cell (p := ⟨w.heap.size, 0, none⟩) (World.block_lt_of_cell? _ _ e1i)).trans e1i) ((hW.cell (p := ⟨wr.heap.size, 0, none⟩) (World.block_lt_of_cell? _ _ ci)).trans ci) ((hW.cell (p := ⟨w.heap.size + 1, 0, none⟩) (World.block_lt_of_cell? _ _ e2i)).trans e2i) ((HL.out.on hbi.out).on hW))
      have ZI := Lib.hid zi
      have E1I := Lib.hid e1i
      have E2I := Lib.hid e2i
      have CI := Lib.hid ci
      have zwi : wr.heap.size < wi.heap.size := by omega
      clear hgg hrr t3 hwi ki zi e1 e2
      go_wp2
      rw [HWI.out]
      clear e1i e2i
      go_region_with (go_at_call 49; refine (HIX.out _ (by go_grown)).mono ?_; rintro e w3 ⟨r', rfl, hr, k3⟩; obtain rfl := HQ.out r' hr; have k4 : Below wi.heap.size wi w3 := (by first | exact k3 | exact sstep (by go_grown) k3); have r2w := Lib.hid (r2i.out.on k4); obtain ⟨c4, f4⟩ := r2w.out.at g (by rw [HL2.out]; exact hgn); have c5 := (k4.cell (p := ⟨wr.heap.size, 0, none⟩) zwi).trans CI.out; clear hr k3)
      all_goals
        have r1w := Lib.hid (r1i.out.on k4)
        have hbw := Lib.hid (sstep hbi.out k4)
        have zw := k4.size
        have e1w := Lib.hid ((k4.cell (p := ⟨w.heap.size, 0, none⟩) (World.block_lt_of_cell? _ _ E1I.out)).trans E1I.out)
        have e2w := Lib.hid ((k4.cell (p := ⟨w.heap.size + 1, 0, none⟩) (World.block_lt_of_cell? _ _ E2I.out)).trans E2I.out)
        have C5 := Lib.hid c5
        clear k4 c4 c5
        go_wp2
        obtain ⟨w4, hw4⟩ : ∃ w4, w3.setCell ⟨w.heap.size + 1 + 1 + 1, g, none⟩ (.int .i64 (r : Int)) = w4 := ⟨_, rfl⟩
        rw [hw4]
        have z4 : w3.heap.size = w4.heap.size := by rw [← hw4]; simp
        have e1 : w4.cell? ⟨w.heap.size, 0, none⟩ = some (.slice a n c) := by rw [← hw4, World.cell?_setCell_far _ _ _ _ (show w.heap.size + 1 + 1 + 1 ≠ w.heap.size by omega)]; exact e1w.out
        have e2 : Hid (w4.cell? ⟨w.heap.size + 1, 0, none⟩ = some (.int .i64 q)) := by rw [Hid, ← hw4, World.cell?_setCell_far _ _ _ _ (show w.heap.size + 1 + 1 + 1 ≠ w.heap.size + 1 by omega)]; exact e2w.out
        have c5 : w4.cell? ⟨wr.heap.size, 0, none⟩ = some (.int .i64 (g : Int)) := by rw [← hw4, World.cell?_setCell_far _ _ _ _ (show w.heap.size + 1 + 1 + 1 ≠ wr.heap.size by omega)]; exact C5.out
        have r1x := Lib.hid (hw4 ▸ r1w.out.setOther (p := ⟨w.heap.size + 1 + 1 + 1, g, none⟩) (show w.heap.size + 1 + 1 ≠ w.heap.size + 1 + 1 + 1 by omega) (.int .i64 (r : Int)))
        have r2x := Lib.hid (hw4 ▸ r2w.out.put (HL2.out k).symm g (r : Int))
        rw [← S2.out] at r2x
        have hbx := Lib.hid (hw4 ▸ hbw.out.setCell (p := ⟨w.heap.size + 1 + 1 + 1, g, none⟩) (show w.heap.size ≤ w.heap.size + 1 + 1 + 1 by omega) (.int .i64 (r : Int)))
        clear hw4 r1w r2w hbw e1w e2w C5
        obtain ⟨b, o, rfl, c0⟩ := (HL.out.on hbx.out) g (by rw [HN.out]; exact hgn)
        obtain ⟨c3, f3⟩ := r1x.out.at r (by rw [HL1.out]; exact t1)
        obtain ⟨c4, f4⟩ := r2x.out.at g (by rw [HL2.out]; exact hgn)
        have hg4 : MW.gz (MW.fGiven L q O (k + 1)) g = (r : Int) := by rw [S2.out, MW.gz_set_self (by rw [HL2.out]; exact hgn)]
        rw [hg4] at c4
        obtain ⟨x, hxx⟩ : ∃ x, MW.gz (MW.fLoads L q O k) r = x := ⟨_, rfl⟩
        obtain ⟨y, hyy⟩ : ∃ y, MW.gz L g = y := ⟨_, rfl⟩
        have P1 := Lib.hid (fun v => r1x.out.put (HL1.out k).symm r v)
        have r2y := Lib.hid (fun v => r2x.out.setOther (p := ⟨w.heap.size + 1 + 1, r, none⟩) (show w.heap.size + 1 + 1 + 1 ≠ w.heap.size + 1 + 1 by omega) v)
        have S3 := S1.out
        rw [hxx] at c3 hx
        rw [hyy] at c0 hy
        rw [hxx, hyy] at S3
        have S4 := Lib.hid S3
        have E3 := Lib.hid e1
        have s1 : IntKind.i64.wrap (x + y) = x + y := IntWalk.i64_in _ (by omega)
        clear hg4 hxx hyy S3 t2
        go_region
        all_goals
          go_wp2
          exact ⟨⟨k + 1, by omega, by go_num, by rw [S4.out]; exact P1.out _, r2y.out _, (hbx.out.setCell (show w.heap.size ≤ w.heap.size + 1 + 1 by omega) _).drew, by simp; omega, (World.cell?_setCell_far _ _ _ _ (show w.heap.size + 1 + 1 ≠ w.heap.size by omega)).trans E3.out, (World.cell?_setCell_far _ _ _ _ (show w.heap.size + 1 + 1 ≠ w.heap.size + 1 by omega)).trans e2.out⟩, by simp [intOf]; omega⟩
    · obtain rfl : k = n := by omega
      go_wp2
      go_ret
      exact ⟨_, rfl, r2.out, hb.out⟩

set_option maxHeartbeats 1000000 in
theorem impl_indicesOf (w : World) (a : Option Addr) (n c : Nat) (hn : n ≤ 1048576) :
    Calls Try.prog 31 #[.slice a n c] w (NumsOut w (MW.upTo n)) := by
  go_enter Try.func31, Try.ntmps31
  go_wp2
  go_loopw [3, 7] (fun v i wr => ∃ k : Nat, k ≤ n ∧ i = .int .i64 k ∧ Hid (IRow wr w.heap.size v (MW.upTo k)) ∧ Below w.heap.size w wr) (fun _ i _ => n - (intOf i).toNat)
  case atStart => exact ⟨0, Nat.zero_le _, rfl, IRow.nil _ _, Below.refl _ _⟩
  case round =>
    obtain ⟨k, hk, rfl, hr, hb⟩ := hrel
    have hz := hb.size
    by_cases hlt : k < n
    · have hlen := MW.upTo_length k
      go_wp2_with (at_builtin; refine wpList_append_int _ rfl _ _ rfl w.heap.size u3 (MW.upTo k) rfl (hr.out.alloc _) _ (k : Int) rfl ?_ (by omega) (by simp; omega) ?_)
      · simp [go_sem]
      · intro v1 w3 r1 gr1 ho1
        have R1 : Hid (IRow w3 w.heap.size v1 (MW.upTo (k + 1))) := by rw [Hid, MW.upTo_succ]; exact r1
        have B3 : Below w.heap.size w w3 := (hb.alloc hz _).grown gr1 (by simp; omega) (fun q e => (hr.out.lt q e).1)
        clear r1 gr1 ho1 hlen
        go_wp2
        go_roundw
        case rel => exact ⟨k + 1, by omega, by go_num, R1, B3⟩
        case measure => simp [intOf]; omega
    · obtain rfl : k = n := by omega
      go_wp2
      go_ret
      exact ⟨_, rfl, hr.out, hb⟩

theorem upTo_in (n k : Nat) (hk : k < n) : 0 ≤ MW.gz (MW.upTo n) k ∧ MW.gz (MW.upTo n) k < n := by
  rw [MW.gz_upTo hk]; omega

set_option maxHeartbeats 1000000 in
theorem impl_FirstFit (w : World) (a : Option Addr) (n c : Nat) (L : List Int) (h : Nums w a L) (hL : L.length = n) (hn : n ≤ 1048576) (q : Int) :
    Calls Try.prog 9 #[.slice a n c, .int .i64 q] w (NumsOut w (MW.firstFit L q)) := by
  have HL := Lib.hid h
  have HN := Lib.hid hL
  clear h hL
  cases h1 : MW.wOk L q
  · have H1 := Lib.hid h1
    have HV := Lib.hid (MW.firstFit_no h1)
    clear h1
    go_enter Try.func9, Try.ntmps9
    go_wp2_with (go_at_call 12; refine (impl_WeightsValid _ _ _ _ _ HL.out HN.out hn q).mono ?_; rw [H1.out]; rintro e w1 ⟨rfl, hb1⟩)
    go_ret
    exact ⟨_, rfl, by rw [HV.out]; exact IRow.nil _ _, hb1⟩
  · have H1 := Lib.hid h1
    have HV := Lib.hid ((MW.firstFit_yes h1).trans (by rw [HN.out]))
    clear h1
    go_enter Try.func9, Try.ntmps9
    go_wp2_with (first
      | (go_at_call 12; refine (impl_WeightsValid _ _ _ _ _ HL.out HN.out hn q).mono ?_; rw [H1.out]; rintro e w1 ⟨rfl, hb1⟩)
      | (go_at_call 31; refine (impl_indicesOf _ _ _ _ hn).mono ?_; rintro e w2 ⟨v2, rfl, hr, hb2⟩; obtain ⟨a2, c2, rfl, _, _⟩ := hr.form; have HR := Lib.hid hr.nums; have HB := Lib.hid (sstep hb1 hb2); rw [MW.upTo_length]; clear hr hb1 hb2)
      | (go_at_call 30; refine (impl_fitInTurn _ _ _ _ _ (HL.out.on HB.out) HN.out _ _ _ HR.out (MW.upTo_length _) q H1.out (upTo_in _)).mono ?_; rintro e w3 ⟨v3, rfl, hr3, hb3⟩))
    go_ret
    exact ⟨_, rfl, by rw [HV.out]; exact hr3.lower HB.out.size, sstep HB.out hb3⟩

set_option maxHeartbeats 1000000 in
theorem spec_FirstFit (w : World) (a : Option Addr) (n c : Nat) (L : List Int) (h : Nums w a L) (hL : L.length = n) (hn : n ≤ 1048576) (q : Int) :
    Calls Try.prog 11 #[.slice a n c, .int .i64 q] w (NumsOut w (MW.firstFit L q)) := by
  have hb0 := below_alloc0 w (.cells #[] 3)
  have HL := Lib.hid (h.on hb0)
  have HL0 := Lib.hid h
  have HN := Lib.hid hL
  have HE := Lib.hid (one_irow w)
  clear h hL
  cases h1 : MW.wOk L q
  · have H1 := Lib.hid h1
    have HV := Lib.hid (MW.firstFit_no h1)
    clear h1
    go_enter Try.func11, Try.ntmps11
    go_wp2_with (go_at_call 13; refine (spec_WeightsValid _ _ _ _ _ HL.out HN.out hn q).mono ?_; rw [H1.out]; rintro e w1 ⟨rfl, rfl⟩)
    go_ret
    exact ⟨_, rfl, by rw [HV.out]; exact HE.out, hb0⟩
  · have H1 := Lib.hid h1
    have HV := Lib.hid ((MW.firstFit_yes h1).trans (by rw [HN.out]))
    clear h1
    go_enter Try.func11, Try.ntmps11
    go_wp2_with (go_at_call 13; refine (spec_WeightsValid _ _ _ _ _ HL.out HN.out hn q).mono ?_; rw [H1.out]; rintro e w1 ⟨rfl, rfl⟩)
    go_loopw [5, 6] (fun v i wr => ∃ k : Nat, k ≤ n ∧ i = .int .i64 k ∧ Hid (IRow wr w.heap.size v (MW.upTo k)) ∧ Below w.heap.size w wr) (fun _ i _ => n - (intOf i).toNat)
    case atStart => exact ⟨0, Nat.zero_le _, rfl, HE.out, hb0⟩
    case round =>
      obtain ⟨k, hk, rfl, hr, hb⟩ := hrel
      have hz := hb.size
      by_cases hlt : k < n
      · have hlen := MW.upTo_length k
        go_wp2_with (at_builtin; refine wpList_append_int _ rfl _ _ rfl w.heap.size u5 (MW.upTo k) rfl (hr.out.alloc _) _ (k : Int) rfl ?_ (by omega) (by simp; omega) ?_)
        · simp [go_sem]
        · intro v1 w3 r1 gr1 ho1
          have R1 : Hid (IRow w3 w.heap.size v1 (MW.upTo (k + 1))) := by rw [Hid, MW.upTo_succ]; exact r1
          have B3 : Below w.heap.size w w3 := (hb.alloc hz _).grown gr1 (by simp; omega) (fun q e => (hr.out.lt q e).1)
          clear r1 gr1 ho1 hlen
          go_wp2
          go_roundw
          case rel => exact ⟨k + 1, by omega, by go_num, R1, B3⟩
          case measure => simp [intOf]; omega
      · obtain rfl : k = n := by omega
        obtain ⟨a2, c2, rfl, _, _⟩ := hr.out.form
        have HR := Lib.hid hr.out.nums
        have HB := Lib.hid hb
        rw [MW.upTo_length]
        clear hr hb
        go_wp2_with (go_at_call 32; refine (spec_l5Fit _ _ _ _ _ (HL0.out.on HB.out) HN.out _ _ _ HR.out (MW.upTo_length _) q H1.out (upTo_in _)).mono ?_; rintro e w3 ⟨v3, rfl, hr3, hb3⟩)
        go_ret
        exact ⟨_, rfl, by rw [HV.out]; exact hr3.lower HB.out.size, sstep HB.out hb3⟩
end Go.Proofs.Ytmoghfgfdbdioaa
