/-
  Drawn plans with letters and a pass: DrawPlanPass, DrawRunPlan.
-/
import Derived.Test.YtekfjheaffkakaaMgR12
namespace Go.Proofs.Ytekfjheaffkakaa
open Go.RowKit
set_option linter.unusedVariables false

/-- What is in memory while a plan and its letters are drawn: the result's block y, the plan's block x, its codes in g, the letters. -/
structure DrS (w wr : World) (r N y B0 x : Nat) (b p : Int) (g c : Nat) (P : List ByteArray) (v : Value) (L : List (Int × ByteArray)) : Prop where
  rd : Rd wr r N
  yy : Tri wr y (.int .i64 0) (.int .i64 0) (.slice none 0 0)
  xx : Tri wr x (.int .i64 b) (.int .i64 p) (.slice (some ⟨g, 0, none⟩) P.length c)
  pr : SRow wr B0 (.slice (some ⟨g, 0, none⟩) P.length c) P
  lr : Row wr (x + 1) v L
  on : Only w wr (fun k => k = r)
  yr : y ≠ r
  rg : r < B0
  yg : y < B0
  bg : B0 ≤ g
  gx : g < x
  wy : w.heap.size ≤ y
theorem DrS.step {w wr w' : World} {r N N' y B0 x : Nat} {b p : Int} {g c : Nat} {P : List ByteArray} {v : Value} {L : List (Int × ByteArray)} (h : DrS w wr r N y B0 x b p g c P v L) (hr : Rd w' r N') (ho : Only wr w' (fun k => k = r)) : DrS w w' r N' y B0 x b p g c P v L := by
  have h1 := h.yr; have h2 := h.rg; have h3 := h.gx; have h4 := h.bg
  exact ⟨hr, h.yy.only ho (by omega), h.xx.only ho (by omega), h.pr.only ho (fun k hk => by have e : g = k := by simpa [Value.ownBlock] using hk
                                                                                            omega), h.lr.only ho (fun k hk => by have := (h.lr.lt k hk).1; omega), h.on.trans ho (fun _ _ e => e), h.yr, h.rg, h.yg, h.bg, h.gx, h.wy⟩
/-- A drawn plan and drawn letters, in memory that is new since w. -/
structure PLd (w w' : World) (b p : Int) (a : Option Addr) (n : Nat) (S : Nat → ByteArray) (a2 : Option Addr) (m : Nat) (I : Nat → Int) (C : Nat → ByteArray) : Prop where
  bd : -9223372036854775808 ≤ b ∧ b ≤ 9223372036854775807
  pd : 0 ≤ p ∧ p ≤ 5
  ps : Strs w' a n S
  pf : SFits n S
  pn : n ≤ 13
  ls : Lts w' a2 m I C
  lf : Fits m I C
  ln : m ≤ 61
  pnew : ∀ b o, a = some ⟨b, o, none⟩ → 0 < n → w.heap.size ≤ b
  lnew : ∀ b o, a2 = some ⟨b, o, none⟩ → 0 < m → w.heap.size ≤ b
theorem PLd.on {w w1 w' : World} {b p : Int} {a : Option Addr} {n : Nat} {S : Nat → ByteArray} {a2 : Option Addr} {m : Nat} {I : Nat → Int} {C : Nat → ByteArray} (h : PLd w w1 b p a n S a2 m I C) (hb : Below w1.heap.size w1 w') : PLd w w' b p a n S a2 m I C :=
  ⟨h.bd, h.pd, h.ps.on hb, h.pf, h.pn, h.ls.on hb, h.lf, h.ln, h.pnew, h.lnew⟩
theorem PLd.old {w0 w w' : World} {b p : Int} {a : Option Addr} {n : Nat} {S : Nat → ByteArray} {a2 : Option Addr} {m : Nat} {I : Nat → Int} {C : Nat → ByteArray} (h : PLd w w' b p a n S a2 m I C) (hz : w0.heap.size ≤ w.heap.size) : PLd w0 w' b p a n S a2 m I C :=
  ⟨h.bd, h.pd, h.ps, h.pf, h.pn, h.ls, h.lf, h.ln, fun k o e h0 => Nat.le_trans hz (h.pnew k o e h0), fun k o e h0 => Nat.le_trans hz (h.lnew k o e h0)⟩
theorem PLd.only {w w1 w' : World} {T : Nat → Prop} {b p : Int} {a : Option Addr} {n : Nat} {S : Nat → ByteArray} {a2 : Option Addr} {m : Nat} {I : Nat → Int} {C : Nat → ByteArray} (h : PLd w w1 b p a n S a2 m I C) (ho : Only w1 w' T) (hn : ∀ k, w.heap.size ≤ k → ¬ T k) : PLd w w' b p a n S a2 m I C :=
  ⟨h.bd, h.pd, strsOnly h.ps ho (fun k o e h0 => hn k (h.pnew k o e h0)), h.pf, h.pn, h.ls.only ho (fun k o e h0 => hn k (h.lnew k o e h0)), h.lf, h.ln, h.pnew, h.lnew⟩
def PlanLetsNum (w : World) (e : Ending) (w' : World) : Prop := ∃ (b p : Int) (a : Option Addr) (n c : Nat) (S : Nat → ByteArray) (a2 : Option Addr) (m c2 : Nat) (I : Nat → Int) (C : Nat → ByteArray) (x : Int), e = .returned (.tuple #[.agg #[.int .i64 b, .int .i64 p, .slice a n c], .slice a2 m c2, .int .i64 x]) ∧ PLd w w' b p a n S a2 m I C ∧ (-1 ≤ x ∧ x ≤ 9223372036854775807) ∧ Below w.heap.size w w' ∧ m ≤ c2
def PlanLets (w : World) (e : Ending) (w' : World) : Prop := ∃ (b p : Int) (a : Option Addr) (n c : Nat) (S : Nat → ByteArray) (a2 : Option Addr) (m c2 : Nat) (I : Nat → Int) (C : Nat → ByteArray), e = .returned (.tuple #[.agg #[.int .i64 b, .int .i64 p, .slice a n c], .slice a2 m c2]) ∧ PLd w w' b p a n S a2 m I C ∧ Below w.heap.size w w' ∧ m ≤ c2
/-- Behind l3Bad and l2Bad: the result is laid. -/
theorem DrS.done {w w5 w6 : World} {r N y B0 x : Nat} {b p : Int} {g c : Nat} {P : List ByteArray} {v : Value} {L : List (Int × ByteArray)} (h : DrS w w5 r N y B0 x b p g c P v L) {b' p' : Int} {a' : Option Addr} {c' : Nat} {P' : List ByteArray} (hb : -9223372036854775808 ≤ b' ∧ b' ≤ 9223372036854775807) (hp : 0 ≤ p' ∧ p' ≤ 5) (hr : SRow w6 B0 (.slice a' P'.length c') P') (hl : P'.length ≤ 13) (hs : SmallS 30 P') (hd : Rd w6 r (N + 20)) (ho : Only w5 w6 (fun k => k = r ∨ (Value.slice (some ⟨g, 0, none⟩) P.length c).ownBlock = some k))
    (hn : (Value.slice a' P'.length c').ownBlock = (Value.slice (some ⟨g, 0, none⟩) P.length c).ownBlock ∨ ∃ k, (Value.slice a' P'.length c').ownBlock = some k ∧ w5.heap.size ≤ k)
    {w7 : World} {M : Nat} {v7 : Value} {L7 : List (Int × ByteArray)} (q1 : Row w7 (x + 1) v7 L7) (q2 : L7.length ≤ 61) (q3 : Small 30 L7) (q4 : Only w6 w7 (fun k => k = r ∨ v.ownBlock = some k)) :
    Row w6 (x + 1) v L ∧ Tri w6 y (.int .i64 0) (.int .i64 0) (.slice none 0 0) ∧ Tri w7 y (.int .i64 0) (.int .i64 0) (.slice none 0 0) ∧ Only w w7 (fun k => k = r) ∧ ∀ (u0 u1 u2 : Value), ∃ (a2 : Option Addr) (c2 : Nat), v7 = .slice a2 L7.length c2 ∧ L7.length ≤ c2 ∧ PLd w (((w7.setCell ⟨y, 0, none⟩ u0).setCell ⟨y, 1, none⟩ u1).setCell ⟨y, 2, none⟩ u2) b' p' a' P'.length (sC P') a2 L7.length (nI L7) (nC L7) ∧ Only w (((w7.setCell ⟨y, 0, none⟩ u0).setCell ⟨y, 1, none⟩ u1).setCell ⟨y, 2, none⟩ u2) (fun k => k = r) := by
  have k1 := h.yr; have k2 := h.rg; have k3 := h.gx; have k4 := h.yg; have k5 := h.wy; have k6 := h.bg
  have hxl := h.xx.lt
  have ho1 : ∀ k, (Value.slice (some ⟨g, 0, none⟩) P.length c).ownBlock = some k → k = g := fun k hk => by simpa [Value.ownBlock] using hk.symm
  have R6 : Row w6 (x + 1) v L := h.lr.only ho (fun k hk e => by
    have := (h.lr.lt k hk).1
    rcases e with e | e
    · omega
    · have := ho1 k e; omega)
  have Y6 : Tri w6 y (.int .i64 0) (.int .i64 0) (.slice none 0 0) := h.yy.only ho (fun e => by rcases e with e | e; (omega); have := ho1 _ e; omega)
  have Y7 := Y6.only q4 (fun e => by
    rcases e with e | e
    · omega
    · have := (R6.lt _ e).1; omega)
  have O6 : Only w w6 (fun k => k = r) := h.on.trans ho (fun k hk e => by
    rcases e with e | e
    · exact e
    · have := ho1 k e; omega)
  have O7 : Only w w7 (fun k => k = r) := O6.trans q4 (fun k hk e => by
    rcases e with e | e
    · exact e
    · have := (R6.lt k e).1; omega)
  refine ⟨R6, Y6, Y7, O7, fun u0 u1 u2 => ?_⟩
  have sY : Only w7 (((w7.setCell ⟨y, 0, none⟩ u0).setCell ⟨y, 1, none⟩ u1).setCell ⟨y, 2, none⟩ u2) (fun k => k = y) :=
    ((Only.set w7 ⟨y, 0, none⟩ u0 (S := fun k => k = y) rfl).trans (Only.set _ ⟨y, 1, none⟩ u1 (S := fun k => k = y) rfl) (fun _ _ h => h)).trans (Only.set _ ⟨y, 2, none⟩ u2 (S := fun k => k = y) rfl) (fun _ _ h => h)
  have hpo : ∀ k, (Value.slice a' P'.length c').ownBlock = some k → B0 ≤ k ∧ ∀ j, v.ownBlock = some j → k ≠ j := fun k hk => by
    refine ⟨(hr.lt k hk).1, fun j hj e => ?_⟩
    subst e
    rcases hn with e | ⟨q, e, hq⟩
    · have := ho1 k (e ▸ hk)
      have := (h.lr.lt k hj).1
      omega
    · rw [hk] at e
      have := Option.some.inj e
      have := (h.lr.lt k hj).2
      omega
  have P7 := hr.only q4 (fun k hk e => by
    have h1 := hpo k hk
    rcases e with e | e
    · omega
    · exact h1.2 k e rfl)
  have P8 := P7.only sY (fun k hk e => by have := (hpo k hk).1; omega)
  have L8 := q1.only sY (fun k hk e => by have := (q1.lt k hk).1; omega)
  obtain ⟨a2, c2, hv, hcp, hl7⟩ := L8.form
  refine ⟨a2, c2, hv, hcp, ⟨hb, hp, P8.strs', hs.fits (by omega), hl, hl7, fun i hi => ?_, q2, fun k o e _ => ?_, fun k o e h0 => ?_⟩, O7.trans sY (fun k hk e => by omega)⟩
  · have := q3.at i hi
    rw [nI_at hi, nC_at hi]
    exact ⟨by omega, by unfold maxLen; omega⟩
  · have := (P8.lt k (by rw [e]; rfl)).1; omega
  · have := (L8.lt k (by rw [hv, e]; rfl)).1; omega

set_option maxHeartbeats 4000000 in
set_option maxRecDepth 100000 in
theorem DrawPlanPass_any (a : Option Addr) (l k : Nat) (z : List Int) (w : World) (h : IsRow .u8 w a l k z) :
    Calls Try.prog 10 #[.slice a l k] w (PlanLetsNum w) := by
  have h' := Lib.hid (h.below (below_alloc0 w (.cells #[.int .i64 0, .int .i64 0, .slice none 0 0] 25)))
  have BY0 := Lib.hid (tri_made w (.int .i64 0) (.int .i64 0) (.slice none 0 0) 25)
  clear h
  go_enter Try.func10, Try.ntmps10
  go_wp2_with fail
  refine (open_any _ _ _ _ _ h'.out).mono ?_
  rintro e w1 ⟨r, rfl, rd1, bl1, hr1⟩
  have BY1 := Lib.hid (BY0.out.on bl1)
  have B1 : Hid (Below w.heap.size w w1) := sstep (below_alloc0 w _) bl1
  have hrw : w.heap.size < r := by simp at hr1; omega
  have RD1 := Lib.hid rd1
  have hrl := rd1.lt
  clear BY0 h' rd1 bl1 hr1
  go_wp2_with fail
  refine (l3Some_any _ r _ RD1.out (by omega)).mono ?_
  rintro e w2 ⟨b, p, v, P, rfl, hb, hp, hrow, l1, l2, hsm, sg2⟩
  obtain ⟨a2, c, hv, _, _⟩ := hrow.form
  cases hv
  rcases hrow.cases with ⟨e1, e2⟩ | ⟨g, c', e1, hbg, hgl, hlc⟩
  · rw [e2] at l1; simp at l1
  cases e1
  have z2 := sg2.2.size
  have o2 : Only w1 w2 (fun k => k = r) := sg2.only
  have O2 : Hid (Only w w2 (fun k => k = r)) := (Only.new B1.out).trans o2 (fun _ _ e => e)
  have BY2 := Lib.hid (BY1.out.only o2 (by omega))
  have ba := below_alloc0 w2 (.cells #[.int .i64 b, .int .i64 p, .slice (some ⟨g, 0, none⟩) P.length c] 25)
  have X3 := Lib.hid (tri_made w2 (.int .i64 b) (.int .i64 p) (.slice (some ⟨g, 0, none⟩) P.length c) 25)
  have R3 : Hid (SRow (w2.alloc (.cells #[.int .i64 b, .int .i64 p, .slice (some ⟨g, 0, none⟩) P.length c] 25)) w1.heap.size (.slice (some ⟨g, 0, none⟩) P.length c) P) := (hrow.base (Nat.le_succ _)).below ba
  have Y3 := Lib.hid (BY2.out.on ba)
  have RD3 := Lib.hid (sg2.1.below ba)
  have O3 : Hid (Only w (w2.alloc (.cells #[.int .i64 b, .int .i64 p, .slice (some ⟨g, 0, none⟩) P.length c] 25)) (fun k => k = r)) := O2.out.trans (Only.new ba) (fun _ _ e => e)
  have HSM := Lib.hid hsm
  obtain ⟨W3, hW3⟩ : ∃ W3, w2.alloc (.cells #[.int .i64 b, .int .i64 p, .slice (some ⟨g, 0, none⟩) P.length c] 25) = W3 := ⟨_, rfl⟩
  have zW : W3.heap.size = w2.heap.size + 1 := by rw [← hW3]; simp
  rw [hW3] at X3 R3 Y3 RD3 O3
  have HW3 := Lib.hid hW3
  clear hW3 hrow hsm sg2 o2 ba BY1 BY2 B1 RD1 O2
  obtain ⟨⟨d0, d1, d2⟩, g0, g1, g2⟩ := X3.out
  have h3 := R3.out.strs'
  have hs7 : ∀ i, i < P.length → (sC P i).size ≤ 7 := fun i hi => by rw [sC_at hi]; exact HSM.out _ (List.getElem_mem hi)
  go_wp2_with fail
  rw [HW3.out]
  refine (l3Mail_any _ r _ b p _ P.length c (sC P) RD3.out (by omega) h3 ⟨l1, by omega⟩ hs7 (fun b' o' e => by injection e with e; injection e with e; omega)).mono ?_
  rintro e w4 ⟨v, L, rfl, R4, l4, M4, sg4⟩
  have D4 : Hid (DrS w w4 r (300 + 300) w.heap.size w1.heap.size w2.heap.size b p g c P v L) := by
    have o4 := sg4.only
    exact ⟨sg4.1, Y3.out.only o4 (by omega), X3.out.only o4 (by omega), R3.out.only o4 (fun k hk => by have := (R3.out.lt k hk).1; omega), by rw [← zW]; exact R4, O3.out.trans o4 (fun _ _ e => e), by omega, by omega, by omega, by omega, by omega, Nat.le_refl _⟩
  have HM4 := Lib.hid M4
  clear sg4 R4 M4 X3 Y3 R3 RD3 O3 HW3 d0 d1 d2 g0 g1 g2 h3 hs7
  obtain ⟨⟨d0, d1, d2⟩, g0, g1, g2⟩ := D4.out.xx
  go_wp2_with fail
  refine (pick_sg _ _ _ r _ (Sg.start D4.out.rd) (by omega) (by omega) (by omega)).mono ?_
  rintro e w5 ⟨x, rfl, x0, x1, sg5⟩
  have D5 := Lib.hid (D4.out.step sg5.1 sg5.only)
  clear sg5 D4 d0 d1 d2 g0 g1 g2
  go_wp2_with fail
  refine (pick_sg _ _ _ r _ (Sg.start D5.out.rd) (by omega) (by omega) (by omega)).mono ?_
  rintro e w6 ⟨t, rfl, t0, t1, sg6⟩
  have D6 := Lib.hid (D5.out.step sg6.1 sg6.only)
  clear sg6 D5
  obtain ⟨⟨d0, d1, d2⟩, g0, g1, g2⟩ := D6.out.xx
  have hlx := D6.out.xx.lt
  cases ct : (t == 0)
  · go_wp2_with fail
    refine (l3Bad_any _ r _ w1.heap.size b p _ c P D6.out.rd (by omega) D6.out.pr (by omega) l1 l2 HSM.out (by omega) hp).mono ?_
    rintro e w8 ⟨b', p', a', c', P', rfl, hb', hp', R8, l8, S8, rd8, o8, n8⟩
    have R8' := Lib.hid R8
    have S8' := Lib.hid S8
    have RD8 := Lib.hid rd8
    have O8 := Lib.hid o8
    have N8 := Lib.hid n8
    clear R8 S8 rd8 o8 n8 d0 d1 d2 g0 g1 g2
    have LR8 : Row w8 (w2.heap.size + 1) v L := D6.out.lr.only O8.out (fun k hk e => by
      have := (D6.out.lr.lt k hk).1
      rcases e with e | e
      · omega
      · have e2 : g = k := by simpa [Value.ownBlock] using e
        omega)
    go_wp2_with fail
    refine (l2Bad_only _ r _ (w2.heap.size + 1) v L RD8.out (by omega) LR8 (by omega) (by omega) HM4.out).mono ?_
    rintro e w9 ⟨v9, L9, rfl, R9, l9, S9, rd9, o9, _⟩
    obtain ⟨_, _, Y9, O9, hfin⟩ := D6.out.done hb' hp' R8'.out l8 S8'.out RD8.out O8.out N8.out R9 l9 S9 o9 (M := 0)
    obtain ⟨a2, c2, hv9, hcp, hpl, hol⟩ := hfin (.int .i64 b') (.int .i64 p') (.slice a' P'.length c')
    have HCP := Lib.hid hcp
    have HPL := Lib.hid hpl
    have HOL := Lib.hid hol
    subst hv9
    obtain ⟨⟨ee0, ee1, ee2⟩, ff0, ff1, ff2⟩ := Y9
    have lty := World.block_lt_of_cell? _ _ ee0
    clear hcp hpl hol R9 S9 rd9 o9 LR8 hfin O9
    go_wp2
    refine bodyPost_ret (v := .tuple #[.agg #[.int .i64 b', .int .i64 p', .slice a' P'.length c'], .slice a2 L9.length c2, .int .i64 x]) (by simp [results, Try.results10, go_sem, ee0, ee1, ee2]) rfl ?_
    exact ⟨b', p', a', P'.length, c', sC P', a2, L9.length, c2, nI L9, nC L9, x, rfl, HPL.out, by omega, HOL.out.below (B := w.heap.size) (fun k hk hk2 => by omega) (Nat.le_refl _), HCP.out⟩
  · go_wp2_with fail
    refine (num_sg _ [-1, p, 9223372036854775807] w6.heap.size _ r _ (Sg.start (D6.out.rd.below (below_alloc0 w6 _))) (by omega) (by simp) (by simp) (by have := D6.out.rd.lt; omega) (cells_int [-1, p, 9223372036854775807] _ w6)).mono ?_
    rintro e w7 ⟨x7, rfl, hm7, sg7⟩
    have hx7 : -1 ≤ x7 ∧ x7 ≤ 9223372036854775807 := by simp at hm7; omega
    have D7 := Lib.hid (D6.out.step sg7.1 ((Only.new (below_alloc0 w6 _)).trans sg7.only (fun _ _ e => e)))
    clear sg7 D6 hm7 d0 d1 d2 g0 g1 g2
    obtain ⟨⟨d0, d1, d2⟩, g0, g1, g2⟩ := D7.out.xx
    have hlx7 := D7.out.xx.lt
    go_wp2_with fail
    refine (l3Bad_any _ r _ w1.heap.size b p _ c P D7.out.rd (by omega) D7.out.pr (by omega) l1 l2 HSM.out (by omega) hp).mono ?_
    rintro e w8 ⟨b', p', a', c', P', rfl, hb', hp', R8, l8, S8, rd8, o8, n8⟩
    have R8' := Lib.hid R8
    have S8' := Lib.hid S8
    have RD8 := Lib.hid rd8
    have O8 := Lib.hid o8
    have N8 := Lib.hid n8
    clear R8 S8 rd8 o8 n8 d0 d1 d2 g0 g1 g2
    have LR8 : Row w8 (w2.heap.size + 1) v L := D7.out.lr.only O8.out (fun k hk e => by
      have := (D7.out.lr.lt k hk).1
      rcases e with e | e
      · omega
      · have e2 : g = k := by simpa [Value.ownBlock] using e
        omega)
    go_wp2_with fail
    refine (l2Bad_only _ r _ (w2.heap.size + 1) v L RD8.out (by omega) LR8 (by omega) (by omega) HM4.out).mono ?_
    rintro e w9 ⟨v9, L9, rfl, R9, l9, S9, rd9, o9, _⟩
    obtain ⟨_, _, Y9, O9, hfin⟩ := D7.out.done hb' hp' R8'.out l8 S8'.out RD8.out O8.out N8.out R9 l9 S9 o9 (M := 0)
    obtain ⟨a2, c2, hv9, hcp, hpl, hol⟩ := hfin (.int .i64 b') (.int .i64 p') (.slice a' P'.length c')
    have HCP := Lib.hid hcp
    have HPL := Lib.hid hpl
    have HOL := Lib.hid hol
    subst hv9
    obtain ⟨⟨ee0, ee1, ee2⟩, ff0, ff1, ff2⟩ := Y9
    have lty := World.block_lt_of_cell? _ _ ee0
    clear hcp hpl hol R9 S9 rd9 o9 LR8 hfin O9
    go_wp2
    refine bodyPost_ret (v := .tuple #[.agg #[.int .i64 b', .int .i64 p', .slice a' P'.length c'], .slice a2 L9.length c2, .int .i64 x7]) (by simp [results, Try.results10, go_sem, ee0, ee1, ee2]) rfl ?_
    exact ⟨b', p', a', P'.length, c', sC P', a2, L9.length, c2, nI L9, nC L9, x7, rfl, HPL.out, by omega, HOL.out.below (B := w.heap.size) (fun k hk hk2 => by omega) (Nat.le_refl _), HCP.out⟩
end Go.Proofs.Ytekfjheaffkakaa
