/-
  Drawn rules: prefixes, rules, rules that are sometimes none.
-/
import Derived.Test.YtkbebpadbdhnhaaDrawH
import Derived.Test.YtkbebpadbdhnhaaRRow
import Derived.Test.YtkbebpadbdhnhaaRulV
import Derived.Deep.CutRange
import Derived.Deep.DeepCutAuto
import Derived.Deep.RegionWith
import Derived.Deep.RegionHeld3
namespace Go.Proofs.Ytkbebpadbdhnhaa
open Go.RowKit
open Go.PlainAid (bt get_bt bt_nonneg bt_le)
set_option linter.unusedVariables false

def rLen : Value → Nat
  | .slice _ n _ => n
  | _ => 0
def SmallR (z : Nat) (L : List (ByteArray × ByteArray)) : Prop := ∀ p ∈ L, p.1.size ≤ z ∧ p.2.size ≤ z
theorem SmallR.mono {z z' : Nat} {L : List (ByteArray × ByteArray)} (h : SmallR z L) (hz : z ≤ z') : SmallR z' L := fun p hp => ⟨Nat.le_trans (h p hp).1 hz, Nat.le_trans (h p hp).2 hz⟩
theorem SmallR.more {z : Nat} {L : List (ByteArray × ByteArray)} (h : SmallR z L) {x y : ByteArray} (hx : x.size ≤ z) (hy : y.size ≤ z) : SmallR z (L ++ [(x, y)]) := fun p hp => by
  rcases List.mem_append.1 hp with hp | hp
  · exact h p hp
  · have := List.mem_singleton.1 hp
    subst this
    exact ⟨hx, hy⟩
theorem SmallR.set {z : Nat} {L : List (ByteArray × ByteArray)} (h : SmallR z L) (k : Nat) {x y : ByteArray} (hx : x.size ≤ z) (hy : y.size ≤ z) : SmallR z (L.set k (x, y)) := fun p hp => by
  rcases List.mem_or_eq_of_mem_set hp with hp | hp
  · exact h p hp
  · subst hp; exact ⟨hx, hy⟩
theorem RRow.rsg {w w' : World} {base r N : Nat} {v : Value} {L : List (ByteArray × ByteArray)} (h : RRow w base v L) (hs : Sg w w' r N) (hr : r < base) : RRow w' base v L :=
  h.kept hs.2 (fun b hb e => by have := (h.lt b hb).1; injection e with e; omega)
/-- The reader stays where a block of one's own is written. -/
theorem Rd.rowned {w w' : World} {r N : Nat} {row : Option Nat} (h : Rd w r N) (hrow : ∀ b, row = some b → r < b) (hg : w.grownBy w' row) : Rd w' r N := by
  have hlt := h.lt
  have hne : ∀ b, b ≤ r → some b ≠ row := fun b hb e => by have := hrow b e.symm; omega
  obtain ⟨p, a, l, k, hp, hN, h0, h1, hf, hlk, hk, hl, hB⟩ := h
  refine ⟨p, a, l, k, hp, hN, hg.cell h0 (hne r (Nat.le_refl _)), hg.cell h1 (hne r (Nat.le_refl _)), (World.frozen?_of_block (a := ⟨r, 1, none⟩) (hg.block r hlt (hne r (Nat.le_refl _)))).trans hf, hlk, hk, hl, ?_⟩
  rcases hB with hB | ⟨b, off, rfl, hbr, hB⟩
  · exact Or.inl hB
  · refine Or.inr ⟨b, off, rfl, hbr, fun i hi => ?_⟩
    obtain ⟨x, hx, x0, x1⟩ := hB i hi
    exact ⟨x, hg.cell hx (hne b (by omega)), x0, x1⟩
theorem Sg.owned {W w w' : World} {r N : Nat} {row : Option Nat} (h : Sg W w r N) (hrow : ∀ b, row = some b → r < b ∧ W.heap.size ≤ b) (hg : w.grownBy w' row) : Sg W w' r N :=
  ⟨h.1.rowned (fun b e => (hrow b e).1) hg, h.2.andThen hg fun j e => Or.inl (hrow j e).2⟩
theorem Sg.rgrown {W w w' : World} {base r N : Nat} {v : Value} {L : List (ByteArray × ByteArray)} (h : Sg W w r N) (hr : RRow w base v L) (hb : W.heap.size ≤ base) (hrb : r < base) (hg : w.grownBy w' v.ownBlock) : Sg W w' r N :=
  h.owned (fun b e => by have := (hr.lt b e).1; omega) hg

theorem Sg.put {W w : World} {r N : Nat} (h : Sg W w r N) (p : Addr) (u : Value) (hr : r < p.block) (hW : W.heap.size ≤ p.block) : Sg W (w.setCell p u) r N :=
  h.owned (row := some p.block) (fun b e => by injection e with e; subst e; exact ⟨hr, hW⟩) (grown_set w p u)
theorem sg_cells {W w : World} {r N : Nat} (h : Sg W w r N) : ∀ k o, k < W.heap.size → k ≠ r → w.cell? ⟨k, o, none⟩ = W.cell? ⟨k, o, none⟩ := fun k o hk hr => World.cell?_of_block (h.2.block k hk (fun e => hr (by injection e)))
theorem sg_frozen {W w : World} {r N : Nat} (h : Sg W w r N) : ∀ k o, k < W.heap.size → k ≠ r → w.frozen? ⟨k, o, none⟩ = W.frozen? ⟨k, o, none⟩ := fun k o hk hr => World.frozen?_of_block (h.2.block k hk (fun e => hr (by injection e)))
theorem drew_size (w : World) : w.drew.heap.size = w.heap.size := rfl
theorem drew_cell (w : World) (a : Addr) : w.drew.cell? a = w.cell? a := rfl
theorem cell_two (w : World) (o o' : Obj) (i : Nat) : ((w.alloc o).alloc o').cell? ⟨w.heap.size, i, none⟩ = (w.alloc o).cell? ⟨w.heap.size, i, none⟩ := (below_alloc0 (w.alloc o) o').cell (p := ⟨w.heap.size, i, none⟩) (by simp)
theorem cell_old (w : World) (o : Obj) (b i : Nat) (h : b < w.heap.size) : (w.alloc o).cell? ⟨b, i, none⟩ = w.cell? ⟨b, i, none⟩ := (below_alloc0 w o).cell (p := ⟨b, i, none⟩) h
/-- The new rule x, in a block of its own. -/
structure DY (wr wx : World) (r N X : Nat) (s t : ByteArray) : Prop where
  sg : Sg wr wx r N
  c0 : wx.cell? ⟨X, 0, none⟩ = some (.string s)
  c1 : wx.cell? ⟨X, 1, none⟩ = some (.string t)
  hX : wr.heap.size ≤ X
theorem DY.new {wr w : World} {r N : Nat} (sg : Sg wr w r N) (s t : ByteArray) (T : TypeId) : DY wr (w.alloc (.cells #[.string s, .string t] T)) r N w.heap.size s t :=
  ⟨sg.alloc _, by simp [go_sem], by simp [go_sem], sg.2.size⟩
theorem DY.set {wr w : World} {r N X : Nat} (sg : Sg wr w r N) (hr : r < X) (hX : wr.heap.size ≤ X) {u v : Value} (c0 : w.cell? ⟨X, 0, none⟩ = some u) (c1 : w.cell? ⟨X, 1, none⟩ = some v) (s t : ByteArray) : DY wr ((w.setCell ⟨X, 0, none⟩ (.string s)).setCell ⟨X, 1, none⟩ (.string t)) r N X s t :=
  ⟨(sg.put ⟨X, 0, none⟩ _ hr hX).put ⟨X, 1, none⟩ _ hr hX, by simp [go_sem, c0], by simp [go_sem, c1], hX⟩
set_option maxHeartbeats 400000 in
theorem of_sgc (W : World) (S : List ByteArray) (b c : Nat) (w : World) (r N : Nat) (h : Sg W w r N) (hN : N < 100000) (z1 : 1 ≤ S.length) (z2 : S.length ≤ 1000) (hb : b ≠ r) (hc : ∀ i, i < S.length → w.cell? ⟨b, i, none⟩ = some (.string (S.getD i ByteArray.empty))) :
    Calls Try.prog 15 #[.pointer (some ⟨r, 0, none⟩), .slice (some ⟨b, 0, none⟩) S.length c] w (OfSg W S r N) := by
  have HC := Lib.hid hc
  clear hc
  go_enter Try.func15, Try.ntmps15
  go_wp2_with fail
  refine (pick_any _ _ r N h.1 hN (by omega) (by omega)).mono ?_
  rintro e w1 ⟨v, rfl, v0, v1, hr, hg⟩
  have hst := h.picked hr hg
  obtain ⟨j, rfl⟩ := Int.eq_ofNat_of_zero_le v0
  have hj : j < S.length := by omega
  have hcell := hg.cell (HC.out j hj) (by intro e; injection e with e; exact hb e)
  go_wp2
  go_ret
  exact ⟨_, rfl, List.getElem_mem hj, hst⟩

set_option maxHeartbeats 1000000 in
theorem l6Head_sg (W w : World) (r N : Nat) (h : Sg W w r N) (hN : N ≤ 90000) :
    Calls Try.prog 26 #[.pointer (some ⟨r, 0, none⟩)] w (StrSg W 7 7 r (N + 3)) := by
  have hr := h.1.lt
  go_enter Try.func26, Try.ntmps26
  go_wp2_with fail
  refine (of_sg W [⟨#[49]⟩, ⟨#[48]⟩, ⟨#[50]⟩] w.heap.size _ r _ (h.alloc _) (by omega) (by decide) (by decide) (by omega) (cells_str [⟨#[49]⟩, ⟨#[48]⟩, ⟨#[50]⟩] _ w)).mono ?_
  rintro e w1 ⟨s, rfl, hm, sg1⟩
  have hs := (show ∀ x ∈ [(⟨#[49]⟩ : ByteArray), ⟨#[48]⟩, ⟨#[50]⟩], x.size = 1 from by decide) s hm
  clear h hm
  have HS := Lib.hid hs
  have hs1 : s.size ≤ 1 := Nat.le_of_eq hs
  clear hs
  go_wp2_with fail
  refine (pick_sg W _ _ r _ sg1 (by omega) (by omega) (by omega)).mono ?_
  rintro e w2 ⟨v, rfl, v0, v1, sg2⟩
  clear sg1
  go_wp2_with fail
  refine (l9Dec_digit _ _ v0 (by omega)).mono ?_
  rintro e w3 ⟨t, rfl, t0, t1, hb3⟩
  have sg3 := sg2.below hb3
  clear sg2 hb3
  go_wp2_with fail
  refine (pick_sg W _ _ r _ sg3 (by omega) (by omega) (by omega)).mono ?_
  rintro e w4 ⟨u, rfl, u0, u1, sg4⟩
  clear sg3
  go_wp2_with fail
  refine (l9Dec_digit _ _ u0 (by omega)).mono ?_
  rintro e w5 ⟨y, rfl, y0, y1, hb5⟩
  have sg5 := sg4.below hb5
  clear sg4 hb5
  have hz : ((((⟨#[49, 50, 48, 48]⟩ : ByteArray) ++ s) ++ t) ++ y).size = 7 := by
    have := HS.out
    simp only [ByteArray.size_append]
    rw [this, show (⟨#[49, 50, 48, 48]⟩ : ByteArray).size = 4 from rfl]; omega
  have HZ := Lib.hid hz
  clear hz
  go_wp2
  go_ret
  exact ⟨_, rfl, Nat.le_of_eq HZ.out.symm, Nat.le_of_eq HZ.out, sg5⟩

def RRowSg (W : World) (base m r N : Nat) (e : Ending) (w' : World) : Prop := ∃ (v : Value) (L : List (ByteArray × ByteArray)), e = .returned v ∧ RRow w' base v L ∧ L.length ≤ m ∧ SmallR 8 L ∧ Sg W w' r N
/-- A slice of the call's own, of short strings that nobody writes. -/
def NmIs (w : World) (v : Value) (r B : Nat) : Prop := ∃ (b c : Nat) (S : List ByteArray), v = .slice (some ⟨b, 0, none⟩) S.length c ∧ 1 ≤ S.length ∧ S.length ≤ 100 ∧ b ≠ r ∧ b < B ∧ (∀ x ∈ S, x.size ≤ 8) ∧ ∀ i, i < S.length → w.cell? ⟨b, i, none⟩ = some (.string (S.getD i ByteArray.empty))
theorem NmIs.on {w w' : World} {v : Value} {r B : Nat} {row : Option Nat} (h : NmIs w v r B) (hg : w.grownBy w' row) (hn : ∀ b, row = some b → B ≤ b) : NmIs w' v r B := by
  obtain ⟨b, c, S, e, h1, h2, h3, h4, h5, h6⟩ := h
  exact ⟨b, c, S, e, h1, h2, h3, h4, h5, fun i hi => hg.cell (h6 i hi) (by intro e2; have := hn b e2.symm; omega)⟩
theorem NmIs.sg {w w' : World} {v : Value} {r B N : Nat} (h : NmIs w v r B) (hs : Sg w w' r N) : NmIs w' v r B := by
  obtain ⟨b, c, S, e, h1, h2, h3, h4, h5, h6⟩ := h
  exact ⟨b, c, S, e, h1, h2, h3, h4, h5, fun i hi => hs.2.cell (h6 i hi) (by intro e2; injection e2 with e2; exact h3 e2)⟩
theorem of_nm (W w : World) (v : Value) (r N B : Nat) (h : Sg W w r N) (hN : N < 100000) (hn : NmIs w v r B) :
    Calls Try.prog 15 #[.pointer (some ⟨r, 0, none⟩), v] w (StrSg W 0 8 r (N + 1)) := by
  obtain ⟨b, c, S, rfl, h1, h2, h3, h4, h5, h6⟩ := hn
  exact (of_sgc W S b c w r N h hN h1 (by omega) h3 h6).mono fun e w' hp => by
    obtain ⟨x, he, hm, sg⟩ := hp
    exact ⟨x, he, Nat.zero_le _, h5 x hm, sg⟩

set_option maxHeartbeats 2000000 in
theorem l6Rules_any (w : World) (vn : Value) (r N : Nat) (h : Rd w r N) (hN : N ≤ 80000) (hn : NmIs w vn r w.heap.size) :
    Calls Try.prog 24 #[.pointer (some ⟨r, 0, none⟩), vn] w (RRowSg w w.heap.size 5 r (N + 50)) := by
  have hr := h.lt
  have he := rone_frow w
  have sg := ((Sg.start h).alloc (.cells #[] 44)).alloc (.cells #[.int .i64 3, .int .i64 4, .int .i64 2, .int .i64 5, .int .i64 1, .int .i64 0] 3)
  have hc := cells_int [3, 4, 2, 5, 1, 0] 3 (w.alloc (.cells #[] 44))
  simp only [World.size_alloc] at hc
  have HC := Lib.hid hc
  have HE := Lib.hid (he.alloc (.cells #[.int .i64 3, .int .i64 4, .int .i64 2, .int .i64 5, .int .i64 1, .int .i64 0] 3))
  have SG := Lib.hid sg
  have RD := Lib.hid sg.1
  have NM := Lib.hid hn
  clear sg h he hc hn
  go_enter Try.func24, Try.ntmps24
  go_wp2_with fail
  refine (num_sg _ [3, 4, 2, 5, 1, 0] (w.heap.size + 1) _ r _ (Sg.start RD.out) (by omega) (by decide) (by decide) (by omega) HC.out).mono ?_
  rintro e w1 ⟨v, rfl, hm, sg1⟩
  have hv := (show ∀ x ∈ [(3 : Int), 4, 2, 5, 1, 0], 0 ≤ x ∧ x ≤ 5 from by decide) v hm
  obtain ⟨n, rfl⟩ := Int.eq_ofNat_of_zero_le hv.1
  have hn5 : n ≤ 5 := by omega
  have R1 := Lib.hid (HE.out.rsg sg1 hr)
  have S1 := Lib.hid (SG.out.trans sg1)
  clear hm hv sg1 HE SG RD HC
  go_wp2
  go_loopw [5, 6] (fun u i wr => ∃ (k : Nat) (L : List (ByteArray × ByteArray)), i = .int .i64 k ∧ k ≤ 5 ∧ L.length + k ≤ 5 ∧ Hid (SmallR 8 L) ∧ Hid (RRow wr w.heap.size u L) ∧ Hid (Sg w wr r (N + 1 + 5 * (5 - k))) ∧ Hid (NmIs wr vn r w.heap.size)) (fun _ i _ => (intOf i).toNat)
  case atStart => exact ⟨n, [], rfl, by omega, by simpa using hn5, (fun _ h => by cases h), R1, S1.out.mono (by omega) (by omega), NM.out.sg S1.out⟩
  case round =>
    obtain ⟨k, L, rfl, hk5, hk, hsm, hrow, hsg, hnm⟩ := hrel
    have hrw := hsg.out.1.lt
    have hwb : w.heap.size ≤ wr.heap.size := hsg.out.2.size
    by_cases h0 : 0 < k
    · have hk0 : (0 : Int) < (k : Int) := by omega
      obtain ⟨a, c, rfl, hlc, _⟩ := hrow.out.form
      have rdL := hsg.out.1
      have sgL := Sg.start rdL
      have hwr : wr.heap.size ≠ r := by omega
      have hwr1 : wr.heap.size + 1 ≠ r := by omega
      go_wp2_with fail
      go_cut [7] from 16 to 25 (fun s7 wx => ∃ (X : Nat) (s t : ByteArray), s7 = .pointer (some ⟨X, 0, none⟩) ∧ s.size ≤ 8 ∧ t.size ≤ 8 ∧ Hid (DY wr wx r (N + 1 + 5 * (5 - k) + 5) X s t))
      case first =>
        go_region_held3 (fun _ => True) (exact trivial) (first
          | (go_at_call 26; refine (l6Head_sg _ _ r _ (Sg.start (Rd.below rdL (by go_grown))) (by omega)).mono ?_; rintro e w7 ⟨s7, rfl, s70, s71, st7⟩; have o7 := (sgL.below (by go_grown)).trans st7; have z7 := st7.2.size; have y7 := o7.2.size; have hc7 := sg_cells st7; have hf7 := sg_frozen st7; (try (have x7_00 : wr.heap.size < w7.heap.size := (by have hq := st7.2.size; first | omega | (simp at hq; omega)))); (try (have x7_01 : wr.heap.size + 1 < w7.heap.size := (by have hq := st7.2.size; first | omega | (simp at hq; omega))));  (have hq7 : w7.heap.size ≠ r := by have := st7.1.lt; omega); (have hq71 : w7.heap.size + 1 ≠ r := by have := st7.1.lt; omega); clear st7)
          | (go_at_call 14; refine (num_sg _ [0, 4, 5, 6, 7, 2] _ _ r _ (Sg.start (Rd.below o7.1 (by go_grown))) (by omega) (by decide) (by decide) (by omega) (fun i hi => by first | exact cells_int [0, 4, 5, 6, 7, 2] _ _ i hi | exact (hc7 _ i (by first | (change _ < (World.alloc _ _).heap.size; simp; done) | (simp; done)) (by first | exact hwr | exact hwr1)).trans (cells_int [0, 4, 5, 6, 7, 2] _ _ i hi) | (rcases i with _ | _ | _ | _ | _ | _ | i <;> first | (simp [*, go_sem, cell_two]; done) | (exfalso; simp at hi <;> omega)))).mono ?_; rintro e w8 ⟨v8, rfl, hm8, st8⟩; have v8b := (show ∀ x ∈ [(0 : Int), 4, 5, 6, 7, 2], 0 ≤ x ∧ x ≤ 7 from by decide) v8 hm8; obtain ⟨q8, rfl⟩ := Int.eq_ofNat_of_zero_le v8b.1; (have q80 : (0 : Int) ≤ (q8 : Int) := by omega); (have q81 : (q8 : Int) ≤ (s7.size : Int) := by omega); (have q82 : q8 ≤ s7.size := by omega); have o8 := (o7.below (by go_grown)).trans st8; have z8 := st8.2.size; have y8 := o8.2.size; have hc8 := sg_cells st8; have hf8 := sg_frozen st8; (have y87 : w7.heap.size ≤ w8.heap.size := (by have hq := st8.2.size; first | omega | (simp at hq; omega))); (try (have x8_00 : wr.heap.size < w8.heap.size := (by have hq := st8.2.size; first | omega | (simp at hq; omega)))); (try (have x8_01 : wr.heap.size + 1 < w8.heap.size := (by have hq := st8.2.size; first | omega | (simp at hq; omega)))); (try (have x8_10 : w7.heap.size < w8.heap.size := (by have hq := st8.2.size; first | omega | (simp at hq; omega)))); (try (have x8_11 : w7.heap.size + 1 < w8.heap.size := (by have hq := st8.2.size; first | omega | (simp at hq; omega))));  (have hq8 : w8.heap.size ≠ r := by have := st8.1.lt; omega); clear st8 hm8 v8b)
          | (go_at_call 15; refine (of_nm _ _ vn r _ _ (Sg.start (Rd.below o8.1 (by go_grown))) (by omega) (hnm.out.sg (o8.below (by go_grown)))).mono ?_; rintro e w9 ⟨t9, rfl, t90, t91, st9⟩; have o9 := (o8.below (by go_grown)).trans st9; have z9 := st9.2.size; have y9 := o9.2.size; have hc9 := sg_cells st9; have hf9 := sg_frozen st9; (have y97 : w7.heap.size ≤ w9.heap.size := (by have hq := st9.2.size; first | omega | (simp at hq; omega))); (have y98 : w8.heap.size ≤ w9.heap.size := (by have hq := st9.2.size; first | omega | (simp at hq; omega))); (try (have x9_00 : wr.heap.size < w9.heap.size := (by have hq := st9.2.size; first | omega | (simp at hq; omega)))); (try (have x9_01 : wr.heap.size + 1 < w9.heap.size := (by have hq := st9.2.size; first | omega | (simp at hq; omega)))); (try (have x9_10 : w7.heap.size < w9.heap.size := (by have hq := st9.2.size; first | omega | (simp at hq; omega)))); (try (have x9_11 : w7.heap.size + 1 < w9.heap.size := (by have hq := st9.2.size; first | omega | (simp at hq; omega)))); (try (have x9_20 : w8.heap.size < w9.heap.size := (by have hq := st9.2.size; first | omega | (simp at hq; omega)))); (try (have x9_21 : w8.heap.size + 1 < w9.heap.size := (by have hq := st9.2.size; first | omega | (simp at hq; omega)))); clear st9))
        all_goals
          go_wp2_with fail
          go_meet
          have hzs : (s7.extract 0 q8).size ≤ 8 := by rw [ByteArray.size_extract]; omega
          first
            | exact ⟨_, _, _, rfl, hzs, t91, DY.new (o9.mono (by omega) (by omega)) _ _ _⟩
            | exact ⟨_, _, _, rfl, hzs, t91, DY.set (u := .string ⟨#[]⟩) (v := .string ⟨#[]⟩) (o9.mono (by omega) (by omega)) (by omega) (by omega) (by simp [*, go_sem]) (by simp [*, go_sem]) _ _⟩
      case rest =>
        obtain ⟨X, s, t, rfl, hs8, ht8, hdx⟩ := hcut
        have hX := hdx.out.hX
        have p0 := hdx.out.c0
        have p1 := hdx.out.c1
        have lX := World.block_lt_of_cell? _ _ p0
        have R3 := Lib.hid (hrow.out.rsg hdx.out.sg hr)
        have S3 := Lib.hid (hsg.out.trans hdx.out.sg)
        have N3 := Lib.hid (hnm.out.sg hdx.out.sg)
        obtain ⟨a8, c8, e8, _, hms⟩ := R3.out.form
        injection e8 with e81 e82 e83
        subst e81
        have HX := Lib.hid (spec_l6Index wc a L.length c (nF L) (nT L) hms (by omega) s)
        have hrk := M.rank_bd (nF L) s L.length
        obtain ⟨q, hq⟩ : ∃ q, M.rankTo (nF L) s L.length = q := ⟨_, rfl⟩
        rw [hq] at hrk HX
        clear hdx hms e82 e83 hq rdL sgL hrow hsg hnm
        go_wp2_with fail
        refine HX.out.mono ?_
        rintro e w5 ⟨rfl, rfl⟩
        have hsz := S3.out.2.size
        by_cases hneg : q < 0
        · go_wp2_with (at_builtin; refine wpList_append_rule _ rfl _ _ rfl w.heap.size _ _ rfl (R3.out.alloc _) _ s t rfl ?_ (by omega) (by simp; omega) ?_)
          · simp [go_sem]
          · intro v' w5 hr5 hg5 ho5
            have S5 := Lib.hid ((S3.out.alloc _).rgrown (R3.out.alloc _) (Nat.le_refl _) hr hg5)
            have R5 := Lib.hid hr5
            have N5 := Lib.hid ((N3.out.sg ((Sg.start S3.out.1).alloc _)).on hg5 (fun b' e10 => ((R3.out.alloc (.cells #[.string s, .string t] 44)).lt b' e10).1))
            clear hr5 hg5 ho5
            go_wp2
            go_roundw
            case rel => exact ⟨k - 1, L ++ [(s, t)], by go_num, by omega, by simp; omega, hsm.out.more hs8 ht8, R5, S5.out.mono (by omega) (by omega), N5⟩
            case measure => simp [intOf]; omega
        · go_wp2_with fail
          go_roundw
          case rel => exact ⟨k - 1, L, by go_num, by omega, by omega, hsm, R3, S3.out.mono (by omega) (by omega), N3⟩
          case measure => simp [intOf]; omega
    · obtain rfl : k = 0 := by omega
      go_wp2
      go_ret
      exact ⟨_, _, rfl, hrow, by omega, hsm.out, hsg.out.mono (by omega) (by omega)⟩
end Go.Proofs.Ytkbebpadbdhnhaa
