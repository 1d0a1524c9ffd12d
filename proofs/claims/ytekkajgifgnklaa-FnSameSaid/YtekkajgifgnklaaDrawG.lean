/-
  Drawn codes once more: what they leave is all but the reader's own block. And drawn batches.
-/
import Derived.Test.YtekkajgifgnklaaDrawCode
import Derived.Test.YtekkajgifgnklaaMgA3
import Derived.Maps.RangeWalk
import Derived.Deep.RegionWith
import Derived.IntWalk
namespace Go.Proofs.Ytekkajgifgnklaa
open Go.RowKit

/-- The reader, and all blocks of W but its own as they were. -/
def Sg (W w : World) (r N : Nat) : Prop := Rd w r N ∧ W.grownBy w (some r)
theorem Sg.below {W w w' : World} {r N : Nat} (h : Sg W w r N) (hb : Below w.heap.size w w') : Sg W w' r N :=
  ⟨h.1.below hb, h.2.trans ((grown_of_below hb).but _)⟩
theorem Sg.alloc {W w : World} {r N : Nat} (h : Sg W w r N) (o : Obj) : Sg W (w.alloc o) r N := h.below ((Below.refl _ _).alloc (Nat.le_refl _) _)
theorem Sg.drew {W w : World} {r N : Nat} (h : Sg W w r N) : Sg W w.drew r N := h.below ((Below.refl _ _).drew)
theorem Sg.picked {W w w' : World} {r N : Nat} (h : Sg W w r N) (hr : Rd w' r (N + 1)) (hg : w.grownBy w' (some r)) : Sg W w' r (N + 1) := ⟨hr, h.2.trans hg⟩
theorem Sg.mono {W w : World} {r N M : Nat} (h : Sg W w r N) (hM : N ≤ M) (hM' : M ≤ 100000) : Sg W w r M := by
  obtain ⟨⟨p, a, l, k, hp, hN, rest⟩, h2⟩ := h
  exact ⟨⟨p, a, l, k, by omega, hM', rest⟩, h2⟩
theorem Sg.start {w : World} {r N : Nat} (h : Rd w r N) : Sg w w r N := ⟨h, World.grownBy.refl _ _⟩
theorem St.grow {W w w' : World} {r N M : Nat} (h : St W w r N) (hs : Sg w w' r M) : St W w' r M :=
  ⟨hs.1, h.2.1.grown hs.2 h.2.1.size (fun k hk => by injection hk with e; rw [← e]; exact h.2.2), h.2.2⟩
def StrSg (W : World) (lo hi r N : Nat) (e : Ending) (w' : World) : Prop := ∃ s : ByteArray, e = .returned (.string s) ∧ lo ≤ s.size ∧ s.size ≤ hi ∧ Sg W w' r N
def PickedSg (W : World) (n : Int) (r N : Nat) (e : Ending) (w' : World) : Prop := ∃ v : Int, e = .returned (.int .i64 v) ∧ 0 ≤ v ∧ v < n ∧ Sg W w' r (N + 1)
theorem pick_sg (W : World) (n : Int) (w : World) (r N : Nat) (h : Sg W w r N) (hN : N < 100000) (n1 : 1 ≤ n) (n2 : n ≤ 1000000) :
    Calls Try.prog 35 #[.pointer (some ⟨r, 0, none⟩), .int .i64 n] w (PickedSg W n r N) :=
  (pick_any n w r N h.1 hN n1 n2).mono fun e w' hp => by
    obtain ⟨v, he, v0, v1, hr, hg⟩ := hp
    exact ⟨v, he, v0, v1, h.picked hr hg⟩
def NumSg (W : World) (zs : List Int) (r N : Nat) (e : Ending) (w' : World) : Prop := ∃ v : Int, e = .returned (.int .i64 v) ∧ v ∈ zs ∧ Sg W w' r (N + 1)
set_option maxHeartbeats 400000 in
theorem num_sg (W : World) (zs : List Int) (b : Nat) (w : World) (r N : Nat) (h : Sg W w r N) (hN : N < 100000) (z1 : 1 ≤ zs.length) (z2 : zs.length ≤ 1000) (hb : b ≠ r) (hc : ∀ i, i < zs.length → w.cell? ⟨b, i, none⟩ = some (.int .i64 (zs.getD i 0))) :
    Calls Try.prog 42 #[.pointer (some ⟨r, 0, none⟩), .slice (some ⟨b, 0, none⟩) zs.length zs.length] w (NumSg W zs r N) := by
  have HC := Lib.hid hc
  clear hc
  go_enter Try.func42, Try.ntmps42
  go_wp2_with fail
  refine (pick_any _ _ r N h.1 hN (by omega) (by omega)).mono ?_
  rintro e w1 ⟨v, rfl, v0, v1, hr, hg⟩
  have hst := h.picked hr hg
  obtain ⟨j, rfl⟩ := Int.eq_ofNat_of_zero_le v0
  have hj : j < zs.length := by omega
  have hcell := hg.cell (HC.out j hj) (by intro e; injection e with e; exact hb e)
  go_wp2
  go_ret
  exact ⟨_, rfl, List.getElem_mem hj, hst⟩

set_option maxHeartbeats 2000000 in
theorem l1Some_sg (W w : World) (r N : Nat) (h : Sg W w r N) (hN : N ≤ 90000) :
    Calls Try.prog 59 #[.pointer (some ⟨r, 0, none⟩)] w (StrSg W 7 7 r (N + 10)) := by
  go_enter Try.func59, Try.ntmps59
  go_wp2_with fail
  have hr := h.1.lt
  refine (num_sg W [120, 121, 7, 999] w.heap.size _ r _ (h.alloc _) (by omega) (by decide) (by decide) (by omega) (cells_int [120, 121, 7, 999] _ w)).mono ?_
  rintro e w1 ⟨v1, rfl, hm1, st1⟩
  have hv1 := (show ∀ x ∈ [(120 : Int), 121, 7, 999], 0 ≤ x ∧ x ≤ 999 from by decide) v1 hm1
  clear hm1 h
  go_wp2_with fail
  have hr1 := st1.1.lt
  refine (num_sg W [1, 2, 10, 99] w1.heap.size _ r _ (st1.alloc _) (by omega) (by decide) (by decide) (by omega) (cells_int [1, 2, 10, 99] _ w1)).mono ?_
  rintro e w2 ⟨v2, rfl, hm2, st2⟩
  have hv2 := (show ∀ x ∈ [(1 : Int), 2, 10, 99], 0 ≤ x ∧ x ≤ 999 from by decide) v2 hm2
  clear hm2 st1
  obtain ⟨a1, a2⟩ := hv1
  obtain ⟨b1, b2⟩ := hv2
  go_wp2_with fail
  refine (l1Show_any _ 3 _ a1 (by omega) (by omega)).mono ?_
  rintro e w3 ⟨s3, rfl, s30, s31, hb3⟩
  have st3 := st2.below hb3
  clear st2 hb3
  go_wp2_with fail
  refine (l1Show_any _ 2 _ b1 (by omega) (by omega)).mono ?_
  rintro e w4 ⟨s4, rfl, s40, s41, hb4⟩
  have st4 := st3.below hb4
  clear st3 hb4
  go_wp2_with fail
  refine (pick_sg W _ _ r _ st4 (by omega) (by omega) (by omega)).mono ?_
  rintro e w5 ⟨v5, rfl, c1, c2, st5⟩
  clear st4
  go_wp2_with fail
  refine (l1Show_any _ 2 _ c1 (by omega) (by omega)).mono ?_
  rintro e w6 ⟨s6, rfl, s60, s61, hb6⟩
  have st6 := st5.below hb6
  clear st5 hb6
  go_wp2_with fail
  refine (pick_sg W _ _ r _ st6 (by omega) (by omega) (by omega)).mono ?_
  rintro e w7 ⟨v7, rfl, d1, d2, st7⟩
  clear st6
  cases hv : (v7 == 0)
  · go_wp2
    go_ret
    exact ⟨_, rfl, by simp only [ByteArray.size_append]; omega, by simp only [ByteArray.size_append]; omega, st7.mono (by omega) (by omega)⟩
  · go_wp2_with fail
    refine (pick_sg W _ _ r _ st7 (by omega) (by omega) (by omega)).mono ?_
    rintro e w8 ⟨x1, rfl, x10, x11, st8⟩
    clear st7
    go_wp2_with fail
    refine (pick_sg W _ _ r _ st8 (by omega) (by omega) (by omega)).mono ?_
    rintro e w9 ⟨x2, rfl, x20, x21, st9⟩
    clear st8
    have p0 : 0 ≤ x1 * x2 := Int.mul_nonneg x10 x20
    have p1 : x1 * x2 ≤ 255 * 255 := Int.mul_le_mul (by omega) (by omega) x20 (by omega)
    go_wp2_with fail
    refine (pick_sg W _ _ r _ st9 (by omega) (by omega) (by omega)).mono ?_
    rintro e w10 ⟨x3, rfl, x30, x31, st10⟩
    clear st9
    generalize x1 * x2 = P at p0 p1 ⊢
    have p2 : 0 ≤ P * x3 := Int.mul_nonneg p0 x30
    have p3 : P * x3 ≤ 255 * 255 * 149 := Int.mul_le_mul p1 (by omega) x30 (by omega)
    go_wp2_with fail
    refine (pick_sg W _ _ r _ st10 (by omega) (by omega) (by omega)).mono ?_
    rintro e w11 ⟨x4, rfl, x40, x41, st11⟩
    clear st10
    generalize P * x3 = Q at p2 p3 ⊢
    go_wp2_with fail
    refine (l1Show_any _ 7 _ (by omega) (by omega) (by omega)).mono ?_
    rintro e w12 ⟨s12, rfl, z0, z1, hb12⟩
    have st12 := st11.below hb12
    clear st11 hb12
    go_wp2
    go_ret
    exact ⟨_, rfl, z0, z1, st12.mono (by omega) (by omega)⟩

set_option maxHeartbeats 1000000 in
theorem l1Bad_sg (W w : World) (r N : Nat) (c : ByteArray) (h : Sg W w r N) (hN : N ≤ 90000) (c0 : 1 ≤ c.size) (c1 : c.size ≤ 20) :
    Calls Try.prog 41 #[.pointer (some ⟨r, 0, none⟩), .string c] w (StrSg W 0 21 r (N + 10)) := by
  go_enter Try.func41, Try.ntmps41
  go_wp2_with fail
  refine (pick_sg W _ _ r _ h (by omega) (by omega) (by omega)).mono ?_
  rintro e w1 ⟨v, rfl, v0, v1, st1⟩
  clear h
  have d1 : c.size - 1 ≤ c.size := by omega
  cases h0 : (v == 0)
  · cases h1 : (v == 1)
    · cases h2 : (v == 2)
      · go_wp2
        go_ret
        exact ⟨_, rfl, by omega, by omega, st1.mono (by omega) (by omega)⟩
      · go_wp2
        go_ret
        exact ⟨_, rfl, by omega, by decide, st1.mono (by omega) (by omega)⟩
    · go_wp2
      go_ret
      refine ⟨_, rfl, by omega, ?_, st1.mono (by omega) (by omega)⟩
      rw [ByteArray.size_append, ByteArray.size_extract, show (⟨#[120]⟩ : ByteArray).size = 1 from rfl]
      omega
  · go_wp2
    go_ret
    refine ⟨_, rfl, by omega, ?_, st1.mono (by omega) (by omega)⟩
    rw [ByteArray.size_append, show (⟨#[48]⟩ : ByteArray).size = 1 from rfl]
    omega
/-- Letters in a slice of their own. -/
def Small (z : Nat) (L : List (Int × ByteArray)) : Prop := ∀ x ∈ L, (-1 ≤ x.1 ∧ x.1 ≤ 100000) ∧ x.2.size ≤ z
def RowSg (W : World) (base m r N : Nat) (e : Ending) (w' : World) : Prop := ∃ (v : Value) (L : List (Int × ByteArray)), e = .returned v ∧ Row w' base v L ∧ L.length ≤ m ∧ Small 7 L ∧ Sg W w' r N
theorem one_empty (w : World) : Row (w.alloc (.cells #[] 34)) w.heap.size (.slice (some ⟨w.heap.size, 0, none⟩) 0 0) [] :=
  World.ownsRow_lit (base := w.heap.size) (e := 34) (size := 2) w #[] 0 (Nat.le_refl _) (by unfold maxLen; omega) rfl
theorem Row.sg {w w' : World} {base r N : Nat} {v : Value} {L : List (Int × ByteArray)} (h : Row w base v L) (hs : Sg w w' r N) (hr : r < base) : Row w' base v L :=
  h.kept hs.2 (fun b hb e => by have := (h.lt b hb).1; injection e with e; omega)
theorem Rd.grown {w w' : World} {base r N : Nat} {v : Value} {L : List (Int × ByteArray)} (h : Rd w r N) (hr : Row w base v L) (hrb : r < base) (hg : w.grownBy w' v.ownBlock) : Rd w' r N := by
  have hlt := h.lt
  have hne : ∀ b, b ≤ r → some b ≠ v.ownBlock := fun b hb e => by have := (hr.lt b e.symm).1; omega
  obtain ⟨p, a, l, k, hp, hN, h0, h1, hf, hlk, hk, hl, hB⟩ := h
  refine ⟨p, a, l, k, hp, hN, hg.cell h0 (hne r (Nat.le_refl _)), hg.cell h1 (hne r (Nat.le_refl _)), (World.frozen?_of_block (a := ⟨r, 1, none⟩) (hg.block r hlt (hne r (Nat.le_refl _)))).trans hf, hlk, hk, hl, ?_⟩
  rcases hB with hB | ⟨b, off, rfl, hbr, hB⟩
  · exact Or.inl hB
  · refine Or.inr ⟨b, off, rfl, hbr, fun i hi => ?_⟩
    obtain ⟨x, hx, x0, x1⟩ := hB i hi
    exact ⟨x, hg.cell hx (hne b (by omega)), x0, x1⟩
theorem Sg.grown {W w w' : World} {base r N : Nat} {v : Value} {L : List (Int × ByteArray)} (h : Sg W w r N) (hr : Row w base v L) (hb : W.heap.size ≤ base) (hrb : r < base) (hg : w.grownBy w' v.ownBlock) : Sg W w' r N :=
  ⟨h.1.grown hr hrb hg, h.2.andThen hg fun j e => Or.inl (Nat.le_trans hb (hr.lt j e).1)⟩
theorem Sg.trans {W w w' : World} {r N M : Nat} (h : Sg W w r N) (k : Sg w w' r M) : Sg W w' r M := ⟨k.1, h.2.trans k.2⟩
set_option maxHeartbeats 2000000 in
theorem l2Some_any (w : World) (r N : Nat) (x : Int) (h : Rd w r N) (hN : N ≤ 80000) (x0 : 1 ≤ x) (x1 : x ≤ 10) :
    Calls Try.prog 43 #[.pointer (some ⟨r, 0, none⟩), .int .i64 x] w (RowSg w w.heap.size 14 r (N + 200)) := by
  have hr := h.lt
  have he := one_empty w
  have sg := ((Sg.start h).alloc (.cells #[] 34)).alloc (.cells #[.int .i64 6, .int .i64 4, .int .i64 9, .int .i64 2, .int .i64 14, .int .i64 0, .int .i64 1] 3)
  have hc := cells_int [6, 4, 9, 2, 14, 0, 1] 3 (w.alloc (.cells #[] 34))
  simp only [World.size_alloc] at hc
  have HC := Lib.hid hc
  have HE := Lib.hid (he.alloc (.cells #[.int .i64 6, .int .i64 4, .int .i64 9, .int .i64 2, .int .i64 14, .int .i64 0, .int .i64 1] 3))
  have SG := Lib.hid sg
  have RD := Lib.hid sg.1
  clear sg h he hc
  go_enter Try.func43, Try.ntmps43
  go_wp2_with fail
  refine (num_sg _ [6, 4, 9, 2, 14, 0, 1] (w.heap.size + 1) _ r _ (Sg.start RD.out) (by omega) (by decide) (by decide) (by omega) HC.out).mono ?_
  rintro e w1 ⟨v, rfl, hm, sg1⟩
  have hv := (show ∀ x ∈ [(6 : Int), 4, 9, 2, 14, 0, 1], 0 ≤ x ∧ x ≤ 14 from by decide) v hm
  obtain ⟨n, rfl⟩ := Int.eq_ofNat_of_zero_le hv.1
  have hn : n ≤ 14 := by omega
  have R1 := Lib.hid (HE.out.sg sg1 hr)
  have S1 := Lib.hid (SG.out.trans sg1)
  clear hm hv sg1 HE SG RD HC
  go_wp2
  go_loopw [5, 6] (fun u i wr => ∃ (k : Nat) (L : List (Int × ByteArray)), i = .int .i64 k ∧ L.length + k ≤ 14 ∧ Hid (Small 7 L) ∧ Hid (Row wr w.heap.size u L) ∧ Hid (Sg w wr r (N + 1 + 10 * L.length))) (fun _ i _ => (intOf i).toNat)
  case atStart => exact ⟨n, [], rfl, by simpa using hn, (fun _ h => by cases h), R1, S1⟩
  case round =>
    obtain ⟨k, L, rfl, hk, hsm, hrow, hsg⟩ := hrel
    by_cases h0 : 0 < k
    · have sj : IntKind.i64.wrap ((L.length : Int) * 7) = (L.length : Int) * 7 := IntWalk.i64_in _ (by omega)
      have sk : IntKind.i64.wrap (x + (L.length : Int) * 7) = x + (L.length : Int) * 7 := IntWalk.i64_in _ (by omega)
      have hk0 : (0 : Int) < (k : Int) := by omega
      obtain ⟨a, c, rfl, hlc, _⟩ := hrow.out.form
      go_wp2_with (first
        | (go_at_call 59; refine (l1Some_sg _ _ r _ (Sg.start hsg.out.1) (by omega)).mono ?_; rintro e w3 ⟨s, rfl, s0, s1, sg3⟩; have R3 := Lib.hid (hrow.out.sg sg3 hr); have S3 := Lib.hid (hsg.out.trans sg3); clear sg3)
        | (at_builtin; refine wpList_append_letter _ rfl _ _ rfl w.heap.size _ _ rfl (R3.out.alloc _) _ (x + (L.length : Int) * 7) s rfl ?_ (by omega) (by have := S3.out.2.size; simp; omega) ?_))
      · simp [go_sem]
      · intro v' w4 hr4 hg4 ho4
        have S4 := Lib.hid ((S3.out.alloc _).grown (R3.out.alloc _) (Nat.le_refl _) hr hg4)
        have R4 := Lib.hid hr4
        clear hr4 hg4 ho4 R3 S3
        go_wp2
        go_roundw
        case rel => exact ⟨k - 1, L ++ [(x + (L.length : Int) * 7, s)], by go_num, by simp; omega, (fun y hy => by
          rcases List.mem_append.1 hy with h | h
          · exact hsm.out y h
          · rw [List.mem_singleton.1 h]; exact ⟨⟨by simp; omega, by simp; omega⟩, by simp; omega⟩), R4, S4.out.mono (by simp; omega) (by simp; omega)⟩
        case measure => simp [intOf]; omega
    · obtain rfl : k = 0 := by omega
      go_wp2
      go_ret
      exact ⟨_, _, rfl, hrow, by omega, hsm.out, hsg.out.mono (by omega) (by omega)⟩
end Go.Proofs.Ytekkajgifgnklaa
