/-
  Plans that are sometimes none.
-/
import Derived.Test.YthnaglnmmgpiaaaDrawP
namespace Go.Proofs.Ythnaglnmmgpiaaa
open Go.RowKit

theorem SmallS.mono {z z' : Nat} {L : List ByteArray} (h : SmallS z L) (hz : z ≤ z') : SmallS z' L := fun x hx => Nat.le_trans (h x hx) hz
theorem SRow.cut0 {w : World} {base g c : Nat} {L : List ByteArray} (h : SRow w base (.slice (some ⟨g, 0, none⟩) L.length c) L) : SRow w base (.slice (some ⟨g, 0, none⟩) ([] : List ByteArray).length c) [] := by
  rcases h.2 with ⟨e, _⟩ | ⟨g', cap, cur, e, h1, h2, h3, h4, h5, _⟩
  · cases e
  · cases e
    exact ⟨rfl, Or.inr ⟨g, c, cur, rfl, h1, h2, Nat.zero_le _, h4, h5, by simp [scells]⟩⟩
/-- The end of l3Bad: the plan is laid into the result's block. -/
theorem planBad_end {w wz : World} {r N base y : Nat} {b p : Int} {a : Option Addr} {c : Nat} {L : List ByteArray} {row : Option Nat} (hy : w.heap.size ≤ y) (hr : r < w.heap.size) (R : SRow wz base (.slice a L.length c) L) (RD : Rd wz r (N + 20)) (O : Only w wz (fun k => k = r ∨ row = some k))
    (hgy : ∀ k, (Value.slice a L.length c).ownBlock = some k → k ≠ y) (hb : -9223372036854775808 ≤ b ∧ b ≤ 9223372036854775807) (hp : 0 ≤ p ∧ p ≤ 5) (hl : L.length ≤ 13) (hs : SmallS 30 L) (ho : (Value.slice a L.length c).ownBlock = row ∨ ∃ g, (Value.slice a L.length c).ownBlock = some g ∧ w.heap.size ≤ g) (x0 x1 x2 : Value) :
    PlanBad w base r N row (.returned (.agg #[.int .i64 b, .int .i64 p, .slice a L.length c])) (((wz.setCell ⟨y, 0, none⟩ x0).setCell ⟨y, 1, none⟩ x1).setCell ⟨y, 2, none⟩ x2) := by
  have h3 : Only wz (((wz.setCell ⟨y, 0, none⟩ x0).setCell ⟨y, 1, none⟩ x1).setCell ⟨y, 2, none⟩ x2) (fun k => k = y) :=
    ((Only.set wz ⟨y, 0, none⟩ x0 (S := fun k => k = y) rfl).trans (Only.set _ ⟨y, 1, none⟩ x1 (S := fun k => k = y) rfl) (fun _ _ h => h)).trans (Only.set _ ⟨y, 2, none⟩ x2 (S := fun k => k = y) rfl) (fun _ _ h => h)
  refine ⟨b, p, a, c, L, rfl, hb, hp, R.only h3 hgy, hl, hs, RD.only h3 (fun k hk => by omega), O.trans h3 (fun x hx e => by omega), ho⟩

set_option maxHeartbeats 4000000 in
theorem l3Bad_any (w : World) (r N base : Nat) (b p : Int) (a : Option Addr) (c : Nat) (L : List ByteArray) (h : Rd w r N) (hN : N ≤ 80000) (hrow : SRow w base (.slice a L.length c) L) (hrb : r < base) (hl1 : 1 ≤ L.length) (hl : L.length ≤ 12) (hs : SmallS 7 L) (hb0 : -9223372036854775808 ≤ b ∧ b ≤ 9223372036854775807) (hp0 : 1 ≤ p ∧ p ≤ 4) :
    Calls Try.prog 41 #[.pointer (some ⟨r, 0, none⟩), .agg #[.int .i64 b, .int .i64 p, .slice a L.length c]] w (PlanBad w base r N (Value.slice a L.length c).ownBlock) := by
  have hr := h.lt
  have HSW := Lib.hid (hs.mono (z' := 30) (by omega))
  have HS := Lib.hid hs
  rcases hrow.cases with ⟨e1, e2⟩ | ⟨g, c', e1, hbg, hgl, hlc⟩
  · rw [e2] at hl1; simp at hl1
  cases e1
  obtain ⟨W0, hW0⟩ : ∃ W0, (w.alloc (.cells #[.int .i64 b, .int .i64 p, .slice (some ⟨g, 0, none⟩) L.length c] 25)).alloc (.cells #[.int .i64 0, .int .i64 0, .slice none 0 0] 25) = W0 := ⟨_, rfl⟩
  have k0 : Below w.heap.size w W0 := by rw [← hW0]; go_grown
  have zW : W0.heap.size = w.heap.size + 2 := by rw [← hW0]; simp
  have HR := Lib.hid (hrow.below k0)
  have SG := Lib.hid (Sg.start (h.below k0))
  have BX : Hid (Tri W0 w.heap.size (.int .i64 b) (.int .i64 p) (.slice (some ⟨g, 0, none⟩) L.length c)) := by rw [← hW0]; exact (tri_made w _ _ _ _).alloc _
  have BY : Hid (Tri W0 (w.heap.size + 1) (.int .i64 0) (.int .i64 0) (.slice none 0 0)) := by
    rw [← hW0]
    have := tri_made (w.alloc (.cells #[.int .i64 b, .int .i64 p, .slice (some ⟨g, 0, none⟩) L.length c] 25)) (.int .i64 0) (.int .i64 0) (.slice none 0 0) 25
    unfold Hid
    simpa using this
  have K0 := Lib.hid k0
  have HW0 := Lib.hid hW0
  clear hrow h hs k0 hW0
  go_enter Try.func41, Try.ntmps41
  go_wp2_with fail
  rw [HW0.out]
  refine (pick_sg _ _ _ r _ SG.out (by omega) (by omega) (by omega)).mono ?_
  rintro e w2 ⟨t, rfl, t0, t1, sg2⟩
  have R2 := Lib.hid (HR.out.sg sg2 hrb)
  have X2 := Lib.hid (BX.out.sg sg2 (by omega))
  have Y2 := Lib.hid (BY.out.sg sg2 (by omega))
  have RD2 := Lib.hid sg2.1
  have O2 : Hid (Only w w2 (fun k => k = r)) := (Only.new K0.out).trans sg2.only (fun x _ h => h)
  have z2 := sg2.2.size
  rw [zW] at z2
  clear sg2 SG HR BX BY
  have ltx := X2.out.lt
  have lty := Y2.out.lt
  obtain ⟨⟨d0, d1, d2⟩, g0, g1, g2⟩ := X2.out
  obtain ⟨⟨e0, e1, e2⟩, f0, f1, f2⟩ := Y2.out
  have O2' : Hid (Only w w2 (fun k => k = r ∨ (Value.slice (some ⟨g, 0, none⟩) L.length c).ownBlock = some k)) := O2.out.mono fun x _ h => Or.inl h
  have OB : Hid (∀ (n c k : Nat), (Value.slice (some ⟨g, 0, none⟩) n c).ownBlock = some k → k = g) := fun n c k hk => by simpa [Value.ownBlock] using hk.symm
  have h0 := R2.out.cellAt0 hl1
  obtain ⟨p0, p1⟩ := h0
  have q0 := HS.out _ (List.getElem_mem hl1)
  obtain ⟨y, hy⟩ : ∃ y, L[0] = y := ⟨_, rfl⟩
  rw [hy] at p0 q0
  have HY := Lib.hid hy
  clear hy
  have hg2 : g < w2.heap.size := by have := z2; omega
  cases c0 : (t == 0)
  · cases c1 : (t == 1)
    · cases c2 : (t == 2)
      · cases c3 : (t == 3)
        · cases c4 : (t == 4)
          · go_wp2
            refine bodyPost_ret (v := .agg #[.int .i64 b, .int .i64 p, .slice (some ⟨g, 0, none⟩) L.length c]) (by simp [results, Try.results41, go_sem, e0, e1, e2]) rfl ?_
            exact planBad_end (by omega) hr R2.out (RD2.out.mono (by omega) (by omega)) O2'.out (fun k hk => by have := OB.out _ _ k hk; omega) hb0 (by omega) (by omega) HSW.out (Or.inl rfl) _ _ _
          · have RC := Lib.hid ((R2.out.cut0).only (Only.set w2 ⟨w.heap.size, 2, none⟩ (.slice (some ⟨g, 0, none⟩) 0 c) (S := fun k => k = w.heap.size) rfl) (fun k hk => by have := OB.out _ _ k hk; omega))
            have OC : Hid (Only w (w2.setCell ⟨w.heap.size, 2, none⟩ (.slice (some ⟨g, 0, none⟩) 0 c)) (fun k => k = r ∨ (Value.slice (some ⟨g, 0, none⟩) L.length c).ownBlock = some k)) := O2'.out.trans (Only.set w2 ⟨w.heap.size, 2, none⟩ _ (S := fun k => k = w.heap.size) rfl) (fun x hx e => by omega)
            have RDC := Lib.hid (RD2.out.only (Only.set w2 ⟨w.heap.size, 2, none⟩ (.slice (some ⟨g, 0, none⟩) 0 c) (S := fun k => k = w.heap.size) rfl) (fun k hk => by omega))
            go_wp2
            refine bodyPost_ret (v := .agg #[.int .i64 b, .int .i64 p, .slice (some ⟨g, 0, none⟩) 0 c]) (by simp [results, Try.results41, go_sem, e0, e1, e2]) rfl ?_
            exact planBad_end (L := []) (by omega) hr RC.out (RDC.out.mono (by omega) (by omega)) OC.out (fun k hk => by have := OB.out _ _ k hk; omega) hb0 (by omega) (by simp) (fun x hx => by cases hx) (Or.inl rfl) _ _ _
        · have hcs : (y ++ (⟨#[49]⟩ : ByteArray)).size = y.size + 1 := by rw [ByteArray.size_append]; rfl
          have hne1 : g ≠ w.heap.size := by omega
          have hne2 : g ≠ w.heap.size + 1 := by omega
          have hli : (0 : Int) < (L.length : Int) := by omega
          go_wp2
          go_region_with (go_at_call 58; refine (l1Bad_sg _ _ r (N + 1) _ (Sg.start (Rd.below RD2.out (by go_grown))) (by omega) (by omega) (by omega)).mono ?_; rintro e w3 ⟨s, rfl, s0, s1, sg3⟩; have o23 : Only w2 w3 (fun k => k = r) := (by first | exact sg3.only | exact (Only.new (by go_grown)).trans sg3.only (fun _ _ h => h)); have R3 := Lib.hid (R2.out.only o23 (fun k hk => by have := OB.out _ _ k hk; omega)); have X3 := Lib.hid (X2.out.only o23 (by omega)); have Y3 := Lib.hid (Y2.out.only o23 (by omega)); have RD3 := Lib.hid sg3.1; have z3 := o23.size; have O3 := Lib.hid (O2'.out.trans o23 (fun x hx e => Or.inl e)); clear o23 sg3; obtain ⟨⟨dd0, dd1, dd2⟩, gg0, gg1, gg2⟩ := X3.out; obtain ⟨⟨ee0, ee1, ee2⟩, ff0, ff1, ff2⟩ := Y3.out; have hh0 := (R3.out.cellAt0 hl1).1; have hh1 := (R3.out.cellAt0 hl1).2; have hg3 : g < w3.heap.size := by omega)
          all_goals
            have RP := Lib.hid (R3.out.put 0 s)
            have sP := Only.set w3 ⟨g, 0, none⟩ (.string s) (S := fun k => k = g) rfl
            have RDP := Lib.hid (RD3.out.only sP (fun k hk => by omega))
            have OP := Lib.hid (O3.out.trans sP (fun x hx e => Or.inr (by rw [e]; rfl)))
            have hll : (L.set 0 s).length = L.length := by simp
            have SM : Hid (SmallS 30 (L.set 0 s)) := fun x hx => by
              rcases List.mem_or_eq_of_mem_set hx with h' | rfl
              · exact HSW.out x h'
              · omega
            have HLL := Lib.hid hll
            clear sP hll d0 d1 d2 g0 g1 g2 e0 e1 e2 f0 f1 f2 p0 p1 q0 hcs
            go_wp2
            refine bodyPost_ret (v := .agg #[.int .i64 b, .int .i64 p, .slice (some ⟨g, 0, none⟩) L.length c]) (by simp [results, Try.results41, go_sem, ee0, ee1, ee2]) rfl ?_
            have P := planBad_end (w := w) (N := N) (y := w.heap.size + 1) (b := b) (p := p) (row := (Value.slice (some ⟨g, 0, none⟩) L.length c).ownBlock) (by omega) hr RP.out (RDP.out.mono (by omega) (by omega)) OP.out (fun k hk => by have := OB.out _ _ k hk; omega) hb0 (by omega) (by simp; omega) SM.out (Or.inl rfl) (.int .i64 b) (.int .i64 p) (.slice (some ⟨g, 0, none⟩) L.length c)
            rw [HLL.out] at P
            exact P
      · obtain ⟨i0, hi, hz0, hz1, hz2⟩ := info_parts info_string
        have hli : (0 : Int) < (L.length : Int) := by omega
        have hln : 0 < L.length := hl1
        have hne1 : g ≠ w.heap.size := by omega
        have hne2 : g ≠ w.heap.size + 1 := by omega
        have hne3 : w.heap.size ≠ w2.heap.size := by omega
        go_wp2
        go_region_law (refine step_append_lies _ (by rfl) _ _ 23 (by rfl) base 9 i0 _ 1 16 Try.underlying23 hi hz0 hz1 hz2 rfl (by decide) _ L.length (scells L) (by rfl) (World.ownsRow.alloc (show _ from R2.out) _) ⟨w2.heap.size, 0, none⟩ 1 1 [.string y] (by rfl) rfl (by intro j u hu; match j, hu with | 0, hu => (simp at hu; subst hu; simp [Addr.add])) (by intro u hu; simp at hu; subst hu; rfl) (by decide) (by unfold maxLen; omega) (by omega) (by simp; omega) (w2.heap.size + 1) (by simp) ?_; intro g' cap w3 hown hgrow hat hlt; have o3 : Only w2 w3 (fun k => k = g) := Only.trans (Only.new (S := fun k => k = g) (by go_grown)) ((Only.of_grown hgrow).mono (T := fun k => k = g) (fun x _ e => OB.out _ _ x e.symm)) (fun _ _ h => h); have X3 := Lib.hid (X2.out.only o3 (by omega)); have Y3 := Lib.hid (Y2.out.only o3 (by omega)); have RD3 := Lib.hid (RD2.out.only o3 (fun k hk => by omega)); have O3 := Lib.hid (O2'.out.trans o3 (fun x hx e => Or.inr (by rw [e]; rfl))); have z3 := o3.size; have HO := Lib.hid hown; have HA : Hid (g' = g ∨ g' = w2.heap.size + 1) := hat.elim (fun e => Or.inl (OB.out _ _ _ e)) Or.inr; clear hgrow o3 hown hat; obtain ⟨⟨dd0, dd1, dd2⟩, gg0, gg1, gg2⟩ := X3.out; obtain ⟨⟨ee0, ee1, ee2⟩, ff0, ff1, ff2⟩ := Y3.out)
        all_goals
          have hg1 : g' ≠ w.heap.size := by have := HA.out; omega
          have hg2' : g' ≠ w.heap.size + 1 := by have := HA.out; omega
          have OB' : Hid (∀ (n c k : Nat), (Value.slice (some ⟨g', 0, none⟩) n c).ownBlock = some k → k = g') := fun n c k hk => by simpa [Value.ownBlock] using hk.symm
          have RW : SRow w3 base (.slice (some ⟨g', 0, none⟩) (L ++ [y]).length cap) (L ++ [y]) := by
            unfold SRow
            rw [scells_append, List.length_append]
            exact HO.out
          have sP := Only.set w3 ⟨w.heap.size, 2, none⟩ (.slice (some ⟨g', 0, none⟩) (L.length + 1) cap) (S := fun k => k = w.heap.size) rfl
          have RP := Lib.hid (RW.only sP (fun k hk => by have := OB'.out _ _ k hk; omega))
          have RDP := Lib.hid (RD3.out.only sP (fun k hk => by omega))
          have OP := Lib.hid (O3.out.trans sP (fun x hx e => by omega))
          have SM : Hid (SmallS 30 (L ++ [y])) := fun x hx => by
            rcases List.mem_append.1 hx with h' | h'
            · exact HSW.out x h'
            · rw [List.mem_singleton.1 h']; omega
          have HW : Hid ((Value.slice (some ⟨g', 0, none⟩) (L ++ [y]).length cap).ownBlock = (Value.slice (some ⟨g, 0, none⟩) L.length c).ownBlock ∨ ∃ k, (Value.slice (some ⟨g', 0, none⟩) (L ++ [y]).length cap).ownBlock = some k ∧ w.heap.size ≤ k) :=
            HA.out.elim (fun e => Or.inl (by rw [e]; rfl)) (fun e => Or.inr ⟨g', rfl, by omega⟩)
          have hll : Hid ((L ++ [y]).length = L.length + 1) := by unfold Hid; simp
          clear sP RW d0 d1 d2 g0 g1 g2 e0 e1 e2 f0 f1 f2 p0 p1 q0
          go_wp2
          refine bodyPost_ret (v := .agg #[.int .i64 b, .int .i64 p, .slice (some ⟨g', 0, none⟩) (L.length + 1) cap]) (by simp [results, Try.results41, go_sem, ee0, ee1, ee2]) rfl ?_
          have P := planBad_end (w := w) (N := N) (y := w.heap.size + 1) (b := b) (p := p) (row := (Value.slice (some ⟨g, 0, none⟩) L.length c).ownBlock) (by omega) hr RP.out (RDP.out.mono (by omega) (by omega)) OP.out (fun k hk => by have := OB'.out _ _ k hk; omega) hb0 (by omega) (by simp; omega) SM.out HW.out (.int .i64 b) (.int .i64 p) (.slice (some ⟨g', 0, none⟩) (L.length + 1) cap)
          rw [hll.out] at P
          exact P
    · go_wp2_with fail
      refine (num_sg _ [0, 5, 4, 1] w2.heap.size _ r _ (Sg.start (RD2.out.below (below_alloc0 w2 _))) (by omega) (by decide) (by decide) (by omega) (cells_int [0, 5, 4, 1] _ w2)).mono ?_
      rintro e w3 ⟨q, rfl, hm, sg3⟩
      have hq := (show ∀ x ∈ [(0 : Int), 5, 4, 1], 0 ≤ x ∧ x ≤ 5 from by decide) q hm
      have o23 : Only w2 w3 (fun k => k = r) := (Only.new (below_alloc0 w2 _)).trans sg3.only (fun _ _ h => h)
      have R3 := R2.out.only o23 (fun k hk => by have := OB.out _ _ k hk; omega)
      have X3 := Lib.hid (X2.out.only o23 (by omega))
      have Y3 := Lib.hid (Y2.out.only o23 (by omega))
      have z3 := o23.size
      have O3 := O2'.out.trans o23 (fun x hx e => Or.inl e)
      have s3 := Only.set w3 ⟨w.heap.size, 1, none⟩ (.int .i64 q) (S := fun k => k = w.heap.size) rfl
      have R4 := Lib.hid (R3.only s3 (fun k hk => by have := OB.out _ _ k hk; omega))
      have RD4 := Lib.hid (sg3.1.only s3 (fun k hk => by omega))
      have O4 := Lib.hid (O3.trans s3 (fun x hx e => by omega))
      clear o23 sg3 R3 O3 s3 hm d0 d1 d2 g0 g1 g2 e0 e1 e2 f0 f1 f2 p0 p1
      obtain ⟨⟨d0, d1, d2⟩, g0, g1, g2⟩ := X3.out
      obtain ⟨⟨e0, e1, e2⟩, f0, f1, f2⟩ := Y3.out
      have ltx := X3.out.lt
      have lty := Y3.out.lt
      go_wp2
      refine bodyPost_ret (v := .agg #[.int .i64 b, .int .i64 q, .slice (some ⟨g, 0, none⟩) L.length c]) (by simp [results, Try.results41, go_sem, e0, e1, e2]) rfl ?_
      exact planBad_end (by omega) hr R4.out (RD4.out.mono (by omega) (by omega)) O4.out (fun k hk => by have := OB.out _ _ k hk; omega) hb0 hq (by omega) HSW.out (Or.inl rfl) _ _ _
  · go_wp2_with fail
    refine (num_sg _ [1, 17, 16, -1, 9223372036854775807] w2.heap.size _ r _ (Sg.start (RD2.out.below (below_alloc0 w2 _))) (by omega) (by decide) (by decide) (by omega) (cells_int [1, 17, 16, -1, 9223372036854775807] _ w2)).mono ?_
    rintro e w3 ⟨q, rfl, hm, sg3⟩
    have hq := (show ∀ x ∈ [(1 : Int), 17, 16, -1, 9223372036854775807], -9223372036854775808 ≤ x ∧ x ≤ 9223372036854775807 from by decide) q hm
    have o23 : Only w2 w3 (fun k => k = r) := (Only.new (below_alloc0 w2 _)).trans sg3.only (fun _ _ h => h)
    have R3 := R2.out.only o23 (fun k hk => by have := OB.out _ _ k hk; omega)
    have X3 := Lib.hid (X2.out.only o23 (by omega))
    have Y3 := Lib.hid (Y2.out.only o23 (by omega))
    have z3 := o23.size
    have O3 := O2'.out.trans o23 (fun x hx e => Or.inl e)
    have s3 := Only.set w3 ⟨w.heap.size, 0, none⟩ (.int .i64 q) (S := fun k => k = w.heap.size) rfl
    have R4 := Lib.hid (R3.only s3 (fun k hk => by have := OB.out _ _ k hk; omega))
    have RD4 := Lib.hid (sg3.1.only s3 (fun k hk => by omega))
    have O4 := Lib.hid (O3.trans s3 (fun x hx e => by omega))
    clear o23 sg3 R3 O3 s3 hm d0 d1 d2 g0 g1 g2 e0 e1 e2 f0 f1 f2 p0 p1
    obtain ⟨⟨d0, d1, d2⟩, g0, g1, g2⟩ := X3.out
    obtain ⟨⟨e0, e1, e2⟩, f0, f1, f2⟩ := Y3.out
    have ltx := X3.out.lt
    have lty := Y3.out.lt
    go_wp2
    refine bodyPost_ret (v := .agg #[.int .i64 q, .int .i64 p, .slice (some ⟨g, 0, none⟩) L.length c]) (by simp [results, Try.results41, go_sem, e0, e1, e2]) rfl ?_
    exact planBad_end (by omega) hr R4.out (RD4.out.mono (by omega) (by omega)) O4.out (fun k hk => by have := OB.out _ _ k hk; omega) hq (by omega) (by omega) HSW.out (Or.inl rfl) _ _ _
end Go.Proofs.Ythnaglnmmgpiaaa
