/-
  Drawn sizes of trays, and letters with one.
-/
import Derived.Test.YtihbpalhbbingaaDrawB
import Derived.Test.YtihbpalhbbingaaMatR
import Derived.Test.YtihbpalhbbingaaFill
import Derived.Test.YtihbpalhbbingaaTotM
import Derived.Test.YtihbpalhbbingaaDrawVa
import Derived.Test.YtihbpalhbbingaaDrawPO
import Derived.Test.YtihbpalhbbingaaDrawHo
namespace Go.Proofs.Ytihbpalhbbingaa
open Go.RowKit
set_option linter.unusedVariables false

/-- A number that was drawn, and a reader. -/
def SizeSg (W : World) (r N : Nat) (e : Ending) (w' : World) : Prop := ∃ x : Int, e = .returned (.int .i64 x) ∧ (x ∈ [(0 : Int), 20, 21, -1, 9223372036854775807] ∨ (1 ≤ x ∧ x ≤ 6)) ∧ Sg W w' r N
set_option maxHeartbeats 1000000 in
theorem l5Number_any (W w : World) (r N : Nat) (h : Sg W w r N) (hN : N ≤ 90000) :
    Calls Try.prog 59 #[.pointer (some ⟨r, 0, none⟩)] w (SizeSg W r (N + 2)) := by
  have H := Lib.hid h
  clear h
  go_enter Try.func59, Try.ntmps59
  go_wp2_with fail
  refine (pick_sg W _ _ r _ H.out (by omega) (by omega) (by omega)).mono ?_
  rintro e w1 ⟨v, rfl, v0, v1, sg1⟩
  have hr := sg1.1.lt
  have S1 := Lib.hid sg1
  clear sg1 H
  cases hv : (v == 0)
  · go_wp2_with fail
    refine (pick_sg W _ _ r _ S1.out (by omega) (by omega) (by omega)).mono ?_
    rintro e w2 ⟨x, rfl, x0, x1, sg2⟩
    have S2 := Lib.hid sg2
    clear sg2
    go_wp2
    go_ret
    exact ⟨_, rfl, Or.inr (by omega), S2.out⟩
  · go_wp2_with fail
    refine (num_sg W [0, 20, 21, -1, 9223372036854775807] w1.heap.size _ r _ (S1.out.alloc _) (by omega) (by decide) (by decide) (by omega) (cells_int [0, 20, 21, -1, 9223372036854775807] _ w1)).mono ?_
    rintro e w2 ⟨x, rfl, hx, sg2⟩
    have S2 := Lib.hid sg2
    have HX := Lib.hid hx
    clear sg2 hx
    go_wp2
    go_ret
    exact ⟨_, rfl, Or.inl HX.out, S2.out⟩

/-- Drawn letters. -/
def LetsOnly (w : World) (e : Ending) (w' : World) : Prop := ∃ v : Value, e = .returned v ∧ Lets w w' v
/-- Two drawn numbers, and new memory alone. -/
def NumTwo (w : World) (e : Ending) (w' : World) : Prop := ∃ x y : Int, e = .returned (.tuple #[.int .i64 x, .int .i64 y]) ∧ Below w.heap.size w w'
end Go.Proofs.Ytihbpalhbbingaa

/-
  Drawn trays: l5Some, l5Bad, which may lay one row in two places, and the arguments of TrayOf, EmptyTrays and RepackTrays.
-/
namespace Go.Proofs.Ytihbpalhbbingaa
open Go.RowKit
set_option linter.unusedVariables false

theorem tot_le61 {M : Nat → List (Int × ByteArray)} : ∀ {n : Nat}, (∀ i, i < n → (M i).length ≤ 61) → tot M n ≤ 61 * n
  | 0, _ => Nat.le_refl _
  | n + 1, h => by
    have h1 := tot_le61 (M := M) (n := n) (fun i hi => h i (by omega))
    have h2 := h n (by omega)
    show tot M n + (M n).length ≤ _
    omega
/-- Trays that may be read. -/
theorem sz_of {n : Nat} {MM : Nat → List (Int × ByteArray)} (hn : n ≤ 61) (h : ∀ i, i < n → (MM i).length ≤ 61 ∧ Small 30 (MM i)) : Sz n MM := by
  refine ⟨by omega, ?_, (fitL_iff _).2 fun x hx => ?_⟩
  · rw [tot_flat]
    have := tot_le61 (M := MM) (n := n) (fun i hi => (h i hi).1)
    omega
  · obtain ⟨i, hi, hm⟩ := mem_flat.1 hx
    have := (h i hi).2 x hm
    exact ⟨by omega, by unfold maxLen; omega⟩
/-- A slice that lies somewhere already is appended. -/
theorem MatR.push {w w4 : World} {base n : Nat} {v : Value} {V : Nat → Value} {M : Nat → List (Int × ByteArray)} (h : MatR w base v n V M) {x : Value} {L : List (Int × ByteArray)} (hr : Row w base x L) (hx : ∀ k, v.ownBlock = some k → x.ownBlock ≠ some k)
    (ho : ∀ i, i < n → ∀ k, v.ownBlock = some k → (V i).ownBlock ≠ some k) {v' : Value} (h1 : w4.ownsRow base 25 1 v' (n + 1) (vcells V n ++ [x])) (hg : Only w w4 (fun k => v.ownBlock = some k)) : MatR w4 base v' (n + 1) (upd V n x) (upd M n L) := by
  rw [vcells_push] at h1
  refine ⟨h1, fun i hi => ?_, trivial⟩
  by_cases e : i = n
  · subst e
    rw [upd_same, upd_same]
    exact hr.only hg fun b hb e => hx b e hb
  · rw [upd_other _ _ e, upd_other _ _ e]
    exact (h.2.1 i (by omega)).only hg fun b hb e2 => ho i (by omega) b e2 hb
/-- The first row is written anew, and its slice is laid back. -/
theorem mat_first {w w3 : World} {base n r g c : Nat} {V : Nat → Value} {M : Nat → List (Int × ByteArray)} (h : Mat w base (.slice (some ⟨g, 0, none⟩) n c) n V M) (h0 : 0 < n) (hrb : r < base) {x : Value} {L : List (Int × ByteArray)} (hr : Row w3 base x L)
    (ho : Only w w3 (fun k => k = r ∨ (V 0).ownBlock = some k)) (hx : x.ownBlock = (V 0).ownBlock ∨ ∃ k, x.ownBlock = some k ∧ w.heap.size ≤ k) :
    MatR (w3.setCell ⟨g, 0, none⟩ x) base (.slice (some ⟨g, 0, none⟩) n c) n (upd V 0 x) (upd M 0 L) := by
  have hG := h.lt (k := g) (Or.inl rfl)
  have hGo : ∀ i, i < n → (V i).ownBlock ≠ some g := fun i hi => h.outer hi rfl
  have hs := Only.set w3 ⟨g, 0, none⟩ x (S := fun k => k = g) rfl
  have h1 : w3.ownsRow base 25 1 (.slice (some ⟨g, 0, none⟩) n c) n (vcells V n) := ownsRow_block h.1 fun q hq => by
    have e1 : g = q := by simpa [Value.ownBlock] using hq
    subst e1
    exact ho.block g hG.2 (fun e => by
      rcases e with e | e
      · omega
      · exact hGo 0 h0 e)
  have h2 := (World.ownsRow.stored h1 0 x).1
  rw [vcells_set V x] at h2
  refine ⟨h2, fun i hi => ?_, trivial⟩
  by_cases e : i = 0
  · subst e
    rw [upd_same, upd_same]
    refine hr.only hs fun b hb e => ?_
    subst e
    rcases hx with h3 | ⟨k, h3, hk⟩
    · rw [h3] at hb; exact hGo 0 hi hb
    · rw [h3] at hb; injection hb with hb; omega
  · rw [upd_other _ _ e, upd_other _ _ e]
    exact ((h.2.1 i hi).only ho fun b hb hk => by
      rcases hk with hk | hk
      · have := ((h.2.1 i hi).lt b hb).1; omega
      · exact h.2.2 i 0 hi h0 e b hb hk).only hs fun b hb hk => by subst hk; exact hGo i hi hb

def TrySome (w : World) (r N : Nat) (e : Ending) (w' : World) : Prop := ∃ (v : Value) (n base : Nat) (V : Nat → Value) (MM : Nat → List (Int × ByteArray)), e = .returned v ∧ Mat w' base v n V MM ∧ r < base ∧ base ≤ w'.heap.size ∧ n ≤ 14 ∧ (∀ i, i < n → (MM i).length ≤ 14 ∧ Small 7 (MM i)) ∧ Rd w' r N ∧ Below r w w'
set_option maxHeartbeats 2000000 in
theorem l5Some_any (w : World) (r N : Nat) (h : Rd w r N) (hN : N ≤ 60000) :
    Calls Try.prog 35 #[.pointer (some ⟨r, 0, none⟩)] w (TrySome w r (N + 300)) := by
  have hr := h.lt
  have RD := Lib.hid h
  clear h
  go_enter Try.func35, Try.ntmps35
  go_wp2_with fail
  refine (pick_sg _ _ _ r _ (Sg.start RD.out) (by omega) (by omega) (by omega)).mono ?_
  rintro e w1 ⟨t, rfl, t0, t1, sg1⟩
  have SG1 := Lib.hid sg1
  have hz1 := sg1.2.size
  have sk : IntKind.i64.wrap (1 + t) = 1 + t := IntWalk.i64_in _ (by omega)
  clear sg1 RD
  go_wp2_with fail
  refine (l2Some_ok _ r _ (1 + t) SG1.out.1 (by omega) (by omega) (by omega)).mono ?_
  rintro e w2 ⟨u, L, rfl, R2, l2, ok2, sg2⟩
  have SG2 := Lib.hid (SG1.out.trans sg2)
  have hz2 := sg2.2.size
  have hr2 := sg2.1.lt
  have R2 := Lib.hid R2
  have HB := Lib.hid (ok2.batch (by omega) (by omega) l2)
  have SM := Lib.hid (ok2.small (by omega) (by omega) l2)
  have hr1 : r < w1.heap.size := SG1.out.1.lt
  clear sg2 SG1 ok2
  go_wp2_with fail
  refine (pick_sg _ _ _ r _ (Sg.start SG2.out.1) (by omega) (by omega) (by omega)).mono ?_
  rintro e w3 ⟨s, rfl, s0, s1, sg3⟩
  have SG3 := Lib.hid (SG2.out.trans sg3)
  have R3 := Lib.hid (R2.out.sg sg3 hr1)
  have sk2 : IntKind.i64.wrap (1 + s) = 1 + s := IntWalk.i64_in _ (by omega)
  clear sg3 SG2 R2
  go_wp2_with fail
  refine (pick_sg _ _ _ r _ (Sg.start SG3.out.1) (by omega) (by omega) (by omega)).mono ?_
  rintro e w4 ⟨d, rfl, d0, d1, sg4⟩
  have SG4 := Lib.hid (SG3.out.trans sg4)
  have R4 := Lib.hid (R3.out.sg sg4 hr1)
  have hr4 := sg4.1.lt
  have hz4 := SG4.out.2.size
  clear sg4 SG3 R3
  obtain ⟨d, rfl⟩ := Int.eq_ofNat_of_zero_le d0
  obtain ⟨a, c, rfl, _, lt⟩ := R4.out.form
  have LT := Lib.hid lt
  clear lt R4
  go_wp2_with fail
  refine (spec_l5Fill _ a L.length c _ _ LT.out HB.out (1 + s) ⟨by omega, by omega⟩ d (by omega)).mono ?_
  rintro e w5 ⟨v, V, rfl, hm, b5⟩
  have hz5 := b5.size
  have HM := Lib.hid hm
  have RD5 := Lib.hid (SG4.out.1.below b5)
  have B5 := Lib.hid ((SG4.out.below_r hr).trans (b5.mono (by omega)))
  have hN14 : fN (nI L) (nC L) (1 + s) d L.length ≤ 14 := Nat.le_trans (fN_le _ _ _ _ _) l2
  have hrows : ∀ i, i < fN (nI L) (nC L) (1 + s) d L.length → (fM (nI L) (nC L) (1 + s) d L.length i).length ≤ 14 ∧ Small 7 (fM (nI L) (nC L) (1 + s) d L.length i) := fun i hi => by
    refine ⟨Nat.le_trans (fM_len _ _ _ _ _ _ hi) l2, fun x hx => ?_⟩
    have : x ∈ M.flat (fM (nI L) (nC L) (1 + s) d L.length) (fN (nI L) (nC L) (1 + s) d L.length) := mem_flat.2 ⟨i, hi, hx⟩
    rw [flat_fill, lst_nI] at this
    exact SM.out x this
  obtain ⟨NN, hNN⟩ : ∃ NN, fN (nI L) (nC L) (1 + s) d L.length = NN := ⟨_, rfl⟩
  obtain ⟨MM, hMM⟩ : ∃ MM, fM (nI L) (nC L) (1 + s) d L.length = MM := ⟨_, rfl⟩
  rw [hNN] at hN14 hrows HM
  rw [hMM] at hrows HM
  obtain ⟨u, cc, rfl⟩ := mat_slice HM.out
  clear hm b5 hNN hMM
  go_wp2
  go_ret
  exact ⟨_, NN, _, V, MM, rfl, HM.out, hr4, hz5, hN14, hrows, RD5.out.mono (by omega) (by omega), B5.out⟩

def TryBad (w : World) (r N : Nat) (e : Ending) (w' : World) : Prop := ∃ (v : Value) (n base : Nat) (V : Nat → Value) (MM : Nat → List (Int × ByteArray)), e = .returned v ∧ MatR w' base v n V MM ∧ r < base ∧ n ≤ 15 ∧ (∀ i, i < n → (MM i).length ≤ 61 ∧ Small 30 (MM i)) ∧ Rd w' r N ∧ Below r w w'
set_option maxHeartbeats 4000000 in
set_option maxRecDepth 100000 in
theorem l5Bad_any (w : World) (r N base n : Nat) (v : Value) (V : Nat → Value) (MM : Nat → List (Int × ByteArray)) (h : Rd w r N) (hN : N ≤ 70000) (hm : Mat w base v n V MM) (hrb : r < base) (hbw : base ≤ w.heap.size) (hn : n ≤ 14) (hl : ∀ i, i < n → (MM i).length ≤ 14 ∧ Small 7 (MM i)) :
    Calls Try.prog 34 #[.pointer (some ⟨r, 0, none⟩), v] w (TryBad w r (N + 30)) := by
  have hr := h.lt
  obtain ⟨u, c, rfl⟩ := mat_slice hm
  have HM := Lib.hid hm
  have RD := Lib.hid h
  have HLS := Lib.hid hl
  have HLB : Hid (∀ i, i < n → (MM i).length ≤ 61 ∧ Small 30 (MM i)) := fun i hi => ⟨by have := (hl i hi).1; omega, (hl i hi).2.mono (by omega)⟩
  clear h hm hl
  go_enter Try.func34, Try.ntmps34
  go_wp2_with fail
  refine (pick_sg _ _ _ r _ (Sg.start RD.out) (by omega) (by omega) (by omega)).mono ?_
  rintro e w1 ⟨t, rfl, t0, t1, sg1⟩
  have HM1 : Hid (Mat w1 base (.slice u n c) n V MM) := HM.out.only sg1.only (fun k hk e => by have := (HM.out.lt hk).1; omega)
  have RD1 := Lib.hid sg1.1
  have B1 := Lib.hid (sg1.below_r hr)
  have hz1 := sg1.2.size
  have hr1 := sg1.1.lt
  clear sg1 RD HM
  cases e0 : (t == 0)
  · cases e1 : (t == 1)
    · cases e2 : (t == 2)
      · go_wp2
        go_ret
        exact ⟨_, n, base, V, MM, rfl, HM1.out.r, hrb, by omega, HLB.out, RD1.out.mono (by omega) (by omega), B1.out⟩
      · by_cases h0 : 0 < n
        · have h0i : (0 : Int) < (n : Int) := by omega
          rcases HM1.out.form with ⟨_, e⟩ | ⟨g, c', e, hbg, hgl, _⟩
          · omega
          cases e
          obtain ⟨_, _, e, c0, f0⟩ := HM1.out.cell h0
          cases e
          obtain ⟨a, d, hv, _, _⟩ := (HM1.out.2.1 0 h0).form
          have HV := Lib.hid hv
          have HR0 := Lib.hid (HM1.out.2.1 0 h0)
          have hl0 := (HLS.out 0 h0).1
          have HS0 := Lib.hid (HLS.out 0 h0).2
          have HOB : Hid (∀ k, (V 0).ownBlock = some k → base ≤ k) := fun k hk => ((HM1.out.2.1 0 h0).lt k hk).1
          rw [hv] at c0
          clear hv
          have HR1 : Hid (Row w1 base (.slice a (MM 0).length d) (MM 0)) := by rw [Hid, ← HV.out]; exact HR0.out
          go_wp2_with fail
          refine (l2Bad_only _ r _ base _ (MM 0) RD1.out (by omega) HR1.out hrb (by omega) HS0.out).mono ?_
          rintro e w3 ⟨v3, L3, rfl, R3, l3, S3, rd3, o3, n3⟩
          rw [← HV.out] at o3 n3
          obtain ⟨a3, d3, rfl, _, _⟩ := R3.form
          have hG := HM1.out.lt (k := g) (Or.inl rfl)
          have hgo : ¬ (g = r ∨ (V 0).ownBlock = some g) := fun e => by
            rcases e with e | e
            · omega
            · exact HM1.out.outer h0 rfl e
          have d0 : w3.cell? ⟨g, 0, none⟩ = some (.slice a (MM 0).length d) := (World.cell?_of_block (a := ⟨g, 0, none⟩) (o3.block g hG.2 hgo)).trans c0
          have d1 : w3.frozen? ⟨g, 0, none⟩ = false := (World.frozen?_of_block (a := ⟨g, 0, none⟩) (o3.block g hG.2 hgo)).trans f0
          have HF := Lib.hid (mat_first HM1.out h0 hrb R3 o3 n3)
          have RD3 := Lib.hid (Rd.past rd3 (row := some g) (fun b e => by injection e with e; omega) (grown_set w3 ⟨g, 0, none⟩ (.slice a3 L3.length d3)))
          have hz3 := o3.size
          have B3 := Lib.hid ((B1.out.trans (o3.below (B := r) (fun k hk _ e => by
            rcases e with e | e
            · omega
            · have := HOB.out k e; omega) (by omega))).trans (grown_r (grown_set w3 ⟨g, 0, none⟩ (.slice a3 L3.length d3)) (fun j e => by injection e with e; simp at e; omega) (by omega)))
          have HL3 : Hid (∀ i, i < n → (upd MM 0 L3 i).length ≤ 61 ∧ Small 30 (upd MM 0 L3 i)) := fun i hi => by
            by_cases e : i = 0
            · subst e; rw [upd_same]; exact ⟨l3, S3⟩
            · rw [upd_other _ _ e]; exact HLB.out i hi
          have hg3 : g < w3.heap.size := by omega
          clear R3 S3 rd3 o3 n3 hgo c0 f0 HR0 HR1
          go_wp2
          go_ret
          exact ⟨_, n, base, _, _, rfl, HF.out, hrb, by omega, HL3.out, RD3.out.mono (by omega) (by omega), B3.out⟩
        · obtain rfl : n = 0 := by omega
          go_wp2
          go_ret
          exact ⟨_, 0, base, V, MM, rfl, HM1.out.r, hrb, by omega, HLB.out, RD1.out.mono (by omega) (by omega), B1.out⟩
    · by_cases h0 : 0 < n
      · have h0i : (0 : Int) < (n : Int) := by omega
        rcases HM1.out.form with ⟨_, e⟩ | ⟨g, c', e, hbg, hgl, _⟩
        · omega
        cases e
        obtain ⟨_, _, e, c0, f0⟩ := HM1.out.cell h0
        cases e
        obtain ⟨a, d, hv, _, _⟩ := (HM1.out.2.1 0 h0).form
        have HV := Lib.hid hv
        rw [hv] at c0
        have HVO : Hid (∀ i, i < n → ∀ k, (Value.slice (some ⟨g, 0, none⟩) n c).ownBlock = some k → (V i).ownBlock ≠ some k) := fun i hi k hk => HM1.out.outer hi hk
        have HR0 : Hid (Row w1 base (.slice a (MM 0).length d) (MM 0)) := by rw [Hid, ← hv]; exact HM1.out.2.1 0 h0
        have HX0 : Hid (∀ k, (Value.slice (some ⟨g, 0, none⟩) n c).ownBlock = some k → (Value.slice a (MM 0).length d).ownBlock ≠ some k) := fun k hk => by rw [← hv]; exact HM1.out.outer h0 hk
        clear hv f0
        obtain ⟨i0, hi, hz0, hz1', hz3⟩ := info_parts info_row
        obtain ⟨m0, hm0⟩ : ∃ m0, (MM 0).length = m0 := ⟨_, rfl⟩
        rw [hm0] at c0 HR0 HX0
        go_wp2_with (at_builtin; refine wpList_append_own_at _ rfl _ _ 23 rfl base 25 i0 _ 1 24 Try.underlying23 hi hz0 hz1' hz3 rfl (by decide) (.slice (some ⟨g, 0, none⟩) n c) n (vcells V n) rfl (World.ownsRow.alloc HM1.out.1 _) ⟨w1.heap.size, 0, none⟩ 1 1 [.slice a m0 d] rfl rfl (by intro j x hx; match j, hx with | 0, hx => (simp at hx; subst hx; simp [Addr.add])) (by intro x hx; simp at hx; subst hx; rfl) (by unfold maxLen; omega) (by omega) (by simp; omega) ?_)
        intro v2 w4 r2 gr2 hnn ho2
        have o14 : Only w1 w4 (fun q => (Value.slice (some ⟨g, 0, none⟩) n c).ownBlock = some q) := (Only.new (S := fun q => (Value.slice (some ⟨g, 0, none⟩) n c).ownBlock = some q) (below_alloc0 _ _)).trans ((Only.of_grown gr2).mono (T := fun q => (Value.slice (some ⟨g, 0, none⟩) n c).ownBlock = some q) (fun x _ e => e.symm)) (fun _ _ h => h)
        have P4 := Lib.hid (HM1.out.r.push HR0.out HX0.out HVO.out r2 o14)
        have RD4 := Lib.hid (Rd.past RD1.out (row := some g) (fun b e => by injection e with e; omega) ⟨o14.os, o14.tape, o14.output, o14.size, fun k hk hne => o14.block k hk (fun e => hne e.symm)⟩)
        have B4 := Lib.hid (B1.out.trans (o14.below (B := r) (fun k hk _ e => by have := (HM1.out.lt (Or.inl e)).1; omega) (by omega)))
        have HL4 : Hid (∀ i, i < n + 1 → (upd MM n (MM 0) i).length ≤ 61 ∧ Small 30 (upd MM n (MM 0) i)) := fun i hi => by
          by_cases e : i = n
          · subst e; rw [upd_same]; exact HLB.out 0 h0
          · rw [upd_other _ _ e]; exact HLB.out i (by omega)
        obtain ⟨u4, c4, rfl⟩ := mat_slice_r P4.out
        clear r2 gr2 ho2 hnn o14
        go_wp2
        go_ret
        exact ⟨_, n + 1, base, _, _, rfl, P4.out, hrb, by omega, HL4.out, RD4.out.mono (by omega) (by omega), B4.out⟩
      · obtain rfl : n = 0 := by omega
        go_wp2
        go_ret
        exact ⟨_, 0, base, V, MM, rfl, HM1.out.r, hrb, by omega, HLB.out, RD1.out.mono (by omega) (by omega), B1.out⟩
  · have x0 : Hid (Row (w1.alloc (.cells #[] 50)) w1.heap.size (.slice (some ⟨w1.heap.size, 0, none⟩) 0 0) []) := one_row w1
    have Q3 := Lib.hid (HM1.out.on (below_alloc0 w1 (.cells #[] 50)))
    have o13 : Hid (Only w1 (w1.alloc (.cells #[] 50)) (fun _ => False)) := Only.new (below_alloc0 w1 _)
    obtain ⟨i0, hi, hz0, hz1', hz3⟩ := info_parts info_row
    go_wp2_with (at_builtin; refine wpList_append_own_at _ rfl _ _ 23 rfl base 25 i0 _ 1 24 Try.underlying23 hi hz0 hz1' hz3 rfl (by decide) (.slice u n c) n (vcells V n) rfl (World.ownsRow.alloc Q3.out.1 _) ⟨w1.heap.size + 1, 0, none⟩ 1 1 [.slice (some ⟨w1.heap.size, 0, none⟩) 0 0] rfl rfl (by intro j x hx; match j, hx with | 0, hx => (simp at hx; subst hx; simp [Addr.add])) (by intro x hx; simp at hx; subst hx; rfl) (by unfold maxLen; omega) (by omega) (by simp; omega) ?_)
    intro v2 w4 r2 gr2 hnn ho2
    have o34 : Only (w1.alloc (.cells #[] 50)) w4 (fun q => (Value.slice u n c).ownBlock = some q) := (Only.new (S := fun q => (Value.slice u n c).ownBlock = some q) (below_alloc0 _ _)).trans ((Only.of_grown gr2).mono (T := fun q => (Value.slice u n c).ownBlock = some q) (fun x _ e => e.symm)) (fun _ _ h => h)
    have P4 := Lib.hid (HM1.out.push (x0.out.lower (by omega)) o13.out (fun q hq' => (x0.out.lt q hq').1) r2 o34).r
    have O14 : Only w1 w4 (fun q => (Value.slice u n c).ownBlock = some q) := (o13.out.mono (T := fun q => (Value.slice u n c).ownBlock = some q) (fun _ _ h => h.elim)).trans o34 (fun _ _ h => h)
    have RD4 := Lib.hid (Rd.past RD1.out (row := (Value.slice u n c).ownBlock) (fun b e => by have := (HM1.out.lt (Or.inl e)).1; omega) ⟨O14.os, O14.tape, O14.output, O14.size, fun k hk hne => O14.block k hk (fun e => hne e.symm)⟩)
    have B4 := Lib.hid (B1.out.trans (O14.below (B := r) (fun k hk _ e => by have := (HM1.out.lt (Or.inl e)).1; omega) (by omega)))
    have HL4 : Hid (∀ i, i < n + 1 → (upd MM n [] i).length ≤ 61 ∧ Small 30 (upd MM n [] i)) := fun i hi => by
      by_cases e : i = n
      · subst e; rw [upd_same]; exact ⟨Nat.zero_le _, fun _ h => by cases h⟩
      · rw [upd_other _ _ e]; exact HLB.out i (by omega)
    obtain ⟨u4, c4, rfl⟩ := mat_slice_r P4.out
    clear r2 gr2 ho2 hnn o34 O14
    go_wp2
    go_ret
    exact ⟨_, n + 1, base, _, _, rfl, P4.out, hrb, by omega, HL4.out, RD4.out.mono (by omega) (by omega), B4.out⟩
/-- Trays that the law may read; two of them may lie in one place. -/
def TryOut (w w' : World) (v : Value) : Prop := ∃ (n base : Nat) (V : Nat → Value) (MM : Nat → List (Int × ByteArray)), MatR w' base v n V MM ∧ n ≤ 15 ∧ (∀ i, i < n → (MM i).length ≤ 61 ∧ Small 30 (MM i)) ∧ Below w.heap.size w w'
def TryOne (w : World) (e : Ending) (w' : World) : Prop := ∃ v : Value, e = .returned v ∧ TryOut w w' v
def TryNum (w : World) (e : Ending) (w' : World) : Prop := ∃ (v : Value) (x : Int), e = .returned (.tuple #[v, .int .i64 x]) ∧ (-1 ≤ x ∧ x ≤ 9223372036854775807) ∧ TryOut w w' v
set_option maxHeartbeats 2000000 in
theorem DrawEmptyTrays_any (a : Option Addr) (l k : Nat) (z : List Int) (w : World) (h : IsRow .u8 w a l k z) :
    Calls Try.prog 17 #[.slice a l k] w (TryOne w) := by
  go_enter Try.func17, Try.ntmps17
  go_wp2_with fail
  refine (open_any a l k z w h).mono ?_
  rintro e w1 ⟨r, rfl, rd1, b1, hwr⟩
  have B1 := Lib.hid b1
  have RD1 := Lib.hid rd1
  clear b1 rd1 h
  go_wp2_with fail
  refine (l5Some_any _ r _ RD1.out (by omega)).mono ?_
  rintro e w2 ⟨v, n, base, V, MM, rfl, hm, hrb, hbw, hn, hl, rd2, b2⟩
  have B2 := Lib.hid (B1.out.trans (b2.mono hwr))
  have HM := Lib.hid hm
  have RD2 := Lib.hid rd2
  have HL := Lib.hid hl
  clear b2 hm rd2 hl B1 RD1
  go_wp2_with fail
  refine (l5Bad_any _ r _ base n v V MM RD2.out (by omega) HM.out hrb hbw hn HL.out).mono ?_
  rintro e w3 ⟨v3, n3, base3, V3, MM3, rfl, hm3, hrb3, hn3, hl3, rd3, b3⟩
  have B3 := Lib.hid (B2.out.trans (b3.mono hwr))
  have HM3 := Lib.hid hm3
  have RD3 := Lib.hid rd3
  have HL3 := Lib.hid hl3
  have hr3 := rd3.lt
  clear b3 hm3 rd3 hl3 B2 RD2 HM HL
  obtain ⟨u3, c3, rfl⟩ := mat_slice_r HM3.out
  go_wp2
  go_ret
  exact ⟨_, rfl, n3, base3, V3, MM3, HM3.out, hn3, HL3.out, B3.out⟩
set_option maxHeartbeats 2000000 in
theorem DrawTrayOf_any (a : Option Addr) (l k : Nat) (z : List Int) (w : World) (h : IsRow .u8 w a l k z) :
    Calls Try.prog 11 #[.slice a l k] w (TryNum w) := by
  go_enter Try.func11, Try.ntmps11
  go_wp2_with fail
  refine (open_any a l k z w h).mono ?_
  rintro e w1 ⟨r, rfl, rd1, b1, hwr⟩
  have B1 := Lib.hid b1
  have RD1 := Lib.hid rd1
  clear b1 rd1 h
  go_wp2_with fail
  refine (l5Some_any _ r _ RD1.out (by omega)).mono ?_
  rintro e w2 ⟨v, n, base, V, MM, rfl, hm, hrb, hbw, hn, hl, rd2, b2⟩
  have B2 := Lib.hid (B1.out.trans (b2.mono hwr))
  have HM := Lib.hid hm
  have RD2 := Lib.hid rd2
  have HL := Lib.hid hl
  clear b2 hm rd2 hl B1 RD1
  go_wp2_with fail
  refine (l5Bad_any _ r _ base n v V MM RD2.out (by omega) HM.out hrb hbw hn HL.out).mono ?_
  rintro e w3 ⟨v3, n3, base3, V3, MM3, rfl, hm3, hrb3, hn3, hl3, rd3, b3⟩
  have B3 := Lib.hid (B2.out.trans (b3.mono hwr))
  have HM3 := Lib.hid hm3
  have RD3 := Lib.hid rd3
  have HL3 := Lib.hid hl3
  have hr3 := rd3.lt
  clear b3 hm3 rd3 hl3 B2 RD2 HM HL
  go_wp2_with fail
  refine (pick_sg _ _ _ r _ (Sg.start RD3.out) (by omega) (by omega) (by omega)).mono ?_
  rintro e w4 ⟨x, rfl, x0, x1, sg4⟩
  have hxb : -1 ≤ x ∧ x ≤ 9223372036854775807 := by omega
  have B4 := Lib.hid (B3.out.trans ((sg4.below_r hr3).mono hwr))
  have HM4 := Lib.hid (HM3.out.only sg4.only (fun k hk e => by have := (HM3.out.lt hk).1; omega))
  obtain ⟨u3, c3, rfl⟩ := mat_slice_r HM3.out
  clear sg4 B3 HM3 RD3
  go_wp2
  go_ret2
  exact ⟨_, _, rfl, hxb, n3, base3, V3, MM3, HM4.out, hn3, HL3.out, B4.out⟩
set_option maxHeartbeats 2000000 in
theorem DrawTraysValid_any (a : Option Addr) (l k : Nat) (z : List Int) (w : World) (h : IsRow .u8 w a l k z) :
    Calls Try.prog 43 #[.slice a l k] w (TryNum w) := by
  go_enter Try.func43, Try.ntmps43
  go_wp2_with fail
  refine (open_any a l k z w h).mono ?_
  rintro e w1 ⟨r, rfl, rd1, b1, hwr⟩
  have B1 := Lib.hid b1
  have RD1 := Lib.hid rd1
  clear b1 rd1 h
  go_wp2_with fail
  refine (l5Some_any _ r _ RD1.out (by omega)).mono ?_
  rintro e w2 ⟨v, n, base, V, MM, rfl, hm, hrb, hbw, hn, hl, rd2, b2⟩
  have B2 := Lib.hid (B1.out.trans (b2.mono hwr))
  have HM := Lib.hid hm
  have RD2 := Lib.hid rd2
  have HL := Lib.hid hl
  clear b2 hm rd2 hl B1 RD1
  go_wp2_with fail
  refine (l5Bad_any _ r _ base n v V MM RD2.out (by omega) HM.out hrb hbw hn HL.out).mono ?_
  rintro e w3 ⟨v3, n3, base3, V3, MM3, rfl, hm3, hrb3, hn3, hl3, rd3, b3⟩
  have B3 := Lib.hid (B2.out.trans (b3.mono hwr))
  have HM3 := Lib.hid hm3
  have RD3 := Lib.hid rd3
  have HL3 := Lib.hid hl3
  have hr3 := rd3.lt
  clear b3 hm3 rd3 hl3 B2 RD2 HM HL
  go_wp2_with fail
  refine (l5Number_any _ _ r _ (Sg.start RD3.out) (by omega)).mono ?_
  rintro e w4 ⟨x, rfl, hx, sg4⟩
  have hxb : -1 ≤ x ∧ x ≤ 9223372036854775807 := by
    rcases hx with hx | hx
    · exact (show ∀ y ∈ [(0 : Int), 20, 21, -1, 9223372036854775807], -1 ≤ y ∧ y ≤ 9223372036854775807 from by decide) x hx
    · omega
  have B4 := Lib.hid (B3.out.trans ((sg4.below_r hr3).mono hwr))
  have HM4 := Lib.hid (HM3.out.only sg4.only (fun k hk e => by have := (HM3.out.lt hk).1; omega))
  obtain ⟨u3, c3, rfl⟩ := mat_slice_r HM3.out
  clear sg4 B3 HM3 RD3
  go_wp2
  go_ret2
  exact ⟨_, _, rfl, hxb, n3, base3, V3, MM3, HM4.out, hn3, HL3.out, B4.out⟩
set_option maxHeartbeats 1000000 in
theorem DrawRepackTrays_any (a : Option Addr) (l k : Nat) (z : List Int) (w : World) (h : IsRow .u8 w a l k z) :
    Calls Try.prog 21 #[.slice a l k] w (TryNum w) := by
  go_enter Try.func21, Try.ntmps21
  go_wp2_with fail
  refine (DrawTraysValid_any a l k z w h).mono ?_
  rintro e w1 ⟨v, x, rfl, hx, n, base, V, MM, hm, ho⟩
  obtain ⟨u, c, rfl⟩ := mat_slice_r hm
  have HO : Hid (TryOut w w1 (.slice u n c)) := ⟨n, base, V, MM, hm, ho⟩
  clear h hm ho
  go_wp2
  go_ret2
  exact ⟨_, _, rfl, hx, HO.out⟩
end Go.Proofs.Ytihbpalhbbingaa
