/-
  What RemoveRule returns, in the program and in the model of the document.
-/
import Derived.Test.YtiecniogkcgefaaAddR2
import Derived.Lib.AppendZerosOnto
import Derived.IntWalk
namespace Go.Proofs.Ytiecniogkcgefaa
open Go.RowKit Go.Maps Go.Lib
open Go.PlainAid (bt get_bt bt_nonneg bt_le)
set_option linter.unusedVariables false

theorem rules_head (b o n c k : Nat) (h1 : k ≤ n) (h2 : n ≤ c) (w : World) :
    (Instr.slice 25 (.slice (some ⟨b, o, none⟩) n c) none (some (.int .i64 (k : Int))) none).run Try.prog w = .ok (.slice (some ⟨b, o, none⟩) k c) w := by
  have he : Try.prog.underlying 25 = some (.slice (Try.prog.elem 25)) := by kernel_rfl
  have hz : ∀ w, (sizeOf (Try.prog.elem 25)).run Try.prog w = .ok 2 w := fun w => by kernel_rfl
  rw [run_slice_h w _ _ _ _ he .i64 (k : Int) (by omega) (by omega), hz]
  simp [sliced, Result.andThen, Addr.add]
theorem rules_tail (b o n c k : Nat) (h1 : k + 1 ≤ n) (h2 : n ≤ c) :
    ∃ a', (∀ w, (Instr.slice 25 (.slice (some ⟨b, o, none⟩) n c) (some (.int .i64 ((k : Int) + 1))) none none).run Try.prog w = .ok (.slice a' (n - (k + 1)) (c - (k + 1))) w) ∧
      ∀ (W : World) (F T : Nat → ByteArray), Fws W (some ⟨b, o, none⟩) n F T → Fws W a' (n - (k + 1)) (fun i => F (k + 1 + i)) (fun i => T (k + 1 + i)) := by
  have he : Try.prog.underlying 25 = some (.slice (Try.prog.elem 25)) := by kernel_rfl
  have hz : ∀ w, (sizeOf (Try.prog.elem 25)).run Try.prog w = .ok 2 w := fun w => by kernel_rfl
  have hk : ((k : Int) + 1).toNat = k + 1 := by omega
  by_cases hc : c = k + 1
  · refine ⟨some ⟨b, o, none⟩, fun w => ?_, fun W F T h i hi => absurd hi (by omega)⟩
    rw [run_slice_l w _ _ _ _ he .i64 ((k : Int) + 1) (by omega) (by omega), hz]
    simp [sliced, Result.andThen, hk, hc]
  · refine ⟨some ⟨b, o + (k + 1) * 2, none⟩, fun w => ?_, fun W F T h i hi => ?_⟩
    · rw [run_slice_l w _ _ _ _ he .i64 ((k : Int) + 1) (by omega) (by omega), hz]
      simp [sliced, Result.andThen, Addr.add, hk, hc]
    · obtain ⟨b', o', e, c0, c1⟩ := h (k + 1 + i) (by omega)
      injection e with e
      injection e with e1 e2
      subst e1 e2
      refine ⟨b, o + (k + 1) * 2, rfl, ?_, ?_⟩
      · rw [show o + (k + 1) * 2 + i * 2 = o + (k + 1 + i) * 2 by omega]; exact c0
      · rw [show o + (k + 1) * 2 + i * 2 + 1 = o + (k + 1 + i) * 2 + 1 by omega]; exact c1
theorem Fws.take {w : World} {a : Option Addr} {n : Nat} {F T : Nat → ByteArray} (h : Fws w a n F T) {k : Nat} (hk : k ≤ n) : Fws w a k F T := fun i hi => h i (by omega)
set_option maxHeartbeats 1000000 in
set_option maxRecDepth 100000 in
theorem spec_l6Without (w : World) (a : Option Addr) (n c : Nat) (F T : Nat → ByteArray) (h : Fws w a n F T) (hn : n ≤ 1048576) (hc : n ≤ c) (k : Nat) (hk : k < n) :
    Calls Try.prog 61 #[.slice a n c, .int .i64 (k : Int)] w (rFRowOut w (M.sansAt F T n k)) := by
  obtain ⟨b, o, rfl, _⟩ := h k hk
  have hh := rules_head b o n c k (by omega) hc
  obtain ⟨a', ht, hF⟩ := rules_tail b o n c k hk hc
  have HF := Lib.hid hF
  have HLX := Lib.hid (h.on (below_alloc0 w (.cells #[] 64)))
  have R0 := Lib.hid (rone_frow w)
  have hB := Lib.hid (below_alloc0 w (.cells #[] 64))
  have hki : (k : Int) < (n : Int) := by omega
  have hl1 := Lib.hid (M.flst_length F T k)
  have HL0 := Lib.hid h
  clear h hF
  go_enter Try.func61, Try.ntmps61
  go_wp2_with (at_builtin; refine rwpList_append_fws _ rfl _ _ rfl w.heap.size _ [] rfl R0.out _ k c F T rfl (HLX.out.take (by omega)) (by simp; omega) (by simp) ?_)
  intro v1 w3 r1 gr1 ho1
  have R1 : Hid (RRow w3 w.heap.size v1 (M.flst F T k)) := r1
  have K1 : Hid (Below w.heap.size w w3) := hB.out.grown gr1 hB.out.size (fun q e => (R0.out.lt q e).1)
  have HL3 : Hid (Fws w3 (some ⟨b, o, none⟩) n F T) := HL0.out.on K1.out
  clear r1 gr1 ho1 hB R0 HLX
  have hz1 := K1.out.size
  go_wp2_with (at_builtin; refine rwpList_append_fws _ rfl _ _ rfl w.heap.size _ (M.flst F T k) rfl R1.out _ _ _ _ _ rfl (HF.out _ _ _ HL3.out) (by rw [hl1.out]; omega) (by omega) ?_)
  intro v2 w4 r2 gr2 ho2
  have R2 : Hid (RRow w4 w.heap.size v2 (M.sansAt F T n k)) := r2
  have K2 : Hid (Below w.heap.size w w4) := K1.out.grown gr2 hz1 (fun q e => (R1.out.lt q e).1)
  clear r2 gr2 ho2
  go_wp2
  go_ret
  exact ⟨_, rfl, R2.out, K2.out⟩

set_option maxHeartbeats 2000000 in
set_option maxRecDepth 100000 in
theorem rgrow_nil (w : World) (n : Nat) (hn : n ≤ 4194304) :
    Calls Try.prog 89 #[.slice none 0 0, .int .i64 n] w (rFRowOut w []) := by
  obtain ⟨i0, hi, hz0, hz1, hz2⟩ := info_parts info_rule
  by_cases h0 : n = 0
  · subst h0
    go_enter Try.func89, Try.ntmps89
    go_wp2
    go_ret
    exact ⟨_, rfl, RRow.nil _ _, Below.refl _ _⟩
  have hold : (Builtin.firstCells i0.size 0 (.slice none 0 0)).run Try.prog w.drew = .ok ([] : List Value).toArray w.drew := run_firstCells_none w.drew i0.size 0 0 0
  have hrun : ∀ ty, (Builtin.append_ #[25, 3] ty #[.slice none 0 0, .int .i64 (n : Int)]).run Try.prog w = _ := fun ty =>
    run_append_grow_zeros w 25 3 ty 64 i0 _ .i64 .i64 Try.underlying25 Try.underlying3 hi hz0 none 0 0 [] hold n (by omega) (by omega) (by omega) (by omega) (by rw [hz2]; omega)
      (by have := growslice_fits (need := 0 + n) (old := 0) (bytes := i0.bytes) (by omega) (by rw [hz2]; omega); exact this)
  have hge : 0 + n ≤ grownCap w (0 + n) 0 64 := grownCap_ge w _ _ _
  have hle := grownCap_le_maxLen w (0 + n) 0 64 (by unfold maxLen; omega)
  obtain ⟨G, hG⟩ : ∃ G, grownCap w (0 + n) 0 64 = G := ⟨_, rfl⟩
  rw [hG] at hrun hge hle
  rw [Nat.zero_add] at hrun hge
  have hG63 : G ≤ 9223372036854775807 := by unfold maxLen at hle; omega
  obtain ⟨CC, hCC⟩ : ∃ CC, (([] : List Value).toArray ++ Builtin.zeroCells (Value.agg #[.string ⟨#[]⟩, .string ⟨#[]⟩]).cells n ++ Builtin.zeroCells (Value.agg #[.string ⟨#[]⟩, .string ⟨#[]⟩]).cells (G - n)) = CC := ⟨_, rfl⟩
  rw [hCC] at hrun
  have hsz : CC.size = G * 2 := by
    rw [← hCC]
    simp [Builtin.zeroCells, Value.cells]
    omega
  have hni : (0 : Int) < (n : Int) := by omega
  have HSZ := Lib.hid hsz
  clear hold hG hCC hsz
  go_enter Try.func89, Try.ntmps89
  go_wp2_with (at_builtin; refine Lib.wpList_append_run _ rfl _ _ _ _ rfl _ _ rfl rfl _ _ (hrun _) ?_)
  all_goals
    go_ret
    refine ⟨_, rfl, ⟨rfl, Or.inr ⟨w.heap.size, G, CC, rfl, Nat.le_refl _, heap_alloc_new w _, Nat.zero_le _, hle, HSZ.out, rfl⟩⟩, by go_grown⟩


set_option maxHeartbeats 2000000 in
set_option maxRecDepth 100000 in
theorem rslices_Concat2 (w : World) (B : Nat) (a1 a2 : Option Addr) (n1 c1 n2 c2 : Nat) (F1 T1 F2 T2 : Nat → ByteArray) (h1 : Fws w a1 n1 F1 T1) (h2 : Fws w a2 n2 F2 T2) (b0 : w.cell? ⟨B, 0, none⟩ = some (.slice a1 n1 c1)) (b1 : w.cell? ⟨B, 1, none⟩ = some (.slice a2 n2 c2)) (hn : n1 + n2 ≤ 1048576) :
    Calls Try.prog 62 #[.slice (some ⟨B, 0, none⟩) 2 2] w (rFRowOut w (M.flst F1 T1 n1 ++ M.flst F2 T2 n2)) := by
  have H1 := Lib.hid h1
  have H2 := Lib.hid h2
  have HB := Lib.hid (And.intro b0 b1)
  have hlB := World.block_lt_of_cell? _ _ b0
  have hl1 := Lib.hid (M.flst_length F1 T1 n1)
  clear h1 h2
  go_enter Try.func62, Try.ntmps62
  go_wp2
  go_loop [3, 11] (fun s i => (i = .int .i64 ((0 : Nat) : Int) ∧ s = .int .i64 ((0 : Nat) : Int)) ∨ (i = .int .i64 ((1 : Nat) : Int) ∧ s = .int .i64 (n1 : Int)) ∨ (i = .int .i64 ((2 : Nat) : Int) ∧ s = .int .i64 ((n1 + n2 : Nat) : Int))) (fun _ i => 2 - (intOf i).toNat)
  case atStart => exact Or.inl ⟨rfl, rfl⟩
  case round =>
    rcases hrel with ⟨rfl, rfl⟩ | ⟨rfl, rfl⟩ | ⟨rfl, rfl⟩
    · go_wp2
      go_round
      case rel => exact Or.inr (Or.inl ⟨by go_num, by go_num⟩)
      case measure => simp [intOf]
    · go_wp2
      go_round
      case rel => exact Or.inr (Or.inr ⟨by go_num, by go_num⟩)
      case measure => simp [intOf]
    · go_wp2_with fail
      refine (rgrow_nil w (n1 + n2) (by omega)).mono ?_
      rintro e w1 ⟨v, rfl, r1, hb1⟩
      have R1 := Lib.hid r1
      have K1 := Lib.hid hb1
      clear r1 hb1
      go_wp2
      go_loopw [6, 27] (fun q i wr => ∃ k : Nat, ((k = 0 ∧ i = .int .i64 ((0 : Nat) : Int) ∧ Hid (RRow wr w.heap.size q [])) ∨ (k = 1 ∧ i = .int .i64 ((1 : Nat) : Int) ∧ Hid (RRow wr w.heap.size q (M.flst F1 T1 n1))) ∨ (k = 2 ∧ i = .int .i64 ((2 : Nat) : Int) ∧ Hid (RRow wr w.heap.size q (M.flst F1 T1 n1 ++ M.flst F2 T2 n2)))) ∧ Hid (Below w.heap.size w wr)) (fun _ i _ => 2 - (intOf i).toNat)
      case atStart => exact ⟨0, Or.inl ⟨rfl, rfl, R1⟩, K1⟩
      case round =>
        obtain ⟨k, hcase, hb⟩ := hrel
        have hz := hb.out.size
        have b0 := (hb.out.cell (p := ⟨B, 0, none⟩) hlB).trans HB.out.1
        have b1 := (hb.out.cell (p := ⟨B, 1, none⟩) hlB).trans HB.out.2
        have HA := Lib.hid (H1.out.on hb.out)
        have HC := Lib.hid (H2.out.on hb.out)
        rcases hcase with ⟨_, rfl, hr⟩ | ⟨_, rfl, hr⟩ | ⟨_, rfl, hr⟩
        · go_wp2_with (at_builtin; refine rwpList_append_fws _ rfl _ _ rfl w.heap.size _ [] rfl hr.out _ n1 c1 F1 T1 rfl HA.out (by simp; omega) (by omega) ?_; intro v2 w3 r2 gr2 ho2; have R2 : Hid (RRow w3 w.heap.size v2 (M.flst F1 T1 n1)) := r2; have K2 : Hid (Below w.heap.size w w3) := hb.out.grown gr2 hz (fun q e => (hr.out.lt q e).1); clear r2 gr2 ho2)
          go_roundw
          case rel => exact ⟨1, Or.inr (Or.inl ⟨rfl, by go_num, R2⟩), K2⟩
          case measure => simp [intOf]
        · go_wp2_with (at_builtin; refine rwpList_append_fws _ rfl _ _ rfl w.heap.size _ (M.flst F1 T1 n1) rfl hr.out _ n2 c2 F2 T2 rfl HC.out (by rw [hl1.out]; omega) (by omega) ?_; intro v2 w3 r2 gr2 ho2; have R2 : Hid (RRow w3 w.heap.size v2 (M.flst F1 T1 n1 ++ M.flst F2 T2 n2)) := r2; have K2 : Hid (Below w.heap.size w w3) := hb.out.grown gr2 hz (fun q e => (hr.out.lt q e).1); clear r2 gr2 ho2)
          go_roundw
          case rel => exact ⟨2, Or.inr (Or.inr ⟨rfl, by go_num, R2⟩), K2⟩
          case measure => simp [intOf]
        · go_wp2
          go_ret
          exact ⟨_, rfl, hr.out, hb.out⟩

set_option maxHeartbeats 2000000 in
set_option maxRecDepth 100000 in
theorem spec_RemoveRule (w : World) (a : Option Addr) (n cap : Nat) (F T : Nat → ByteArray) (h : Fws w a n F T) (hf : FFits n F T) (hn : n ≤ 1048576) (hcap : n ≤ cap) (x : ByteArray) :
    Calls Try.prog 23 #[.slice a n cap, .string x] w (ROut w (M.remROk F T n x) (M.remRL F T n x)) := by
  have HX := Lib.hid (spec_l6Index w a n cap F T h hn x)
  have HV := Lib.hid (spec_RulesValid w a n cap F T h hf hn)
  have HW := Lib.hid (spec_l6Without w a n cap F T h hn hcap)
  have E0 := Lib.hid (rone_frow w)
  have B0 := Lib.hid (below_alloc0 w (.cells #[] 64))
  clear h hf
  go_enter Try.func23, Try.ntmps23
  go_wp2_with fail
  refine HX.out.mono ?_
  rintro e w1 ⟨rfl, rfl⟩
  cases hok : M.rul n F T
  · obtain ⟨e1, e2⟩ := M.remR_no (x := x) (Or.inl hok)
    have E1 := Lib.hid e1
    have E2 := Lib.hid e2
    rw [hok] at HV
    obtain ⟨r, hr⟩ : ∃ r, M.rankTo F x n = r := ⟨_, rfl⟩
    rw [hr]
    clear hok e1 e2 hr
    go_wp2_with fail
    refine HV.out.mono ?_
    rintro e w2 ⟨rfl, rfl⟩
    go_wp2
    go_ret2
    exact ROut.mk E1.out E2.out E0.out B0.out
  rw [hok] at HV
  have HOK := Lib.hid hok
  clear hok
  rcases M.rankC F x n with ⟨hr, _⟩ | ⟨k, hk, _, _, hr⟩
  · obtain ⟨e1, e2⟩ := M.remR_no (N := T) (Or.inr hr)
    have E1 := Lib.hid e1
    have E2 := Lib.hid e2
    rw [hr]
    clear e1 e2 hr
    go_wp2_with fail
    refine HV.out.mono ?_
    rintro e w2 ⟨rfl, rfl⟩
    go_wp2
    go_ret2
    exact ROut.mk E1.out E2.out E0.out B0.out
  · obtain ⟨e1, e2⟩ := M.remR_yes HOK.out hr
    have E1 := Lib.hid e1
    have E2 := Lib.hid e2
    have HWk := Lib.hid (HW.out k hk)
    rw [hr]
    clear e1 e2 hr HW
    go_wp2_with fail
    refine HV.out.mono ?_
    rintro e w2 ⟨rfl, rfl⟩
    go_wp2_with fail
    refine HWk.out.mono ?_
    rintro e w2 ⟨v, rfl, r2, hb2⟩
    go_wp2
    go_ret2
    exact ROut.mk E1.out E2.out r2 hb2

set_option maxHeartbeats 2000000 in
set_option maxRecDepth 100000 in
theorem impl_RemoveRule (w : World) (a : Option Addr) (n cap : Nat) (F T : Nat → ByteArray) (h : Fws w a n F T) (hf : FFits n F T) (hn : n ≤ 1048576) (hcap : n ≤ cap) (x : ByteArray) (hx : x.size ≤ maxLen) :
    Calls Try.prog 24 #[.slice a n cap, .string x] w (ROut w (M.remROk F T n x) (M.remRL F T n x)) := by
  have HL := Lib.hid h
  have HX := Lib.hid (impl_ruleIndex w a n cap F T h hn x)
  have HV := Lib.hid (fun W (hb : Below w.heap.size w W) => impl_RulesValid W a n cap F T (h.on hb) hf)
  clear h hf
  go_enter Try.func24, Try.ntmps24
  go_wp2_with fail
  refine HX.out.mono ?_
  rintro e w1 ⟨rfl, hb1⟩
  rcases M.rankC F x n with ⟨hr, _⟩ | ⟨k, hk, _, _, hr⟩
  · obtain ⟨e1, e2⟩ := M.remR_no (N := T) (Or.inr hr)
    have E1 := Lib.hid e1
    have E2 := Lib.hid e2
    rw [hr]
    clear e1 e2 hr
    go_wp2
    go_ret2
    exact ROut.mk E1.out E2.out (RRow.nil _ _) hb1
  · cases hok : M.rul n F T
    · obtain ⟨e1, e2⟩ := M.remR_no (x := x) (Or.inl hok)
      have E1 := Lib.hid e1
      have E2 := Lib.hid e2
      rw [hok] at HV
      rw [hr]
      clear hok e1 e2 hr
      go_wp2_with fail
      refine (HV.out _ hb1).mono ?_
      rintro e w2 ⟨rfl, hb2⟩
      go_wp2
      go_ret2
      exact ROut.mk E1.out E2.out (RRow.nil _ _) (step hb1 hb2)
    · obtain ⟨e1, e2⟩ := M.remR_yes hok hr
      have E1 := Lib.hid e1
      have E2 := Lib.hid e2
      rw [hok] at HV
      rw [hr]
      clear hok e1 e2 hr
      go_wp2_with fail
      refine (HV.out _ hb1).mono ?_
      rintro e w2 ⟨rfl, hb2⟩
      have K2 := Lib.hid (step hb1 hb2)
      have HL2 := Lib.hid (HL.out.on K2.out)
      obtain ⟨b, o, rfl, _⟩ := HL2.out k hk
      have hh := rules_head b o n cap k (by omega) hcap
      obtain ⟨a', ht, hF⟩ := rules_tail b o n cap k hk hcap
      have HF := Lib.hid hF
      have hki : (k : Int) < (n : Int) := by omega
      have HA : Hid (∀ ob, Fws ((w2.alloc ob).drew) (some ⟨b, o, none⟩) k F T) := fun ob => (HL2.out.take (by omega)).on (below_alloc0 w2 ob).drew
      have HC : Hid (∀ ob, Fws ((w2.alloc ob).drew) a' (n - (k + 1)) (fun i => F (k + 1 + i)) (fun i => T (k + 1 + i))) := fun ob => (HF.out _ _ _ HL2.out).on (below_alloc0 w2 ob).drew
      have hwr : IntKind.i64.wrap ((k : Int) + 1) = (k : Int) + 1 := IntWalk.i64_in _ (by omega)
      clear hb1 hb2 hF
      go_wp2_with fail
      go_region_with (go_at_call 62; go_loud (refine (rslices_Concat2 _ w2.heap.size (some ⟨b, o, none⟩) a' k cap (n - (k + 1)) (cap - (k + 1)) F T (fun i => F (k + 1 + i)) (fun i => T (k + 1 + i)) (HA.out _) (HC.out _) (by simp) (by simp) (by omega)).mono ?_); rintro e w3 ⟨v, rfl, r3, hb3⟩)
      have hz2 := K2.out.size
      have hz3 : w.heap.size ≤ (w2.alloc (.cells #[.slice (some ⟨b, o, none⟩) k cap, .slice a' (n - (k + 1)) (cap - (k + 1))] 25)).drew.heap.size := by
        show w.heap.size ≤ (w2.heap.push _).size
        rw [Array.size_push]; omega
      go_wp2
      go_ret2
      exact ROut.mk E1.out E2.out (r3.lower hz3) (((K2.out.alloc hz2 _).drew).trans (hb3.mono hz3))
end Go.Proofs.Ytiecniogkcgefaa
