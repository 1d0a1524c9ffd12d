/-
  For every slice of bytes, laws.FnRecoverTrue returns true. Condition: the listed tables hold what the program's text lays, to which the card ties them.
-/
import Derived.Test.YthpdcilffbffoaaDoorCards
import Derived.Test.YthpdcilffbffoaaDoorTrueM
import Derived.Test.YthpdcilffbffoaaDoorRecS
import Derived.Test.YthpdcilffbffoaaDoorDrawRead
import Derived.Test.YthpdcilffbffoaaDoorShaped
import Derived.Lay
import Derived.Test.YthpdcilffbffoaaDoorLaidB
import Derived.Test.YthpdcilffbffoaaDoorVars
import Derived.Test.YthpdcilffbffoaaDoorTie
import Derived.LaidMore
import Derived.Stop.Joined
import Derived.SevenTiedAt
import Derived.WalkKit
import Derived.ProofKit
import Derived.OpenShut
import Derived.ShutString
import Derived.ChangeOld
import Derived.Below
import Derived.Handy
import Derived.Lib.Hide
namespace Go.Proofs.YthpdcilffbffoaaDoor.fnRecoverTrue
open Go.ChangeShapes Go.WideShapes Go.ChangeAt Go.RowKit
open Go.ChangeMaps (open_string shut_string)
open Go.PlainAid (bt get_bt bt_nonneg bt_le)
set_option linter.unusedVariables false

theorem own : ownKnob Tryd.prog.godebug = none := by kernel_rfl
theorem laidOut : laidOutB Tryd.prog = true := by kernel_rfl

set_option maxHeartbeats 4000000 in
set_option maxRecDepth 100000 in
theorem walk (w : World) (a0 : Option Addr) (l0 k0 : Nat) (z0 : List Int) (w0 : IsRow .u8 w a0 l0 k0 z0) (hL : Laid.read w) :
    Calls Tryd.prog 7 #[.slice a0 l0 k0] w fun e w' => e = .returned (.bool true) ∧ Below w.heap.size w w' := by
  by_cases hl : 1048576 < l0
  · go_enter Tryd.func7, Tryd.ntmps7
    go_wp2
    go_ret
    exact ⟨rfl, Below.refl _ _⟩
  go_enter Tryd.func7, Tryd.ntmps7
  go_wp2_with fail
  refine (DrawRecoverBars_any a0 l0 k0 z0 w w0).mono ?_
  rintro e w1 ⟨s, rfl, hs, k1⟩
  have h1 : Below w.heap.size w w1 := k1
  have hsm : s.size ≤ maxLen := by unfold maxLen; omega
  obtain ⟨o, ho⟩ : ∃ o, M.recov s = o := ⟨_, rfl⟩
  have HO := Lib.hid ho
  cases o with
  | none =>
    go_wp2_with fail
    refine (impl_RecoverBars _ _ (hL.below h1)).mono ?_
    rw [HO.out, M.ans_none]
    rintro e w2 ⟨rfl, k2⟩
    have h2 : Below w.heap.size w w2 := stepR h1 k2
    go_wp2_with fail
    refine (spec_RecoverBars _ _).mono ?_
    rw [HO.out, M.ans_none]
    rintro e w3 ⟨rfl, k3⟩
    have h3 : Below w.heap.size w w3 := stepR h2 k3
    go_wp2
    go_ret
    exact ⟨rfl, h3⟩
  | some c =>
    have hc := M.recov_code ho
    have h42 := M.recov_len ho
    have HC := Lib.hid hc
    have HGR : Hid (∀ k, k < 8 → 0 ≤ M.G s k → ((s.extract (1 + 5 * k) (6 + 5 * k)).toList == ((M.barsOf c).extract (1 + 5 * k) (6 + 5 * k)).toList) = true) := fun k hk hg => M.recov_groups ho hk hg
    have HNO : Hid (M.recov s ≠ none) := by unfold Hid; rw [ho]; exact fun e => by cases e
    have H42 := Lib.hid h42
    have hA42 := M.bars_size hc
    have hsm7 : c.size ≤ maxLen := by have := (M.code_yes hc).2; unfold maxLen; omega
    have hq : (42 : Int) ≤ (s.size : Int) := by omega
    have hqA : (42 : Int) ≤ ((M.barsOf c).size : Int) := by omega
    clear ho hc h42 hA42
    go_wp2_with fail
    refine (impl_RecoverBars _ _ (hL.below h1)).mono ?_
    rw [HO.out, M.ans_some]
    rintro e w2 ⟨rfl, k2⟩
    have h2 : Below w.heap.size w w2 := stepR h1 k2
    go_wp2_with fail
    refine (spec_RecoverBars _ _).mono ?_
    rw [HO.out, M.ans_some]
    rintro e w3 ⟨rfl, k3⟩
    have h3 : Below w.heap.size w w3 := stepR h2 k3
    go_wp2_with fail
    refine (impl_BarsOf_yes _ _ (hL.below h3).1 HC.out).mono ?_
    rintro e w4 ⟨rfl, k4⟩
    have h4 : Below w.heap.size w w4 := stepR h3 k4
    generalize M.barsOf c = A at *
    obtain ⟨g, hg⟩ : ∃ g : Nat → Int, ∀ i, M.G s i = g i := ⟨M.G s, fun _ => rfl⟩
    have HG := Lib.hid hg
    clear hg
    go_wp2
    go_loopw [10, 11] (fun q i wr => ∃ (k n : Nat) (y : Int), k ≤ 8 ∧ i = .int .i64 k ∧ q = .int .i64 n ∧ Hid (M.Lost s k y) ∧ (y < 0 → n = 0) ∧ (0 ≤ y → n = 1) ∧ Below w.heap.size w wr) (fun _ i _ => 8 - (intOf i).toNat)
    case atStart => exact ⟨0, 0, -1, by omega, rfl, rfl, M.Lost.zero s, fun _ => rfl, fun h => by omega, h4⟩
    case round =>
      obtain ⟨k, n, y, hk, rfl, rfl, hlo, hn0, hn1, hb⟩ := hrel
      have hz := hb.size
      have hn : n ≤ 1 := by
        by_cases hy : 0 ≤ y
        · have := hn1 hy; omega
        · have := hn0 (by omega); omega
      have HN0 := Lib.hid hn0
      have HN1 := Lib.hid hn1
      clear hn0 hn1
      by_cases hlt : k < 8
      · have q0 : (0 : Int) ≤ 1 + 5 * (k : Int) := by omega
        have q1 : (6 : Int) + 5 * (k : Int) ≤ (s.size : Int) := by omega
        have q3 : (6 : Int) + 5 * (k : Int) ≤ (A.size : Int) := by omega
        have q2 : (1 : Int) + 5 * (k : Int) ≤ 6 + 5 * (k : Int) := by omega
        have t1 : ((1 : Int) + 5 * (k : Int)).toNat = 1 + 5 * k := by omega
        have t2 : ((6 : Int) + 5 * (k : Int)).toNat = 6 + 5 * k := by omega
        have u0 : IntKind.i64.wrap (5 * (k : Int)) = 5 * (k : Int) := IntWalk.i64_in _ (by omega)
        have u1 : IntKind.i64.wrap (1 + 5 * (k : Int)) = 1 + 5 * (k : Int) := IntWalk.i64_in _ (by omega)
        have u2 : IntKind.i64.wrap (6 + 5 * (k : Int)) = 6 + 5 * (k : Int) := IntWalk.i64_in _ (by omega)
        by_cases hg : g k < 0
        · have hgl : M.G s k < 0 := by rw [HG.out]; exact hg
          have hy : y < 0 := by
            apply Classical.byContradiction
            intro hy
            exact HNO.out (hlo.out.second (by omega) hgl hlt H42.out)
          have hl' := Lib.hid (hlo.out.first hy hgl)
          have hn0 : n = 0 := HN0.out hy
          subst hn0
          clear hgl
          go_wp2_with (go_at_call 26; refine (impl_BarsDigit _ _ (hL.below hb).1.2).mono ?_; rw [show M.barDigit (s.extract (1 + 5 * k) (6 + 5 * k)) = g k from HG.out k]; rintro e w5 ⟨rfl, rfl⟩)
          go_roundw
          case rel => exact ⟨k + 1, 1, k, by omega, by go_num, rfl, hl', fun h => by omega, fun _ => rfl, hb⟩
          case measure => simp [intOf]; omega
        · have hgl : 0 ≤ M.G s k := by rw [HG.out]; omega
          have hee := HGR.out k hlt hgl
          have hl' := Lib.hid (hlo.out.keep hgl)
          clear hgl
          go_wp2_with (go_at_call 26; refine (impl_BarsDigit _ _ (hL.below hb).1.2).mono ?_; rw [show M.barDigit (s.extract (1 + 5 * k) (6 + 5 * k)) = g k from HG.out k]; rintro e w5 ⟨rfl, rfl⟩)
          go_region
          all_goals
            go_wp2
            exact ⟨⟨k + 1, n, y, by omega, by go_num, rfl, hl', HN0.out, HN1.out, hb.drew⟩, by simp [intOf]; omega⟩
      · obtain rfl : k = 8 := by omega
        go_wp2_with (go_at_call 14; refine (impl_CodeValid _ _ hsm7).mono ?_; rw [HC.out]; rintro e w6 ⟨rfl, k6⟩)
        go_ret
        exact ⟨rfl, stepR hb k6.below⟩

set_option maxRecDepth 100000 in
theorem lifted (os : Os) (started : os.Started) (H : Type) (enc : TypeId × Value → H) :
    ReturnsInHanded {} Tryd.checked os 7 .any (fun w args => (Rows.fnRecoverTrueSpec.pre enc Tryd.prog Tryd.f7 [] false w args ∧ laidMetH Tryd.prog Rows.fnRecoverTrueRow.laid w) ∧ sizedMet enc Tryd.prog Tryd.f7 (OpenSpec.ofChange Rows.fnRecoverTrueSpec) false w args)
      (Rows.fnRecoverTrueSpec.post enc Tryd.prog Tryd.f7 false true false false) := by
  refine returns_listed (C := Tryd.checked) (X := fun w _ => laidMetH Tryd.prog Rows.fnRecoverTrueRow.laid w) (fun _ _ _ hh h => h.of_heap hh) own started (by kernel_rfl) Tryd.func7
    (ChangeSpec.witness_shaped (enc := enc) (C := Tryd.checked) (os := os) (X := fun w _ => laidMetH Tryd.prog Rows.fnRecoverTrueRow.laid w) false (World.laidAll Tryd.prog os Rows.fnRecoverTrueRow.laid) #[.slice none 0 0] 8 (World.laidAll_os _ _ _) (World.shaped_of_ZipB (by kernel_rfl) (by kernel_rfl)) (by kernel_rfl) (by kernel_rfl) (by kernel_rfl) (Laid.door_read os _)) ?_
  intro W base args ds gs before hval0 hW hL hsh
  have hval : ∀ (j : Nat) t v, Tryd.f7.params[j]? = some t → args[j]? = some v → Value.okWide Tryd.prog W .any base t v := hval0
  have hW' := hW
  obtain ⟨p, q, hA0, hV, rfl, hfz, hnd⟩ := hW
  have hA : DataW.TrodAll enc Tryd.prog W 0 (fun _ => true) true Tryd.f7.params.toList args.toList ds p := hA0
  rw [Tryd.params7] at hA hval
  obtain ⟨v0, vs0, d0, ds0, p0, q0, hargs, rfl, rfl, h0, r0⟩ := trodAll_cons hA
  obtain ⟨rfl, rfl, rfl⟩ := trodAll_nil r0
  obtain rfl : args = #[v0] := by cases args; simp_all
  have ltV := DataW.TrodVars.lt hV
  obtain ⟨e0, e1, rfl⟩ : ∃ e0 e1, gs = [e0, e1] := Vars.gs_2 hV
  have g0 := h0
  have lt0 : ∀ x ∈ p0, x.block < W.heap.size := by obtain ⟨m, hm⟩ := g0; exact DataW.trod_lt m _ _ _ hm
  obtain ⟨a0, l0, k0, rfl⟩ := okWide_slice Tryd.underlying22 (hval 0 22 v0 rfl rfl)
  obtain ⟨z0, w0⟩ : ∃ zs, IsRow .u8 W a0 l0 k0 zs := by
    obtain ⟨fuel, hf⟩ := h0
    rcases open_ints Tryd.underlying22 Tryd.underlying5 (by kernel_rfl) hf with ⟨hcs, _⟩ | ⟨x, l, c, zs, hcs, _, hl, hm, hz, _, hcell, hwz⟩
    · simp [Value.cells] at hcs
      obtain ⟨rfl, rfl, rfl⟩ := hcs
      exact ⟨[], .inl ⟨rfl, rfl, rfl, rfl⟩⟩
    · simp [Value.cells] at hcs
      obtain ⟨rfl, rfl, rfl⟩ := hcs
      exact ⟨zs, .inr ⟨_, rfl, hl, hm, by simpa using hz, hcell, hwz⟩⟩
  clear hA0 hval0
  refine (walk W a0 l0 k0 z0 w0 (Laid.of_read hL hsh)).mono fun e W' ⟨he, bel⟩ => ?_
  subst he
  exact ⟨_, rfl, _, _, _, [], _, _, hW', trodAll_mk1 (shut_bool Tryd.underlying4 _), (trodAll_cons_mk (Below.trod laidOut (by kernel_rfl) (of_decide_eq_true (by kernel_rfl)) g0 bel lt0) trodAll_mk0), Vars.trodVars_below laidOut bel Laid.named_read hV ltV, bel.frame _, fun h => by cases h⟩

theorem row_holds : Rows.FnRecoverTrueSaid :=
  OpenClaim.holds_of_wide 7 Tryd.f7 rfl rfl rfl rfl rfl rfl rfl ⟨rfl, rfl, rfl, rfl, rfl⟩ rfl rfl rfl rfl rfl (by kernel_rfl) Tryd.func7 (by kernel_rfl)
    (of_decide_eq_true (by kernel_rfl)) (by unfold Func.isWrapper; first | (rw [if_pos (by decide +kernel)]; kernel_rfl) | (rw [if_neg (by decide +kernel)]; exact ⟨rfl, rfl⟩))
    (fun os started H enc _ => lifted os started H enc)

theorem proved : Rows.FnRecoverTrueCardSaid :=
  Claim7.holds_tied_plain_at .later [] [.data, .data, .data, .data, .data] true Rows.fnRecoverTrueCard.stood.harness false
    row_holds (fun _ h => by cases h) (by kernel_rfl) (fun _ h => by cases h) fnRecoverTrue_row_tie rfl ⟨rfl, rfl⟩ (by kernel_rfl) rfl
    (fun f fn hf hfn => by
      obtain rfl : f = 7 := Option.some.inj ((show Tryd.prog.funcNamed Rows.fnRecoverTrueRow.func = some 7 by kernel_rfl).symm.trans hf) |>.symm
      obtain rfl : fn = Tryd.f7 := (Option.some.inj (Tryd.func7.symm.trans hfn)).symm
      exact ⟨by kernel_rfl, fun j t ht => by
        rw [Tryd.params7] at ht
        have hm : t ∈ [22] := by simpa using Array.mem_of_getElem? ht
        have hall : ([22].all fun u => !Tryd.prog.wantsStandIn u) = true := by kernel_rfl
        exact (show Tryd.prog.wantsStandIn t = false by simpa using List.all_eq_true.1 hall t hm)⟩)
    (by kernel_rfl)
#print axioms proved
end Go.Proofs.YthpdcilffbffoaaDoor.fnRecoverTrue
