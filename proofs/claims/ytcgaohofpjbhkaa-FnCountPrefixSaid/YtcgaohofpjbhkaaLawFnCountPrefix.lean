/-
  For every slice of bytes, laws.FnCountPrefix returns true.
-/
import Derived.Test.YtcgaohofpjbhkaaRows
import Derived.Test.YtcgaohofpjbhkaaDrawH
import Derived.Test.YtcgaohofpjbhkaaSplit
import Derived.Test.YtcgaohofpjbhkaaCountM
import Derived.Test.YtcgaohofpjbhkaaByte
import Derived.WalkKit
import Derived.ProofKit
import Derived.OpenShut
import Derived.ShutString
import Derived.ChangeOld
import Derived.Below
import Derived.Handy
import Derived.Lib.Hide
namespace Go.Proofs.Ytcgaohofpjbhkaa.fnCountPrefix
open Go.ChangeShapes Go.WideShapes Go.ChangeAt Go.RowKit
open Go.ChangeMaps (open_string shut_string)
open Go.PlainAid (bt get_bt bt_nonneg bt_le)
set_option linter.unusedVariables false

theorem own : ownKnob Try.prog.godebug = none := by kernel_rfl
theorem laidOut : laidOutB Try.prog = true := by kernel_rfl

set_option maxHeartbeats 4000000 in
set_option maxRecDepth 100000 in
theorem walk (w : World) (a0 : Option Addr) (l0 k0 : Nat) (z0 : List Int) (w0 : IsRow .u8 w a0 l0 k0 z0) :
    Calls Try.prog 6 #[.slice a0 l0 k0] w fun e w' => e = .returned (.bool true) ∧ Below w.heap.size w w' := by
  by_cases hl : 1048576 < l0
  · go_enter Try.func6, Try.ntmps6
    go_wp2
    go_ret
    exact ⟨rfl, Below.refl _ _⟩
  go_enter Try.func6, Try.ntmps6
  go_wp2_with fail
  refine (DrawCountPrefix_any a0 l0 k0 z0 w w0).mono ?_
  rintro e u ⟨v, s, rfl, hs, a, n, c, I, C, rfl, lt, fi, hn, bl⟩
  have LT := Lib.hid lt
  have FI := Lib.hid fi
  have BL := Lib.hid bl
  clear lt fi bl
  have hn2 : n ≤ 1048576 := by omega
  have hsm : s.size ≤ maxLen := by unfold maxLen; omega
  obtain ⟨f, hf⟩ : ∃ f, M.countP n I C s = f := ⟨_, rfl⟩
  have HF := Lib.hid hf
  cases hok : M.splitOk n I C s
  · rw [M.countP_no hok] at hf
    subst hf
    go_wp2_with fail
    refine (impl_CountPrefix _ _ _ _ _ _ _ LT.out FI.out hsm).mono ?_
    rw [HF.out]
    rintro e v1 ⟨rfl, k1⟩
    replace LT := Lib.hid (LT.out.on k1)
    replace BL := Lib.hid (step BL.out k1)
    clear k1
    go_wp2_with fail
    refine (spec_CountPrefix _ _ _ _ _ _ _ LT.out FI.out hn2 hsm).mono ?_
    rw [HF.out]
    rintro e v2 ⟨rfl, k2⟩
    replace LT := Lib.hid (LT.out.on k2)
    replace BL := Lib.hid (step BL.out k2)
    clear k2
    go_wp2_with fail
    refine (spec_CountPrefix _ _ _ _ _ _ _ LT.out FI.out hn2 hsm).mono ?_
    rw [HF.out]
    rintro e v3 ⟨rfl, k3⟩
    replace LT := Lib.hid (LT.out.on k3)
    replace BL := Lib.hid (step BL.out k3)
    clear k3
    go_wp2
    go_ret
    exact ⟨rfl, BL.out⟩
  · have hb : M.batch n I C = true := by unfold M.splitOk at hok; rw [Bool.and_eq_true] at hok; exact hok.1
    have hp : M.prefixOk s = true := by unfold M.splitOk at hok; rw [Bool.and_eq_true] at hok; exact hok.2
    have hp7 : s.size ≤ 7 := by unfold M.prefixOk at hp; rw [Bool.and_eq_true, decide_eq_true_iff] at hp; exact hp.2
    rw [M.countP_yes hok] at hf
    obtain ⟨m, hm⟩ : ∃ m, (M.withP s (M.lst I C n)).length = m := ⟨_, rfl⟩
    rw [hm] at hf
    subst hf
    have q1 : decide ((m : Int) < 0) = false := by simp
    by_cases h7 : s.size = 7
    · have q2 : ((s.size : Int) == 7) = true := by rw [h7]; rfl
      go_wp2_with fail
      refine (impl_CountPrefix _ _ _ _ _ _ _ LT.out FI.out hsm).mono ?_
      rw [HF.out]
      rintro e v1 ⟨rfl, k1⟩
      replace LT := Lib.hid (LT.out.on k1)
      replace BL := Lib.hid (step BL.out k1)
      clear k1
      go_wp2_with fail
      refine (spec_CountPrefix _ _ _ _ _ _ _ LT.out FI.out hn2 hsm).mono ?_
      rw [HF.out]
      rintro e v2 ⟨rfl, k2⟩
      replace LT := Lib.hid (LT.out.on k2)
      replace BL := Lib.hid (step BL.out k2)
      clear k2
      go_wp2_with fail
      refine (spec_CountPrefix _ _ _ _ _ _ _ LT.out FI.out hn2 hsm).mono ?_
      rw [HF.out]
      rintro e v3 ⟨rfl, k3⟩
      replace LT := Lib.hid (LT.out.on k3)
      replace BL := Lib.hid (step BL.out k3)
      clear k3
      go_wp2
      go_ret
      exact ⟨rfl, BL.out⟩
    · have q2 : ((s.size : Int) == 7) = false := by rw [beq_eq_false_iff_ne]; omega
      have h6 : s.size < 7 := by omega
      have hcs := M.lst_codes hb
      have H0 := Lib.hid (M.upto_zero s (M.lst I C n) (fun x hx => ((hcs x hx).2 s.size h6).1))
      have H9 := Lib.hid ((M.upto_ten s (M.lst I C n) (fun x hx => ((hcs x hx).2 s.size h6).2)).trans hm)
      have HN := Lib.hid (fun (k : Nat) (hk : k ≤ 9) => M.upto_succ s k hk h6 (M.lst I C n) (fun x hx => (hcs x hx).1))
      have HK := Lib.hid (fun (k : Nat) (hk : k ≤ 9) => (show M.splitOk n I C (s ++ ⟨#[UInt8.ofNat (48 + (k : Int)).toNat]⟩) = true from by unfold M.splitOk; rw [hb, M.prefix_snoc hp h6 k hk]; rfl))
      have HE := Lib.hid (show M.countP n I C ⟨#[]⟩ = n from by
        rw [M.countP_yes (by unfold M.splitOk; rw [hb, M.prefix_empty]; rfl), M.withP_empty, M.lst_length])
      have HB := Lib.hid (fun k => (show M.upto s k (M.lst I C n) ≤ 61 from Nat.le_trans (Nat.le_trans (List.length_filter_le _ _) (Nat.le_of_eq (M.lst_length I C n))) hn))
      clear hcs hok hb hp hm
      generalize hG : (fun k => M.upto s k (M.lst I C n)) = G
      have HG : Hid (∀ k, M.upto s k (M.lst I C n) = G k) := fun k => congrFun hG k
      clear hG
      go_wp2_with fail
      refine (impl_CountPrefix _ _ _ _ _ _ _ LT.out FI.out hsm).mono ?_
      rw [HF.out]
      rintro e v1 ⟨rfl, k1⟩
      replace LT := Lib.hid (LT.out.on k1)
      replace BL := Lib.hid (step BL.out k1)
      clear k1
      go_wp2_with fail
      refine (spec_CountPrefix _ _ _ _ _ _ _ LT.out FI.out hn2 hsm).mono ?_
      rw [HF.out]
      rintro e v2 ⟨rfl, k2⟩
      replace LT := Lib.hid (LT.out.on k2)
      replace BL := Lib.hid (step BL.out k2)
      clear k2
      go_wp2
      go_loopw [6, 7] (fun q i wr => ∃ k : Nat, k ≤ 10 ∧ i = .int .i64 k ∧ q = .int .i64 (G k : Nat) ∧ Hid (Lts wr a n I C) ∧ Hid (Below w.heap.size w wr)) (fun _ i _ => 10 - (intOf i).toNat)
      case atStart => exact ⟨0, by omega, rfl, by rw [show G 0 = 0 from (HG.out 0).symm.trans H0.out]; rfl, LT, BL⟩
      case round =>
        obtain ⟨k, hk, rfl, rfl, hlt, hbl⟩ := hrel
        by_cases hk9 : k ≤ 9
        · have q3 : decide ((k : Int) ≤ 9) = true := by simp; omega
          have hone := byte_string wr (48 + (k : Int)) (by omega) (by omega)
          have hz : (⟨#[UInt8.ofNat (48 + (k : Int)).toNat]⟩ : ByteArray).size ≤ 1 := Nat.le_refl 1
          have hok := HK.out k hk9
          have hct := Lib.hid ((M.countP_yes hok).trans (congrArg Int.ofNat (show _ = G (k + 1) - G k from by rw [← HG.out (k + 1), ← HG.out k, HN.out k hk9]; omega)))
          have hle : G k ≤ G (k + 1) := by rw [← HG.out (k + 1), ← HG.out k, HN.out k hk9]; omega
          have hg61 := HB.out (k + 1)
          rw [HG.out (k + 1)] at hg61
          clear hok
          generalize (⟨#[UInt8.ofNat (48 + (k : Int)).toNat]⟩ : ByteArray) = X at hz hct hone
          have hSX : (s ++ X).size ≤ maxLen := by rw [ByteArray.size_append]; unfold maxLen; omega
          obtain ⟨d, hd⟩ : ∃ d, G (k + 1) - G k = d := ⟨_, rfl⟩
          rw [hd] at hct
          have sd : IntKind.i64.wrap (((G k : Nat) : Int) + (d : Int)) = ((G (k + 1) : Nat) : Int) := (IntWalk.i64_in _ (by omega)).trans (by omega)
          go_wp2_with (go_at_call 18; refine (impl_CountPrefix _ _ _ _ _ _ _ (hlt.out.on ((Below.refl _ _).alloc (Nat.le_refl _) _)) FI.out hSX).mono ?_; rw [hct.out]; rintro e w7 ⟨rfl, hb7⟩)
          have hA : Below wr.heap.size wr (wr.alloc (.cells #[.int .u8 (48 + (k : Int))] 5)) := (Below.refl _ _).alloc (Nat.le_refl _) _
          go_roundw
          case rel => exact ⟨k + 1, by omega, by go_num, by first | rfl | (congr 1; exact sd), (hlt.out.on hA).on hb7, step (step hbl.out hA) hb7⟩
          case measure => simp [intOf]; omega
        · have q3 : decide ((k : Int) ≤ 9) = false := by simp; omega
          obtain rfl : k = 10 := by omega
          have hg : G 10 = m := (HG.out 10).symm.trans H9.out
          rw [hg]
          go_wp2_with fail
          refine (impl_CountPrefix _ _ _ _ _ _ _ hlt.out FI.out (by decide)).mono ?_
          rw [HE.out]
          rintro e w8 ⟨rfl, hb8⟩
          have hB8 := Lib.hid (step hbl.out hb8)
          clear hb8
          go_wp2
          go_ret
          exact ⟨rfl, hB8.out⟩

set_option maxRecDepth 100000 in
theorem lifted (os : Os) (started : os.Started) (H : Type) (enc : TypeId × Value → H) :
    ReturnsInHanded {} Try.checked os 6 .any (Rows.fnCountPrefixSpec.pre6 enc Try.prog Try.f6 Rows.fnCountPrefixRow.domain false) (Rows.fnCountPrefixSpec.post enc Try.prog Try.f6 false true false false) := by
  refine returnsInHanded_of_change (C := Try.checked) own started (by kernel_rfl) Try.func6
    (ChangeSpec.witness6 (enc := enc) (C := Try.checked) false ⟨#[], #[.slice none 0 0], []⟩ 8 (by kernel_rfl) (by kernel_rfl) (by kernel_rfl) (by kernel_rfl)) ?_
  intro W base args ds gs before hval0 hW hcnd _
  have hval : ∀ (j : Nat) t v, Try.f6.params[j]? = some t → args[j]? = some v → Value.okWide Try.prog W .any base t v := hval0
  have hW' := hW
  obtain ⟨p, q, hA0, hV, rfl, hfz, hnd⟩ := hW
  have hA : DataW.TrodAll enc Try.prog W 0 (fun _ => true) true Try.f6.params.toList args.toList ds p := hA0
  rw [Try.params6] at hA hval
  obtain ⟨v0, vs0, d0, ds0, p0, q0, hargs, rfl, rfl, h0, r0⟩ := trodAll_cons hA
  obtain ⟨rfl, rfl, rfl⟩ := trodAll_nil r0
  obtain rfl : args = #[v0] := by cases args; simp_all
  obtain ⟨rfl, rfl⟩ := trodVars_none hV
  have g0 := h0
  have lt0 : ∀ x ∈ p0, x.block < W.heap.size := by obtain ⟨m, hm⟩ := g0; exact DataW.trod_lt m _ _ _ hm
  obtain ⟨a0, l0, k0, rfl⟩ := okWide_slice Try.underlying31 (hval 0 31 v0 rfl rfl)
  obtain ⟨z0, w0⟩ : ∃ zs, IsRow .u8 W a0 l0 k0 zs := by
    obtain ⟨fuel, hf⟩ := h0
    rcases open_ints Try.underlying31 Try.underlying5 (by kernel_rfl) hf with ⟨hcs, _⟩ | ⟨x, l, c, zs, hcs, _, hl, hm, hz, _, hcell, hwz⟩
    · simp [Value.cells] at hcs
      obtain ⟨rfl, rfl, rfl⟩ := hcs
      exact ⟨[], .inl ⟨rfl, rfl, rfl, rfl⟩⟩
    · simp [Value.cells] at hcs
      obtain ⟨rfl, rfl, rfl⟩ := hcs
      exact ⟨zs, .inr ⟨_, rfl, hl, hm, by simpa using hz, hcell, hwz⟩⟩
  clear hA0 hval0
  refine (walk W a0 l0 k0 z0 w0).mono fun e W' ⟨he, bel⟩ => ?_
  subst he
  exact ⟨_, rfl, _, _, _, [], _, [], hW', trodAll_mk1 (shut_bool Try.underlying4 _), (trodAll_cons_mk (Below.trod laidOut (by kernel_rfl) (of_decide_eq_true (by kernel_rfl)) g0 bel lt0) trodAll_mk0), rfl, bel.frame _, fun h => by cases h⟩

theorem proved : Rows.FnCountPrefixSaid :=
  OpenClaim.holds_of_wide 6 Try.f6 rfl rfl rfl rfl rfl rfl rfl ⟨rfl, rfl, rfl, rfl, rfl⟩ rfl rfl rfl rfl rfl (by kernel_rfl) Try.func6 (by kernel_rfl)
    (of_decide_eq_true (by kernel_rfl)) (by unfold Func.isWrapper; first | (rw [if_pos (by decide +kernel)]; kernel_rfl) | (rw [if_neg (by decide +kernel)]; exact ⟨rfl, rfl⟩))
    (fun os started H enc _ => lifted os started H enc)
#print axioms proved
end Go.Proofs.Ytcgaohofpjbhkaa.fnCountPrefix
