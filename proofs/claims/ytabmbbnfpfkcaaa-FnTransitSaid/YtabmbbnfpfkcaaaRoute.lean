/-
  The way of a letter through a network, in the program.
-/
import Derived.Test.YtabmbbnfpfkcaaaTable
import Derived.Test.YtabmbbnfpfkcaaaSIdx
namespace Go.Proofs.Ytabmbbnfpfkcaaa
open Go.RowKit Go.Maps
open Go.PlainAid (bt get_bt bt_nonneg bt_le)
set_option linter.unusedVariables false

set_option maxHeartbeats 4000000 in
set_option maxRecDepth 100000 in
theorem impl_route (w : World) (base g n : Nat) (NM : Nat → ByteArray) (RL : Nat → List (ByteArray × ByteArray)) (R : Nat → Nat) (h : Tab w base g n NM RL R) (hf : NFits n NM RL) (hnet : M.net n NM RL = true) (start c : ByteArray) (hs : 0 ≤ M.rankTo NM start n) (hc : M.digs c = true) :
    Calls Try.prog 53 #[.map (some g), .string start, .string c] w (PathOut w (M.path NM RL n start c)) := by
  obtain ⟨⟨hn1, hn8⟩, hnames, hrules⟩ := M.net_yes hnet
  have HT := Lib.hid h
  have HF := Lib.hid hf
  have HNET := Lib.hid hnet
  have HCD := Lib.hid hc
  obtain ⟨s0, hs0⟩ : ∃ i : Nat, M.rankTo NM start n = (i : Int) := ⟨_, (Int.toNat_of_nonneg hs).symm⟩
  have HS0 := Lib.hid hs0
  have HUN := Lib.hid (M.unv_nil NM n)
  clear h hf hnet hrules hc hs hs0 hnames
  go_enter Try.func53, Try.ntmps53
  go_wp2
  go_loopw [8, 9] (fun p x wr => ∃ (P : List ByteArray) (y : ByteArray) (i : Nat), x = .string y ∧ Hid (M.rankTo NM y n = (i : Int)) ∧ Hid (SRow wr w.heap.size p P) ∧ P.length + M.unv NM P n ≤ n ∧ Hid (M.rt (M.nxo NM RL n c) (n + 1 - P.length) P y = M.path NM RL n start c) ∧ Hid (Below w.heap.size w wr) ∧ Hid (∃ u k, p = .slice u P.length k)) (fun p _ _ => n - sliceLen p)
  case atStart => exact ⟨[], start, s0, rfl, HS0, SRow.nil _ _, by rw [HUN.out]; simp, rfl, Below.refl _ _, ⟨_, _, rfl⟩⟩
  case round =>
    obtain ⟨P, y, i, rfl, hi, hrow, hlen, hrt, hb, hp⟩ := hrel
    obtain ⟨u, k, rfl⟩ := hp.out
    obtain ⟨a1, c1, hv1, _, hst⟩ := hrow.out.form
    injection hv1 with e1 _ e3
    subst e1 e3
    have hz := hb.out.size
    have hlP : P.length ≤ n := by omega
    have HR := Lib.hid (contains_str wr u P.length k (sC P) hst (by omega) y)
    rw [M.rank_has (P := P) (S := sC P) (fun i hi => sC_at hi) y] at HR
    obtain ⟨m, hm⟩ : ∃ m, n + 1 - P.length = m + 1 := ⟨n - P.length, by omega⟩
    rw [hm] at hrt
    clear hst
    cases hhas : M.hasS y P
    rotate_left
    · have HE := Lib.hid (hrt.out.symm.trans (M.rt_loop hhas))
      rw [hhas] at HR
      clear hhas hm hrt
      go_wp2_with (first
        | (go_at_call 75; refine HR.out.mono ?_; rintro e w1 ⟨rfl, rfl⟩)
        | (at_builtin; refine wpList_append_string _ rfl _ _ rfl w.heap.size _ P rfl (hrow.out.alloc _) _ y rfl ?_ (by omega) (by simp; omega) ?_))
      · simp [go_sem]
      · intro v2 w2 r2 g2 o2
        have R2 := Lib.hid r2
        have B2 : Hid (Below w.heap.size w w2) := (hb.out.alloc hz _).grown g2 (by simp; omega) (fun q e => (hrow.out.lt q e).1)
        clear r2 g2 o2
        go_wp2
        go_ret2
        exact PathOut.mk HE.out R2.out B2.out
    · rw [hhas] at HR
      have HH := Lib.hid hhas
      clear hhas
      go_wp2_with (first
        | (go_at_call 75; refine HR.out.mono ?_; rintro e w1 ⟨rfl, rfl⟩)
        | (at_builtin; refine wpList_append_string _ rfl _ _ rfl w.heap.size _ P rfl (hrow.out.alloc _) _ y rfl ?_ (by omega) (by simp; omega) ?_))
      · simp [go_sem]
      · intro v2 w2 r2 g2 o2
        have R2 := Lib.hid r2
        have B2 : Hid (Below w.heap.size w w2) := (hb.out.alloc hz _).grown g2 (by simp; omega) (fun q e => (hrow.out.lt q e).1)
        clear r2 g2 o2 HR
        obtain ⟨hin, hiy⟩ := rank_is hi.out
        have HT2 := Lib.hid (HT.out.on B2.out)
        have hlk := HT2.out.look hin (HF.out i hin).1
        rw [hiy] at hlk
        obtain ⟨nd, rl, h1, h2, h3⟩ := HT2.out.2 i hin
        have HX := Lib.hid (node_lookUp w2 base nd rl h1 (R i) h2 c HCD.out)
        have hrl : rlV rl c = M.look (M.ruleAt (nF (RL i)) (nT (RL i)) (RL i).length) c c.size := M.look_congr h3 _
        rw [hrl] at HX
        have hnx := M.nxo_at (RL := RL) (c := c) hi.out
        have hplen : (P ++ [y]).length = P.length + 1 := by simp
        have hunv := M.unv_less (NM := NM) (P := P) hin hiy HH.out
        have hpu : (P ++ [y]).length + M.unv NM (P ++ [y]) n ≤ n := by omega
        clear h1 h2 h3 hrl
        cases hl : M.look (M.ruleAt (nF (RL i)) (nT (RL i)) (RL i).length) c c.size with
        | none =>
          rw [hl] at HX hnx
          simp only [lkV] at HX
          have HE := Lib.hid (hrt.out.symm.trans (M.rt_lost HH.out hnx))
          clear hl hnx hunv hpu hplen hrt hm
          go_wp2_with (go_at_call 38; refine HX.out.mono ?_; rintro e w3 ⟨rfl, hb3⟩)
          go_ret2
          exact PathOut.mk HE.out (R2.out.on2 hb3) (sstep B2.out hb3)
        | some x =>
          rw [hl] at HX hnx
          simp only [lkV] at HX
          obtain ⟨hzn, hzl⟩ := M.nxo_is HNET.out hin hl
          by_cases hh : x = M.here
          · have hd := here_yes hh
            have HE := Lib.hid (hrt.out.symm.trans (M.rt_home HH.out (hh ▸ hnx)))
            clear hl hnx hunv hpu hplen hrt hm hh hzl hzn
            go_wp2_with (go_at_call 38; refine HX.out.mono ?_; rintro e w3 ⟨rfl, hb3⟩)
            go_ret2
            exact PathOut.mk HE.out (R2.out.on2 hb3) (sstep B2.out hb3)
          · have hd := here_no hh
            have hrt2 : Hid (M.rt (M.nxo NM RL n c) (n + 1 - (P ++ [y]).length) (P ++ [y]) x = M.path NM RL n start c) := by
              rw [Hid, show n + 1 - (P ++ [y]).length = m by omega, ← M.rt_next HH.out hnx hh]; exact hrt.out
            obtain ⟨j, hj⟩ : ∃ j : Nat, M.rankTo NM x n = (j : Int) := by
              obtain ⟨q, hq, e⟩ := (M.leads_iff.1 hzl).resolve_left hh
              rcases M.rankC NM x n with ⟨_, hno⟩ | ⟨r, _, _, _, hr⟩
              · exact absurd e (hno q hq)
              · exact ⟨r, hr⟩
            have HJ := Lib.hid hj
            have HPU := Lib.hid hpu
            have HMM : Hid (n - (P ++ [y]).length < n - P.length) := by unfold Hid; omega
            clear hl hnx hunv hpu hplen hrt hm hh hzl hzn hj
            go_wp2_with (go_at_call 38; refine HX.out.mono ?_; rintro e w3 ⟨rfl, hb3⟩)
            obtain ⟨a9, c9, hv9, _, _⟩ := R2.out.form
            have R3 := Lib.hid (R2.out.on2 hb3)
            have B3 := Lib.hid (sstep B2.out hb3)
            clear hb3
            go_roundw
            case rel => exact ⟨P ++ [y], x, j, rfl, HJ, R3, HPU.out, hrt2, B3, ⟨_, _, hv9⟩⟩
            case measure => rw [hv9]; exact HMM.out
end Go.Proofs.Ytabmbbnfpfkcaaa
