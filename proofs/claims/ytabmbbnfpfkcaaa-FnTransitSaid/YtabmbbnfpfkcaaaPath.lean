/-
  The path of a letter in the model of the document.
-/
import Derived.Test.YtabmbbnfpfkcaaaPathM
import Derived.Test.YtabmbbnfpfkcaaaNetV
import Derived.Test.YtabmbbnfpfkcaaaRank
import Derived.Test.YtabmbbnfpfkcaaaStrA
namespace Go.Proofs.Ytabmbbnfpfkcaaa
open Go.RowKit Go.Maps
open Go.PlainAid (bt get_bt bt_nonneg bt_le)
set_option linter.unusedVariables false

/-- A path that the call has made, and how it ends. -/
def PathOut (w : World) (R : List ByteArray × Int) (e : Ending) (w' : World) : Prop := ∃ v, e = .returned (.tuple #[v, .int .i64 R.2]) ∧ SRow w' w.heap.size v R.1 ∧ Below w.heap.size w w'
theorem PathOut.mk {w w' : World} {R : List ByteArray × Int} {L : List ByteArray} {x : Int} {v : Value} (h : R = (L, x)) (hr : SRow w' w.heap.size v L) (hb : Below w.heap.size w w') : PathOut w R (.returned (.tuple #[v, .int .i64 x])) w' := by
  subst h
  exact ⟨v, rfl, hr, hb⟩
theorem SRow.on2 {w w' : World} {base : Nat} {v : Value} {L : List ByteArray} (h : SRow w base v L) (hb : Below w.heap.size w w') : SRow w' base v L := h.below hb
def sliceLen : Value → Nat
  | .slice _ l _ => l
  | _ => 0
theorem rank_is {NM : Nat → ByteArray} {y : ByteArray} {n i : Nat} (h : M.rankTo NM y n = (i : Int)) : i < n ∧ NM i = y := by
  rcases M.rankC NM y n with ⟨h1, _⟩ | ⟨k, hk, h1, _, h2⟩
  · rw [h1] at h; omega
  · rw [h2] at h
    have : k = i := by omega
    subst this
    exact ⟨hk, h1⟩
set_option maxHeartbeats 4000000 in
set_option maxRecDepth 100000 in
theorem spec_l6Path (w : World) (a : Option Addr) (n cp : Nat) (NM : Nat → ByteArray) (RL : Nat → List (ByteArray × ByteArray)) (h : Nts w a n NM RL) (hf : NFits n NM RL) (hnet : M.net n NM RL = true) (start c : ByteArray) (hs : 0 ≤ M.rankTo NM start n) (hc : M.digs c = true) :
    Calls Try.prog 56 #[.slice a n cp, .string start, .string c] w (PathOut w (M.path NM RL n start c)) := by
  obtain ⟨⟨hn1, hn8⟩, hnames, hrules⟩ := M.net_yes hnet
  have HL := Lib.hid h
  have HF := Lib.hid hf
  have HNET := Lib.hid hnet
  have HRU := Lib.hid hrules
  have HCD := Lib.hid hc
  obtain ⟨s0, hs0⟩ : ∃ i : Nat, M.rankTo NM start n = (i : Int) := ⟨_, (Int.toNat_of_nonneg hs).symm⟩
  have HS0 := Lib.hid hs0
  have E0 := Lib.hid (sone_empty w)
  have B0 := Lib.hid (below_alloc0 w (.cells #[] 9))
  have HUN := Lib.hid (M.unv_nil NM n)
  clear h hf hnet hrules hc hs hs0 hnames
  go_enter Try.func56, Try.ntmps56
  go_wp2
  go_loopw [8, 9] (fun p x wr => ∃ (P : List ByteArray) (y : ByteArray) (i : Nat), x = .string y ∧ Hid (M.rankTo NM y n = (i : Int)) ∧ Hid (SRow wr w.heap.size p P) ∧ P.length + M.unv NM P n ≤ n ∧ Hid (M.rt (M.nxo NM RL n c) (n + 1 - P.length) P y = M.path NM RL n start c) ∧ Hid (Below w.heap.size w wr) ∧ Hid (∃ u k, p = .slice u P.length k)) (fun p _ _ => n - sliceLen p)
  case atStart => exact ⟨[], start, s0, rfl, HS0, E0, by rw [HUN.out]; simp, rfl, B0, ⟨_, _, rfl⟩⟩
  case round =>
    obtain ⟨P, y, i, rfl, hi, hrow, hlen, hrt, hb, hp⟩ := hrel
    obtain ⟨u, k, rfl⟩ := hp.out
    obtain ⟨a1, c1, hv1, _, hst⟩ := hrow.out.form
    injection hv1 with e1 _ e3
    subst e1 e3
    have hz := hb.out.size
    have hlP : P.length ≤ n := by omega
    have HR := Lib.hid (spec_l3Rank wr u P.length k (sC P) hst (by omega) y)
    have hrh := M.rank_has (P := P) (S := sC P) (fun i hi => sC_at hi) y
    obtain ⟨m, hm⟩ : ∃ m, n + 1 - P.length = m + 1 := ⟨n - P.length, by omega⟩
    rw [hm] at hrt
    clear hst
    cases hhas : M.hasS y P
    rotate_left
    · have HE := Lib.hid (hrt.out.symm.trans (M.rt_loop hhas))
      rw [hhas] at hrh
      obtain ⟨r, hr⟩ : ∃ r, M.rankTo (sC P) y P.length = r := ⟨_, rfl⟩
      rw [hr] at hrh HR
      clear hhas hr hm hrt
      go_wp2_with (first
        | (go_at_call 77; refine HR.out.mono ?_; rintro e w1 ⟨rfl, rfl⟩)
        | (at_builtin; refine wpList_append_string _ rfl _ _ rfl w.heap.size _ P rfl (hrow.out.alloc _) _ y rfl ?_ (by omega) (by simp; omega) ?_))
      · simp [go_sem]
      · intro v2 w2 r2 g2 o2
        have R2 := Lib.hid r2
        have B2 : Hid (Below w.heap.size w w2) := (hb.out.alloc hz _).grown g2 (by simp; omega) (fun q e => (hrow.out.lt q e).1)
        clear r2 g2 o2
        go_wp2
        go_ret2
        exact PathOut.mk HE.out R2.out B2.out
    · rw [hhas] at hrh
      obtain ⟨r, hr⟩ : ∃ r, M.rankTo (sC P) y P.length = r := ⟨_, rfl⟩
      rw [hr] at hrh HR
      have HH := Lib.hid hhas
      clear hhas hr
      go_wp2_with (first
        | (go_at_call 77; refine HR.out.mono ?_; rintro e w1 ⟨rfl, rfl⟩)
        | (at_builtin; refine wpList_append_string _ rfl _ _ rfl w.heap.size _ P rfl (hrow.out.alloc _) _ y rfl ?_ (by omega) (by simp; omega) ?_))
      · simp [go_sem]
      · intro v2 w2 r2 g2 o2
        have R2 := Lib.hid r2
        have B2 : Hid (Below w.heap.size w w2) := (hb.out.alloc hz _).grown g2 (by simp; omega) (fun q e => (hrow.out.lt q e).1)
        clear r2 g2 o2 HR hrh
        obtain ⟨hin, hiy⟩ := rank_is hi.out
        have HL2 := Lib.hid (HL.out.on B2.out)
        have HO := Lib.hid (spec_l6Office w2 a n cp NM RL HL2.out (by omega) y)
        rw [hi.out] at HO
        obtain ⟨b, o, a', c', rfl, c0, c1, hfw⟩ := HL2.out i hin
        obtain ⟨_, f0, m0⟩ := HF.out i hin
        obtain ⟨hri, hle⟩ := M.ruleOk_is (HRU.out i hin)
        have h20 := (M.rul_yes hri).1
        have HNX := Lib.hid (spec_l6Next w2 a' _ c' _ _ hfw f0 (by omega) c)
        have hbest := M.lookUp_best hri HCD.out
        have hnx := M.nxo_at (RL := RL) (c := c) hi.out
        have hin2 : (i : Int) < (n : Int) := by omega
        have hi0 : (0 : Int) ≤ (i : Int) := by omega
        have hplen : (P ++ [y]).length = P.length + 1 := by simp
        have hunv := M.unv_less (NM := NM) (P := P) hin hiy HH.out
        have hpu : (P ++ [y]).length + M.unv NM (P ++ [y]) n ≤ n := by omega
        obtain ⟨x, hx⟩ : ∃ x, M.nextTo (nF (RL i)) (nT (RL i)) c (RL i).length = x := ⟨_, rfl⟩
        have hxv : M.nextTo (nF (RL i)) (nT (RL i)) c (RL i).length = if M.bestTo (nF (RL i)) c (RL i).length < 0 then ⟨#[]⟩ else nT (RL i) (M.bestTo (nF (RL i)) c (RL i).length).toNat := rfl
        rw [hx] at HNX hxv
        cases hl : M.look (M.ruleAt (nF (RL i)) (nT (RL i)) (RL i).length) c c.size with
        | none =>
          rw [hl] at hbest hnx
          have hxe : x = ⟨#[]⟩ := by
            rw [hxv]
            by_cases e : M.bestTo (nF (RL i)) c (RL i).length < 0
            · exact if_pos e
            · rw [if_neg e] at hbest; cases hbest
          have HE := Lib.hid (hrt.out.symm.trans (M.rt_lost HH.out hnx))
          subst hxe
          clear hl hbest hnx hx hxv hfw f0 m0 hri hle hunv hpu hplen hrt hm
          go_wp2_with (first
            | (go_at_call 55; refine HO.out.mono ?_; rintro e w3 ⟨rfl, rfl⟩)
            | (go_at_call 41; refine HNX.out.mono ?_; rintro e w3 ⟨rfl, q3, rfl⟩))
          go_ret2
          exact PathOut.mk HE.out (R2.out.on2 (below_drewN0 (Below.refl _ _) _)) (below_drewN0 B2.out _)
        | some z =>
          rw [hl] at hbest hnx
          have hxe : x = z := by
            rw [hxv]
            by_cases e : M.bestTo (nF (RL i)) c (RL i).length < 0
            · rw [if_pos e] at hbest; cases hbest
            · rw [if_neg e] at hbest ⊢; exact (Option.some.inj hbest).symm
          subst hxe
          obtain ⟨hzn, hzl⟩ := M.nxo_is HNET.out hin hl
          have hzs := (M.name_yes hzn).2.1
          have hne := ne_str x hzs
          have hne2 : x.toList.isEmpty = false := by cases h : x.toList with | nil => exact absurd h hne | cons _ _ => rfl
          by_cases hh : x = M.here
          · have hd := here_yes hh
            have HE := Lib.hid (hrt.out.symm.trans (M.rt_home HH.out (hh ▸ hnx)))
            clear hl hbest hnx hx hxv hfw f0 m0 hri hle hunv hpu hplen hrt hm hh hzl hzn
            go_wp2_with (first
              | (go_at_call 55; refine HO.out.mono ?_; rintro e w3 ⟨rfl, rfl⟩)
              | (go_at_call 41; refine HNX.out.mono ?_; rintro e w3 ⟨rfl, q3, rfl⟩))
            go_ret2
            exact PathOut.mk HE.out (R2.out.on2 (below_drewN0 (Below.refl _ _) _)) (below_drewN0 B2.out _)
          · have hd := here_no hh
            have hrt2 : Hid (M.rt (M.nxo NM RL n c) (n + 1 - (P ++ [y]).length) (P ++ [y]) x = M.path NM RL n start c) := by
              rw [Hid, show n + 1 - (P ++ [y]).length = m by omega, ← M.rt_next HH.out hnx hh]; exact hrt.out
            obtain ⟨j, hj⟩ : ∃ j : Nat, M.rankTo NM x n = (j : Int) := by
              obtain ⟨q, hq, e⟩ := (M.leads_iff.1 hzl).resolve_left hh
              rcases M.rankC NM x n with ⟨_, hno⟩ | ⟨r, _, _, _, hr⟩
              · exact absurd e (hno q hq)
              · exact ⟨r, hr⟩
            have HJ := Lib.hid hj
            have HPU := Lib.hid hpu
            have HMM : Hid (n - (P ++ [y]).length < n - P.length) := by unfold Hid; omega
            clear hl hbest hnx hx hxv hfw f0 m0 hri hle hunv hpu hplen hrt hm hh hzl hzn hj
            go_wp2_with (first
              | (go_at_call 55; refine HO.out.mono ?_; rintro e w3 ⟨rfl, rfl⟩)
              | (go_at_call 41; refine HNX.out.mono ?_; rintro e w3 ⟨rfl, q3, rfl⟩))
            obtain ⟨a9, c9, hv9, _, _⟩ := R2.out.form
            go_roundw
            case rel => exact ⟨P ++ [y], x, j, rfl, HJ, R2.out.on2 (below_drewN0 (Below.refl _ _) _), HPU.out, hrt2, below_drewN0 B2.out _, ⟨_, _, hv9⟩⟩
            case measure => rw [hv9]; exact HMM.out
end Go.Proofs.Ytabmbbnfpfkcaaa
