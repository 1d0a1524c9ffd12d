/-
  RoutePath and HomeOf, in the program and in the model of the document.
-/
import Derived.Test.YtabmbbnfpfkcaaaRoute
import Derived.IntWalk
namespace Go.Proofs.Ytabmbbnfpfkcaaa
open Go.RowKit Go.Maps
open Go.PlainAid (bt get_bt bt_nonneg bt_le)
set_option linter.unusedVariables false

theorem M.rt_len (nx : ByteArray → Option ByteArray) : ∀ (f : Nat) (P : List ByteArray) (x : ByteArray), 1 ≤ (M.rt nx f P x).1.length ∧ (M.rt nx f P x).1.length ≤ P.length + f + 1
  | 0, P, x => by
    show 1 ≤ (P ++ [x]).length ∧ _
    rw [List.length_append]
    exact ⟨Nat.le_add_left _ _, by show (P ++ [x]).length ≤ _; rw [List.length_append]; exact Nat.le_refl _⟩
  | f + 1, P, x => by
    have hl : (P ++ [x]).length = P.length + 1 := by simp
    cases hh : M.hasS x P
    · cases hn : nx x with
      | none => rw [M.rt_lost hh hn]; constructor <;> (show _ ≤ _; simp only []; omega)
      | some y =>
        by_cases hy : y = M.here
        · subst hy
          rw [M.rt_home hh hn]; constructor <;> (show _ ≤ _; simp only []; omega)
        · rw [M.rt_next hh hn hy]
          have := M.rt_len nx f (P ++ [x]) y
          rw [hl] at this
          exact ⟨this.1, by omega⟩
    · rw [M.rt_loop hh]; constructor <;> (show _ ≤ _; simp only []; omega)
theorem M.path_len (NM : Nat → ByteArray) (RL : Nat → List (ByteArray × ByteArray)) (n : Nat) (start c : ByteArray) : 1 ≤ (M.path NM RL n start c).1.length ∧ (M.path NM RL n start c).1.length ≤ n + 2 := by
  have := M.rt_len (M.nxo NM RL n c) (n + 1) [] start
  simp at this
  exact ⟨this.1, this.2⟩
theorem M.routeP_len (n : Nat) (NM : Nat → ByteArray) (RL : Nat → List (ByteArray × ByteArray)) (start c : ByteArray) : ((M.routeP n NM RL start c).2 = 0 → 1 ≤ (M.routeP n NM RL start c).1.length) ∧ (M.routeP n NM RL start c).1.length ≤ n + 2 := by
  unfold M.routeP
  split
  · have := M.path_len NM RL n start c
    exact ⟨fun _ => this.1, this.2⟩
  · exact ⟨fun h => absurd h (by decide), Nat.zero_le _⟩
theorem M.routeP_len20 (n : Nat) (NM : Nat → ByteArray) (RL : Nat → List (ByteArray × ByteArray)) (start c : ByteArray) : (M.routeP n NM RL start c).1.length ≤ 20 := by
  unfold M.routeP
  split
  · rename_i h
    rw [Bool.and_eq_true] at h
    have h2 := h.1
    unfold M.routeOk at h2
    rw [Bool.and_eq_true] at h2
    have := (M.net_yes h2.1).1.2
    have := (M.path_len NM RL n start c).2
    omega
  · exact Nat.zero_le _
theorem M.routeOk_no {n : Nat} {NM : Nat → ByteArray} {RL : Nat → List (ByteArray × ByteArray)} {start : ByteArray} (h : M.net n NM RL = false ∨ M.rankTo NM start n = -1) : M.routeOk n NM RL start = false := by
  unfold M.routeOk
  rcases h with h | h
  · rw [h, Bool.false_and]
  · rw [h, Bool.and_eq_false_iff]; exact Or.inr rfl
theorem M.routeOk_yes {n : Nat} {NM : Nat → ByteArray} {RL : Nat → List (ByteArray × ByteArray)} {start : ByteArray} {i : Nat} (h : M.net n NM RL = true) (h2 : M.rankTo NM start n = (i : Int)) : M.routeOk n NM RL start = true := by
  unfold M.routeOk
  rw [h, h2, Bool.true_and]; exact decide_eq_true (by omega)
theorem nil_table (w : World) (c : ByteArray) (hc : c.size ≤ maxLen) : (Instr.lookup 77 (.map none) (.string c) false).run Try.prog w = .ok (.pointer none) w := by kernel_rfl

set_option maxHeartbeats 2000000 in
set_option maxRecDepth 100000 in
theorem spec_RoutePath (w : World) (a : Option Addr) (n cp : Nat) (NM : Nat → ByteArray) (RL : Nat → List (ByteArray × ByteArray)) (h : Nts w a n NM RL) (hf : NFits n NM RL) (hn : n ≤ 1048576) (hl : ∀ i, i < n → (RL i).length ≤ 1048576) (start c : ByteArray) (hc : c.size ≤ maxLen) :
    Calls Try.prog 23 #[.slice a n cp, .string start, .string c] w (PathOut w (M.routeP n NM RL start c)) := by
  have HV := Lib.hid (spec_NetworkValid w a n cp NM RL h hf hn hl)
  have HO := Lib.hid (spec_l6Office w a n cp NM RL h hn start)
  have HC := Lib.hid (spec_CodeValid c w hc)
  have HP := Lib.hid (fun hnet hs hd => spec_l6Path w a n cp NM RL h hf hnet start c hs hd)
  have E0 := Lib.hid (sone_empty w)
  have B0 := Lib.hid (below_alloc0 w (.cells #[] 9))
  clear h hf hl hc
  go_enter Try.func23, Try.ntmps23
  cases hnet : M.net n NM RL
  · have HE := Lib.hid (M.routeP_no (c := c) (Or.inl (M.routeOk_no (start := start) (Or.inl hnet))))
    rw [hnet] at HV
    clear hnet
    go_wp2_with (go_at_call 54; refine HV.out.mono ?_; rintro e w1 ⟨rfl, rfl⟩)
    go_ret2
    exact PathOut.mk HE.out E0.out B0.out
  rw [hnet] at HV
  have HN := Lib.hid hnet
  clear hnet
  rcases M.rankC NM start n with ⟨hr, _⟩ | ⟨i, _, _, _, hr⟩
  · have HE := Lib.hid (M.routeP_no (n := n) (NM := NM) (RL := RL) (c := c) (Or.inl (M.routeOk_no (Or.inr hr))))
    rw [hr] at HO
    clear hr
    go_wp2_with (first
      | (go_at_call 54; refine HV.out.mono ?_; rintro e w1 ⟨rfl, rfl⟩)
      | (go_at_call 55; refine HO.out.mono ?_; rintro e w1 ⟨rfl, rfl⟩))
    go_ret2
    exact PathOut.mk HE.out E0.out B0.out
  have HR := Lib.hid hr
  rw [hr] at HO
  clear hr
  cases hcv : M.code c
  · have HE := Lib.hid (M.routeP_no (n := n) (NM := NM) (RL := RL) (start := start) (Or.inr hcv))
    rw [hcv] at HC
    clear hcv
    go_wp2_with (first
      | (go_at_call 54; refine HV.out.mono ?_; rintro e w1 ⟨rfl, rfl⟩)
      | (go_at_call 55; refine HO.out.mono ?_; rintro e w1 ⟨rfl, rfl⟩)
      | (go_at_call 40; refine HC.out.mono ?_; rintro e w1 ⟨rfl, rfl⟩))
    go_ret2
    exact PathOut.mk HE.out E0.out B0.out
  · have HE := Lib.hid (M.routeP_yes (M.routeOk_yes (RL := RL) HN.out HR.out) hcv)
    have HP2 := Lib.hid (HP.out HN.out (by rw [HR.out]; omega) (M.code_yes hcv).1)
    rw [hcv] at HC
    clear hcv HP
    go_wp2_with (first
      | (go_at_call 54; refine HV.out.mono ?_; rintro e w1 ⟨rfl, rfl⟩)
      | (go_at_call 55; refine HO.out.mono ?_; rintro e w1 ⟨rfl, rfl⟩)
      | (go_at_call 40; refine HC.out.mono ?_; rintro e w1 ⟨rfl, rfl⟩)
      | (go_at_call 56; refine HP2.out.mono ?_; rintro e w1 ⟨v, rfl, r1, hb1⟩))
    go_ret2
    refine ⟨v, by rw [HE.out]; rfl, by rw [HE.out]; exact r1, hb1⟩

set_option maxHeartbeats 2000000 in
set_option maxRecDepth 100000 in
theorem impl_RoutePath (w : World) (a : Option Addr) (n cp : Nat) (NM : Nat → ByteArray) (RL : Nat → List (ByteArray × ByteArray)) (h : Nts w a n NM RL) (hf : NFits n NM RL) (hn : n ≤ 1048576) (start c : ByteArray) (hs : start.size ≤ maxLen) (hc : c.size ≤ maxLen) :
    Calls Try.prog 22 #[.slice a n cp, .string start, .string c] w (PathOut w (M.routeP n NM RL start c)) := by
  have HF := Lib.hid hf
  have HC := Lib.hid (fun W => impl_CodeValid c W hc)
  go_enter Try.func22, Try.ntmps22
  cases hnet : M.net n NM RL
  · have HE := Lib.hid (M.routeP_no (c := c) (Or.inl (M.routeOk_no (start := start) (Or.inl hnet))))
    have HV := Lib.hid (impl_tableOf_no w a n cp NM RL h hf hn hnet)
    have hnil := fun W => nil_table W start hs
    clear hnet h hf hs hc
    go_wp2_with (go_at_call 52; refine HV.out.mono ?_; rintro e w1 ⟨rfl, hb1⟩)
    go_ret2
    exact PathOut.mk HE.out (SRow.nil _ _) hb1
  have HV := Lib.hid (impl_tableOf_yes w a n cp NM RL h hf hn hnet)
  have HN := Lib.hid hnet
  have HS := Lib.hid hs
  clear hnet h hf hs hc
  go_wp2_with fail
  refine HV.out.mono ?_
  rintro e w1 ⟨g, R, rfl, ht, hb1⟩
  have HT := Lib.hid ht
  rcases M.rankC NM start n with ⟨hr, hno⟩ | ⟨i, hi, hie, _, hr⟩
  · have HE := Lib.hid (M.routeP_no (n := n) (NM := NM) (RL := RL) (c := c) (Or.inl (M.routeOk_no (Or.inr hr))))
    have hlk := ht.miss hno HS.out
    clear hr hno ht
    go_wp2
    go_ret2
    exact PathOut.mk HE.out (SRow.nil _ _) hb1
  have HR := Lib.hid hr
  have hlk := ht.look hi (HF.out i hi).1
  rw [hie] at hlk
  clear hr hie ht
  cases hcv : M.code c
  · have HE := Lib.hid (M.routeP_no (n := n) (NM := NM) (RL := RL) (start := start) (Or.inr hcv))
    rw [hcv] at HC
    clear hcv
    go_wp2_with (go_at_call 13; refine (HC.out _).mono ?_; rintro e w2 ⟨rfl, hi2⟩)
    go_ret2
    exact PathOut.mk HE.out (SRow.nil _ _) (sstep hb1 hi2.below)
  · have HE := Lib.hid (M.routeP_yes (M.routeOk_yes (RL := RL) HN.out HR.out) hcv)
    have HD := Lib.hid (M.code_yes hcv).1
    rw [hcv] at HC
    clear hcv
    go_wp2_with fail
    refine (HC.out _).mono ?_
    rintro e w2 ⟨rfl, hi2⟩
    have B2 := Lib.hid (sstep hb1 hi2.below)
    have HRT := Lib.hid (impl_route w2 w.heap.size g n NM RL R (HT.out.on hi2.below) HF.out HN.out start c (by rw [HR.out]; omega) HD.out)
    clear hi2 hlk
    go_wp2_with fail
    refine HRT.out.mono ?_
    rintro e w3 ⟨v, rfl, r3, hb3⟩
    go_wp2
    go_ret2
    exact ⟨v, by rw [HE.out]; rfl, by rw [HE.out]; exact SRow.base r3 B2.out.size, sstep B2.out hb3⟩
end Go.Proofs.Ytabmbbnfpfkcaaa

/-
  HomeOf, in the program and in the model of the document.
-/
namespace Go.Proofs.Ytabmbbnfpfkcaaa
open Go.RowKit Go.Maps
open Go.PlainAid (bt get_bt bt_nonneg bt_le)
set_option linter.unusedVariables false

/-- The last office of a path. -/
def M.lastS (P : List ByteArray) : ByteArray := P.getD (P.length - 1) ⟨#[]⟩
def M.homeOf (n : Nat) (NM : Nat → ByteArray) (RL : Nat → List (ByteArray × ByteArray)) (start c : ByteArray) : Option ByteArray :=
  if (M.routeP n NM RL start c).2 = 0 then some (M.lastS (M.routeP n NM RL start c).1) else none
theorem home_end {w : World} {f : Nat} {R : List ByteArray × Int} {v : Value} (hv : SRow w f v R.1) (h1 : 1 ≤ R.1.length) : ∃ b k, v = .slice (some ⟨b, 0, none⟩) R.1.length k ∧ w.cell? ⟨b, R.1.length - 1, none⟩ = some (.string (M.lastS R.1)) := by
  rcases hv.cases with ⟨_, hn⟩ | ⟨g, c, rfl, _, _⟩
  · rw [hn] at h1; exact absurd h1 (by decide)
  · refine ⟨g, c, rfl, ?_⟩
    rw [(hv.cellAt (R.1.length - 1) (by omega)).1]
    unfold M.lastS
    rw [List.getD_eq_getElem?_getD, List.getElem?_eq_getElem (by omega : R.1.length - 1 < R.1.length)]
    rfl
set_option maxHeartbeats 2000000 in
set_option maxRecDepth 100000 in
theorem spec_HomeOf (w : World) (a : Option Addr) (n cp : Nat) (NM : Nat → ByteArray) (RL : Nat → List (ByteArray × ByteArray)) (h : Nts w a n NM RL) (hf : NFits n NM RL) (hn : n ≤ 1048576) (hl : ∀ i, i < n → (RL i).length ≤ 1048576) (start c : ByteArray) (hc : c.size ≤ maxLen) :
    Calls Try.prog 28 #[.slice a n cp, .string start, .string c] w fun e w' => e = .returned (lkV (M.homeOf n NM RL start c)) ∧ Below w.heap.size w w' := by
  have HX := Lib.hid (spec_RoutePath w a n cp NM RL h hf hn hl start c hc)
  obtain ⟨hl1, hl2⟩ := M.routeP_len n NM RL start c
  have HD := Lib.hid (show M.homeOf n NM RL start c = if (M.routeP n NM RL start c).2 = 0 then some (M.lastS (M.routeP n NM RL start c).1) else none from rfl)
  obtain ⟨R, hR⟩ : ∃ R, M.routeP n NM RL start c = R := ⟨_, rfl⟩
  rw [hR] at HX hl1 hl2 HD
  clear h hf hl hc hR
  go_enter Try.func28, Try.ntmps28
  go_wp2_with fail
  refine HX.out.mono ?_
  rintro e w1 ⟨v, rfl, r1, hb1⟩
  by_cases h0 : R.2 = 0
  · obtain ⟨b, k, rfl, hc⟩ := home_end r1 (hl1 h0)
    have hlen := hl1 h0
    have HV : Hid (M.homeOf n NM RL start c = some (M.lastS R.1)) := by rw [Hid, HD.out, if_pos h0]
    obtain ⟨m, hm⟩ : ∃ m, R.1.length = m + 1 := ⟨R.1.length - 1, by omega⟩
    rw [hm, Nat.add_sub_cancel] at hc
    rw [hm] at hl2
    have h2 : (0 : Int) ≤ ((m + 1 : Nat) : Int) - 1 := by omega
    have h3 : (((m + 1 : Nat) : Int) - 1).toNat = m := by omega
    have h4 : ((m + 1 : Nat) : Int) - 1 = (m : Int) := by omega
    rw [h0, hm]
    have HH := Lib.hid hm
    clear h0 hm hl1 hlen r1 h4 HX
    go_wp2
    go_ret2
    exact ⟨by rw [HV.out]; rfl, hb1⟩
  · have HV : Hid (M.homeOf n NM RL start c = none) := by rw [Hid, HD.out, if_neg h0]
    have h1 : (R.2 != 0) = true := by unfold bne; rw [beq_eq_false_iff_ne.2 h0]; rfl
    have h2 : (R.2 == 0) = false := beq_eq_false_iff_ne.2 h0
    obtain ⟨x, hx⟩ : ∃ x, R.2 = x := ⟨_, rfl⟩
    rw [hx] at h1 h2 ⊢
    clear h0 hl1 hl2 hx
    go_wp2
    go_ret2
    exact ⟨by rw [HV.out]; rfl, hb1⟩
set_option maxHeartbeats 2000000 in
set_option maxRecDepth 100000 in
theorem impl_HomeOf (w : World) (a : Option Addr) (n cp : Nat) (NM : Nat → ByteArray) (RL : Nat → List (ByteArray × ByteArray)) (h : Nts w a n NM RL) (hf : NFits n NM RL) (hn : n ≤ 1048576) (start c : ByteArray) (hs : start.size ≤ maxLen) (hc : c.size ≤ maxLen) :
    Calls Try.prog 27 #[.slice a n cp, .string start, .string c] w fun e w' => e = .returned (lkV (M.homeOf n NM RL start c)) ∧ Below w.heap.size w w' := by
  have HX := Lib.hid (impl_RoutePath w a n cp NM RL h hf hn start c hs hc)
  obtain ⟨hl1, hl2⟩ := M.routeP_len n NM RL start c
  have HD := Lib.hid (show M.homeOf n NM RL start c = if (M.routeP n NM RL start c).2 = 0 then some (M.lastS (M.routeP n NM RL start c).1) else none from rfl)
  obtain ⟨R, hR⟩ : ∃ R, M.routeP n NM RL start c = R := ⟨_, rfl⟩
  rw [hR] at HX hl1 hl2 HD
  clear h hf hs hc hR
  go_enter Try.func27, Try.ntmps27
  go_wp2_with fail
  refine HX.out.mono ?_
  rintro e w1 ⟨v, rfl, r1, hb1⟩
  by_cases h0 : R.2 = 0
  · obtain ⟨b, k, rfl, hc⟩ := home_end r1 (hl1 h0)
    have hlen := hl1 h0
    have HV : Hid (M.homeOf n NM RL start c = some (M.lastS R.1)) := by rw [Hid, HD.out, if_pos h0]
    obtain ⟨m, hm⟩ : ∃ m, R.1.length = m + 1 := ⟨R.1.length - 1, by omega⟩
    rw [hm, Nat.add_sub_cancel] at hc
    rw [hm] at hl2
    have h2 : (0 : Int) ≤ ((m + 1 : Nat) : Int) - 1 := by omega
    have h3 : (((m + 1 : Nat) : Int) - 1).toNat = m := by omega
    have h4 : ((m + 1 : Nat) : Int) - 1 = (m : Int) := by omega
    rw [h0, hm]
    have HH := Lib.hid hm
    clear h0 hm hl1 hlen r1 h4 HX
    go_wp2
    go_ret2
    exact ⟨by rw [HV.out]; rfl, hb1⟩
  · have HV : Hid (M.homeOf n NM RL start c = none) := by rw [Hid, HD.out, if_neg h0]
    have h1 : (R.2 != 0) = true := by unfold bne; rw [beq_eq_false_iff_ne.2 h0]; rfl
    have h2 : (R.2 == 0) = false := beq_eq_false_iff_ne.2 h0
    obtain ⟨x, hx⟩ : ∃ x, R.2 = x := ⟨_, rfl⟩
    rw [hx] at h1 h2 ⊢
    clear h0 hl1 hl2 hx
    go_wp2
    go_ret2
    exact ⟨by rw [HV.out]; rfl, hb1⟩
end Go.Proofs.Ytabmbbnfpfkcaaa

/-
  Paths of letters as plain lists: how they end, and what is a path from each of their offices on.
-/
namespace Go.Proofs.Ytabmbbnfpfkcaaa
set_option linter.unusedVariables false

theorem M.lastS_snoc (P : List ByteArray) (x : ByteArray) : M.lastS (P ++ [x]) = x := by
  unfold M.lastS
  rw [List.length_append, show P.length + [x].length - 1 = P.length from by simp, List.getD_eq_getElem?_getD, List.getElem?_append_right (Nat.le_refl _), Nat.sub_self]
  rfl
theorem M.rt_home_last (nx : ByteArray → Option ByteArray) : ∀ (f : Nat) (P : List ByteArray) (x : ByteArray), (M.rt nx f P x).2 = 0 → nx (M.lastS (M.rt nx f P x).1) = some M.here
  | 0, P, x, h => by exact absurd (show (2 : Int) = 0 from h) (by decide)
  | f + 1, P, x, h => by
    cases hh : M.hasS x P
    · cases hn : nx x with
      | none => rw [M.rt_lost hh hn] at h; exact absurd (show (1 : Int) = 0 from h) (by decide)
      | some y =>
        by_cases hy : y = M.here
        · subst hy
          rw [M.rt_home hh hn, M.lastS_snoc]; exact hn
        · rw [M.rt_next hh hn hy] at h ⊢
          exact M.rt_home_last nx f _ _ h
    · rw [M.rt_loop hh] at h; exact absurd (show (2 : Int) = 0 from h) (by decide)
theorem M.homeOf_again {n : Nat} {NM : Nat → ByteArray} {RL : Nat → List (ByteArray × ByteArray)} {start c x : ByteArray} (h : M.homeOf n NM RL start c = some x) :
    (M.routeP n NM RL start c).2 = 0 ∧ x = M.lastS (M.routeP n NM RL start c).1 ∧ M.homeOf n NM RL x c = some x := by
  unfold M.homeOf at h
  split at h
  · rename_i h0
    injection h with h
    refine ⟨h0, h.symm, ?_⟩
    have hr : (M.routeOk n NM RL start && M.code c) = true := by
      cases hb : (M.routeOk n NM RL start && M.code c)
      · unfold M.routeP at h0
        rw [if_neg (by rw [hb]; decide)] at h0
        exact absurd (show (3 : Int) = 0 from h0) (by decide)
      · rfl
    have hp : M.routeP n NM RL start c = M.path NM RL n start c := by unfold M.routeP; rw [if_pos hr]
    rw [hp] at h0 h
    have hl := M.rt_home_last _ _ _ _ h0
    have hx : M.nxo NM RL n c x = some M.here := by rw [← h]; exact hl
    have hrk : 0 ≤ M.rankTo NM x n := by
      by_cases h1 : M.rankTo NM x n < 0
      · unfold M.nxo at hx; rw [if_pos h1] at hx; cases hx
      · omega
    rw [Bool.and_eq_true] at hr
    have ho : M.routeOk n NM RL x = true := by
      have := hr.1
      unfold M.routeOk at this ⊢
      rw [Bool.and_eq_true] at this ⊢
      exact ⟨this.1, decide_eq_true hrk⟩
    have hq : M.routeP n NM RL x c = ([x], 0) := by
      rw [M.routeP_yes ho hr.2]
      exact M.rt_home (P := []) rfl hx
    unfold M.homeOf
    rw [hq, if_pos rfl]
    exact congrArg some (M.lastS_snoc [] x)
  · cases h
theorem M.homeOf_none {n : Nat} {NM : Nat → ByteArray} {RL : Nat → List (ByteArray × ByteArray)} {start c : ByteArray} (h : M.homeOf n NM RL start c = none) : (M.routeP n NM RL start c).2 ≠ 0 := by
  unfold M.homeOf at h
  split at h
  · cases h
  · assumption
/-- A path goes on behind what was before it. -/
theorem M.rt_app (nx : ByteArray → Option ByteArray) : ∀ (f : Nat) (P : List ByteArray) (x : ByteArray), ∃ Q e, M.rt nx f P x = (P ++ x :: Q, e)
  | 0, P, x => ⟨[], 2, rfl⟩
  | f + 1, P, x => by
    cases hh : M.hasS x P
    · cases hn : nx x with
      | none => exact ⟨[], 1, M.rt_lost hh hn⟩
      | some y =>
        by_cases hy : y = M.here
        · subst hy; exact ⟨[], 0, M.rt_home hh hn⟩
        · obtain ⟨Q, e, h⟩ := M.rt_app nx f (P ++ [x]) y
          exact ⟨y :: Q, e, by rw [M.rt_next hh hn hy, h, List.append_assoc]; rfl⟩
    · exact ⟨[], 2, M.rt_loop hh⟩
/-- Each office sends to the next one. -/
theorem M.rt_chain (nx : ByteArray → Option ByteArray) : ∀ (f : Nat) (P : List ByteArray) (x : ByteArray) (Q : List ByteArray) (e : Int), M.rt nx f P x = (P ++ Q, e) →
    Q.getD 0 ⟨#[]⟩ = x ∧ ∀ i, i + 1 < Q.length → nx (Q.getD i ⟨#[]⟩) = some (Q.getD (i + 1) ⟨#[]⟩) ∧ Q.getD (i + 1) ⟨#[]⟩ ≠ M.here
  | 0, P, x, Q, e, h => by
    have : P ++ [x] = P ++ Q := by injection h
    have := List.append_cancel_left this
    subst this
    exact ⟨rfl, fun i hi => absurd hi (by simp)⟩
  | f + 1, P, x, Q, e, h => by
    have one : ∀ z : Int, (P ++ [x], z) = (P ++ Q, e) → Q.getD 0 ⟨#[]⟩ = x ∧ ∀ i, i + 1 < Q.length → nx (Q.getD i ⟨#[]⟩) = some (Q.getD (i + 1) ⟨#[]⟩) ∧ Q.getD (i + 1) ⟨#[]⟩ ≠ M.here := fun z h => by
      have : P ++ [x] = P ++ Q := by injection h
      have := List.append_cancel_left this
      subst this
      exact ⟨rfl, fun i hi => absurd hi (by simp)⟩
    cases hh : M.hasS x P
    · cases hn : nx x with
      | none => rw [M.rt_lost hh hn] at h; exact one _ h
      | some y =>
        by_cases hy : y = M.here
        · subst hy
          rw [M.rt_home hh hn] at h; exact one _ h
        · rw [M.rt_next hh hn hy] at h
          obtain ⟨Q', e', h'⟩ := M.rt_app nx f (P ++ [x]) y
          rw [h', List.append_assoc] at h
          have h2 : P ++ ([x] ++ y :: Q') = P ++ Q := by injection h
          have h3 := List.append_cancel_left h2
          subst h3
          obtain ⟨c0, c1⟩ := M.rt_chain nx f (P ++ [x]) y (y :: Q') e' h'
          refine ⟨rfl, fun i hi => ?_⟩
          match i, hi with
          | 0, _ => exact ⟨hn, hy⟩
          | i + 1, hi => exact c1 i (by simp at hi ⊢; omega)
    · rw [M.rt_loop hh] at h; exact one _ h
/-- A path that doesn't loop is the same behind fewer offices. -/
theorem M.rt_free (nx : ByteArray → Option ByteArray) : ∀ (f : Nat) (P : List ByteArray) (x : ByteArray) (Q : List ByteArray) (e : Int), M.rt nx f P x = (P ++ Q, e) → e ≠ 2 → ∀ (P' : List ByteArray) (f' : Nat), f ≤ f' → (∀ y, M.hasS y P = false → M.hasS y P' = false) → M.rt nx f' P' x = (P' ++ Q, e)
  | 0, P, x, Q, e, h, he, _, _, _, _ => by
    have : (2 : Int) = e := by injection h
    exact absurd this.symm he
  | f + 1, P, x, Q, e, h, he, P', f', hf, hs => by
    obtain ⟨g, rfl⟩ : ∃ g, f' = g + 1 := ⟨f' - 1, by omega⟩
    cases hh : M.hasS x P
    · have hh' := hs x hh
      cases hn : nx x with
      | none =>
        rw [M.rt_lost hh hn] at h
        injection h with h1 h2
        have := List.append_cancel_left h1
        subst this; subst h2
        exact M.rt_lost hh' hn
      | some y =>
        by_cases hy : y = M.here
        · subst hy
          rw [M.rt_home hh hn] at h
          injection h with h1 h2
          have := List.append_cancel_left h1
          subst this; subst h2
          exact M.rt_home hh' hn
        · rw [M.rt_next hh hn hy] at h
          rw [M.rt_next hh' hn hy]
          obtain ⟨Q', e', h'⟩ := M.rt_app nx f (P ++ [x]) y
          have h0 := h
          rw [h', List.append_assoc] at h0
          injection h0 with h1 h2
          have h3 := List.append_cancel_left h1
          subst h3; subst h2
          have := M.rt_free nx f (P ++ [x]) y (y :: Q') e' h' he (P' ++ [x]) g (by omega) (fun z hz => by
            cases hz' : M.hasS z (P' ++ [x])
            · rfl
            · exfalso
              have := M.hasS_iff.1 hz'
              rcases List.mem_append.1 this with h | h
              · have h5 := hs z (by
                  cases h6 : M.hasS z P
                  · rfl
                  · rw [M.hasS_more h6] at hz; cases hz)
                rw [M.hasS_iff.2 h] at h5; cases h5
              · have h7 : M.hasS z (P ++ [x]) = true := M.hasS_iff.2 (List.mem_append_right _ h)
                rw [h7] at hz; cases hz)
          rw [this, List.append_assoc]; first | done | rfl
    · rw [M.rt_loop hh] at h
      injection h with h1 h2
      exact absurd h2.symm he
theorem M.rt_rest (nx : ByteArray → Option ByteArray) (F : Nat) : ∀ (f : Nat), f ≤ F → ∀ (P : List ByteArray) (x : ByteArray) (Q : List ByteArray) (e : Int), M.rt nx f P x = (P ++ Q, e) → e ≠ 2 → ∀ k, k < Q.length → M.rt nx F [] (Q.getD k ⟨#[]⟩) = (Q.drop k, e)
  | 0, _, P, x, Q, e, h, he, _, _ => by
    have : (2 : Int) = e := by injection h
    exact absurd this.symm he
  | f + 1, hf, P, x, Q, e, h, he, k, hk => by
    match k, hk with
    | 0, _ =>
      have h0 := (M.rt_chain nx _ _ _ _ _ h).1
      rw [h0]
      exact M.rt_free nx _ P x Q e h he [] F hf (fun _ _ => rfl)
    | k + 1, hk =>
      cases hh : M.hasS x P
      · cases hn : nx x with
        | none =>
          rw [M.rt_lost hh hn] at h
          injection h with h1 h2
          have := List.append_cancel_left h1
          subst this
          exact absurd hk (by simp)
        | some y =>
          by_cases hy : y = M.here
          · subst hy
            rw [M.rt_home hh hn] at h
            injection h with h1 h2
            have := List.append_cancel_left h1
            subst this
            exact absurd hk (by simp)
          · rw [M.rt_next hh hn hy] at h
            obtain ⟨Q', e', h'⟩ := M.rt_app nx f (P ++ [x]) y
            rw [h', List.append_assoc] at h
            injection h with h1 h2
            have h3 := List.append_cancel_left h1
            subst h3; subst h2
            exact M.rt_rest nx F f (by omega) (P ++ [x]) y (y :: Q') e' h' he k (by simpa using hk)
      · rw [M.rt_loop hh] at h
        injection h with h1 h2
        exact absurd h2.symm he
/-- Letters from here on come to an end after d offices. -/
def M.tn (nx : ByteArray → Option ByteArray) : Nat → ByteArray → Prop
  | 0, x => nx x = none ∨ nx x = some M.here
  | d + 1, x => ∃ y, nx x = some y ∧ y ≠ M.here ∧ M.tn nx d y
theorem M.tn_one {nx : ByteArray → Option ByteArray} : ∀ {d d' : Nat} {x : ByteArray}, M.tn nx d x → M.tn nx d' x → d = d'
  | 0, 0, _, _, _ => rfl
  | 0, d' + 1, x, h, ⟨y, h1, h2, _⟩ => by
    rcases h with h | h
    · rw [h] at h1; cases h1
    · rw [h] at h1; injection h1 with h1; exact absurd h1.symm h2
  | d + 1, 0, x, ⟨y, h1, h2, _⟩, h => by
    rcases h with h | h
    · rw [h] at h1; cases h1
    · rw [h] at h1; injection h1 with h1; exact absurd h1.symm h2
  | d + 1, d' + 1, x, ⟨y, h1, _, h3⟩, ⟨z, k1, _, k3⟩ => by
    rw [h1] at k1
    injection k1 with k1
    subst k1
    exact congrArg (· + 1) (M.tn_one h3 k3)
theorem M.rt_tn (nx : ByteArray → Option ByteArray) : ∀ (f : Nat) (P : List ByteArray) (x : ByteArray), (M.rt nx f P x).2 ≠ 2 → ∃ d, M.tn nx d x
  | 0, P, x, h => absurd rfl h
  | f + 1, P, x, h => by
    cases hh : M.hasS x P
    · cases hn : nx x with
      | none => exact ⟨0, Or.inl hn⟩
      | some y =>
        by_cases hy : y = M.here
        · subst hy; exact ⟨0, Or.inr hn⟩
        · rw [M.rt_next hh hn hy] at h
          obtain ⟨d, hd⟩ := M.rt_tn nx f _ _ h
          exact ⟨d + 1, y, hn, hy, hd⟩
    · rw [M.rt_loop hh] at h; exact absurd rfl h
/-- A path of offices alone that loops ends in one that was there before; and it is not longer than the offices are many. -/
theorem M.rt_ends (NM : Nat → ByteArray) (n : Nat) (nx : ByteArray → Option ByteArray) (hnx : ∀ x y, nx x = some y → y ≠ M.here → ∃ i, i < n ∧ NM i = y) : ∀ (f : Nat) (P : List ByteArray) (x : ByteArray), (∃ i, i < n ∧ NM i = x) → (∀ y ∈ P, ∃ i, i < n ∧ NM i = y) → M.unv NM P n + 1 ≤ f →
    ((M.rt nx f P x).2 = 2 → ∃ R y, (M.rt nx f P x).1 = R ++ [y] ∧ y ∈ R) ∧ (∀ y ∈ (M.rt nx f P x).1, ∃ i, i < n ∧ NM i = y) ∧ (M.rt nx f P x).1.length ≤ P.length + M.unv NM P n + 1
  | 0, P, x, _, _, h => absurd h (by omega)
  | f + 1, P, x, hx, hP, h => by
    have hall : ∀ y ∈ P ++ [x], ∃ i, i < n ∧ NM i = y := fun y hy => by
      rcases List.mem_append.1 hy with hy | hy
      · exact hP y hy
      · rw [List.mem_singleton.1 hy]; exact hx
    have hl : (P ++ [x]).length = P.length + 1 := by simp
    cases hh : M.hasS x P
    · obtain ⟨i, hi, hix⟩ := hx
      have hu := M.unv_less (P := P) hi hix hh
      cases hn : nx x with
      | none => rw [M.rt_lost hh hn]; exact ⟨fun e => absurd (show (1 : Int) = 2 from e) (by decide), hall, by rw [hl]; omega⟩
      | some y =>
        by_cases hy : y = M.here
        · subst hy
          rw [M.rt_home hh hn]; exact ⟨fun e => absurd (show (0 : Int) = 2 from e) (by decide), hall, by rw [hl]; omega⟩
        · rw [M.rt_next hh hn hy]
          obtain ⟨h1, h2, h3⟩ := M.rt_ends NM n nx hnx f (P ++ [x]) y (hnx x y hn hy) hall (by omega)
          exact ⟨h1, h2, by rw [hl] at h3; omega⟩
    · rw [M.rt_loop hh]
      exact ⟨fun _ => ⟨P, x, rfl, M.hasS_iff.1 hh⟩, hall, by rw [hl]; omega⟩
theorem M.chain_down {nx : ByteArray → Option ByteArray} {Q : List ByteArray} (h : ∀ i, i + 1 < Q.length → nx (Q.getD i ⟨#[]⟩) = some (Q.getD (i + 1) ⟨#[]⟩) ∧ Q.getD (i + 1) ⟨#[]⟩ ≠ M.here) {k d : Nat} (hd : M.tn nx d (Q.getD k ⟨#[]⟩)) : ∀ j, j ≤ k → k < Q.length → M.tn nx (d + j) (Q.getD (k - j) ⟨#[]⟩)
  | 0, _, _ => hd
  | j + 1, hj, hk => by
    have ih := M.chain_down h hd j (by omega) hk
    obtain ⟨h1, h2⟩ := h (k - (j + 1)) (by omega)
    rw [show k - (j + 1) + 1 = k - j by omega] at h1 h2
    exact ⟨_, h1, h2, ih⟩
theorem M.chain_up {nx : ByteArray → Option ByteArray} {Q : List ByteArray} (h : ∀ i, i + 1 < Q.length → nx (Q.getD i ⟨#[]⟩) = some (Q.getD (i + 1) ⟨#[]⟩) ∧ Q.getD (i + 1) ⟨#[]⟩ ≠ M.here) {k d : Nat} (hd : M.tn nx d (Q.getD k ⟨#[]⟩)) : ∀ j, k + j < Q.length → j ≤ d ∧ M.tn nx (d - j) (Q.getD (k + j) ⟨#[]⟩)
  | 0, _ => ⟨Nat.zero_le _, hd⟩
  | j + 1, hj => by
    obtain ⟨ih1, ih2⟩ := M.chain_up h hd j (by omega)
    obtain ⟨h1, h2⟩ := h (k + j) (by omega)
    cases hq : d - j with
    | zero =>
      rw [hq] at ih2
      rcases ih2 with ih2 | ih2
      · rw [ih2] at h1; cases h1
      · rw [ih2] at h1; injection h1 with h1; exact absurd h1.symm h2
    | succ q =>
      rw [hq] at ih2
      obtain ⟨y, i1, _, i3⟩ := ih2
      rw [h1] at i1
      injection i1 with i1
      rw [← i1] at i3
      exact ⟨by omega, by rw [show d - (j + 1) = q by omega]; exact i3⟩
/-- From no office of a loop on letters come to an end. -/
theorem M.chain_loop {nx : ByteArray → Option ByteArray} {Q : List ByteArray} (h : ∀ i, i + 1 < Q.length → nx (Q.getD i ⟨#[]⟩) = some (Q.getD (i + 1) ⟨#[]⟩) ∧ Q.getD (i + 1) ⟨#[]⟩ ≠ M.here) {R : List ByteArray} {y : ByteArray} (hQ : Q = R ++ [y]) (hy : y ∈ R) {k d : Nat} (hk : k < Q.length) (hd : M.tn nx d (Q.getD k ⟨#[]⟩)) : False := by
  have hlen : Q.length = R.length + 1 := by rw [hQ]; simp
  have h0 := M.chain_down h hd k (Nat.le_refl _) hk
  rw [Nat.sub_self] at h0
  obtain ⟨i, hi, hiy⟩ := List.mem_iff_getElem.1 hy
  have h1 := (M.chain_up h h0 i (by omega))
  have h2 := (M.chain_up h h0 R.length (by omega))
  rw [Nat.zero_add] at h1 h2
  have e1 : Q.getD i ⟨#[]⟩ = y := by
    rw [hQ, List.getD_eq_getElem?_getD, List.getElem?_append_left hi, List.getElem?_eq_getElem hi, hiy]; rfl
  have e2 : Q.getD R.length ⟨#[]⟩ = y := by
    rw [hQ, List.getD_eq_getElem?_getD, List.getElem?_append_right (Nat.le_refl _), Nat.sub_self]; rfl
  rw [e1] at h1
  rw [e2] at h2
  have := M.tn_one h1.2 h2.2
  omega
theorem M.nxo_office {NM : Nat → ByteArray} {RL : Nat → List (ByteArray × ByteArray)} {n : Nat} {c x y : ByteArray} (hnet : M.net n NM RL = true) (h : M.nxo NM RL n c x = some y) (hy : y ≠ M.here) : ∃ i, i < n ∧ NM i = y := by
  have hrk : ¬ M.rankTo NM x n < 0 := fun h1 => by unfold M.nxo at h; rw [if_pos h1] at h; cases h
  obtain ⟨i, hi⟩ := Int.eq_ofNat_of_zero_le (show 0 ≤ M.rankTo NM x n by omega)
  rw [M.nxo_at hi] at h
  have hil : i < n := by have := (M.rank_bd NM x n).2; omega
  obtain ⟨_, h2⟩ := M.nxo_is hnet hil h
  rcases (M.leads_iff).1 h2 with h3 | h3
  · exact absurd h3 hy
  · exact h3
/-- What a path is, in full. -/
theorem M.route_law {NM : Nat → ByteArray} {RL : Nat → List (ByteArray × ByteArray)} {n : Nat} {start c : ByteArray} (ho : M.routeOk n NM RL start = true) (hc : M.code c = true) :
    (M.routeP n NM RL start c).2 ≠ 3 ∧ 1 ≤ (M.routeP n NM RL start c).1.length ∧ (M.routeP n NM RL start c).1.length ≤ n + 1 ∧ (∀ y ∈ (M.routeP n NM RL start c).1, ∃ i, i < n ∧ NM i = y) ∧
    ∀ k, k < (M.routeP n NM RL start c).1.length → (M.routeP n NM RL ((M.routeP n NM RL start c).1.getD k ⟨#[]⟩) c).2 = (M.routeP n NM RL start c).2 ∧ ((M.routeP n NM RL start c).2 ≠ 2 → (M.routeP n NM RL ((M.routeP n NM RL start c).1.getD k ⟨#[]⟩) c).1 = (M.routeP n NM RL start c).1.drop k) := by
  rw [M.routeP_yes ho hc]
  have ho2 := ho
  unfold M.routeOk at ho2
  rw [Bool.and_eq_true, decide_eq_true_eq] at ho2
  obtain ⟨hnet, hrk⟩ := ho2
  obtain ⟨i, hi⟩ := Int.eq_ofNat_of_zero_le hrk
  have hx : ∃ i, i < n ∧ NM i = start := ⟨i, rank_is hi⟩
  have hnx : ∀ x y, M.nxo NM RL n c x = some y → y ≠ M.here → ∃ i, i < n ∧ NM i = y := fun x y h hy => M.nxo_office hnet h hy
  have hE := M.rt_ends NM n _ hnx (n + 1) [] start hx (fun y h => by cases h) (by rw [M.unv_nil]; exact Nat.le_refl _)
  rw [M.unv_nil] at hE
  obtain ⟨Q, e, hQ⟩ := M.rt_app (M.nxo NM RL n c) (n + 1) [] start
  have hP : M.path NM RL n start c = (start :: Q, e) := hQ
  have hC := (M.rt_chain _ _ _ _ _ _ hQ).2
  rw [hQ] at hE
  obtain ⟨hE1, hE2, hE3⟩ := hE
  rw [hP]
  have he3 : e ≠ 3 := by
    have : ∀ (f : Nat) (P : List ByteArray) (x : ByteArray), (M.rt (M.nxo NM RL n c) f P x).2 ≠ 3 := by
      intro f
      induction f with
      | zero => intro P x h; exact absurd (show (2 : Int) = 3 from h) (by decide)
      | succ f ih =>
        intro P x h
        cases hh : M.hasS x P
        · cases hn : M.nxo NM RL n c x with
          | none => rw [M.rt_lost hh hn] at h; exact absurd (show (1 : Int) = 3 from h) (by decide)
          | some y =>
            by_cases hy : y = M.here
            · subst hy
              rw [M.rt_home hh hn] at h; exact absurd (show (0 : Int) = 3 from h) (by decide)
            · rw [M.rt_next hh hn hy] at h; exact ih _ _ h
        · rw [M.rt_loop hh] at h; exact absurd (show (2 : Int) = 3 from h) (by decide)
    have h3 := this (n + 1) [] start
    rw [hQ] at h3
    exact h3
  refine ⟨he3, by simp, by simpa using hE3, hE2, fun k hk => ?_⟩
  have hko : ∃ i, i < n ∧ NM i = (start :: Q).getD k ⟨#[]⟩ := by
    rw [List.getD_eq_getElem?_getD, List.getElem?_eq_getElem hk]
    exact hE2 _ (List.getElem_mem hk)
  have hok : M.routeOk n NM RL ((start :: Q).getD k ⟨#[]⟩) = true := by
    obtain ⟨j, hj, hjx⟩ := hko
    unfold M.routeOk
    rw [hnet, Bool.true_and]
    refine decide_eq_true ?_
    have h1 := (M.rank_bd NM ((start :: Q).getD k ⟨#[]⟩) n).1
    by_cases h2 : M.rankTo NM ((start :: Q).getD k ⟨#[]⟩) n < 0
    · exact absurd hjx (M.rank_none (by omega) j hj)
    · omega
  rw [M.routeP_yes hok hc]
  show (M.rt _ _ _ _).2 = e ∧ (e ≠ 2 → (M.rt _ _ _ _).1 = _)
  by_cases he : e = 2
  · refine ⟨?_, fun h => absurd he h⟩
    obtain ⟨R, y, hR, hy⟩ := hE1 he
    by_cases h2 : (M.rt (M.nxo NM RL n c) (n + 1) [] ((start :: Q).getD k ⟨#[]⟩)).2 = 2
    · rw [he]; exact h2
    · obtain ⟨d, hd⟩ := M.rt_tn _ _ _ _ h2
      exact (M.chain_loop hC hR hy hk hd).elim
  · have := M.rt_rest (M.nxo NM RL n c) (n + 1) (n + 1) (Nat.le_refl _) [] start (start :: Q) e hQ he k hk
    rw [this]
    exact ⟨rfl, fun _ => rfl⟩
end Go.Proofs.Ytabmbbnfpfkcaaa
