/-
  RoutePath and HomeOf, in the program and in the model of the document.
-/
import Derived.Test.YtiecniogkcgefaaRoute
namespace Go.Proofs.Ytiecniogkcgefaa
open Go.RowKit Go.Maps
open Go.PlainAid (bt get_bt bt_nonneg bt_le)
set_option linter.unusedVariables false

theorem M.rt_len (nx : ByteArray → Option ByteArray) : ∀ (f : Nat) (P : List ByteArray) (x : ByteArray), 1 ≤ (M.rt nx f P x).1.length ∧ (M.rt nx f P x).1.length ≤ P.length + f + 1
  | 0, P, x => by
    show 1 ≤ (P ++ [x]).length ∧ _
    rw [List.length_append]
    exact ⟨Nat.le_add_left _ _, by show (P ++ [x]).length ≤ _; rw [List.length_append]; exact Nat.le_refl _⟩
  | f + 1, P, x => by
    have hl : (P ++ [x]).length = P.length + 1 := by simp
    cases hh : M.hasS x P
    · cases hn : nx x with
      | none => rw [M.rt_lost hh hn]; constructor <;> (show _ ≤ _; simp only []; omega)
      | some y =>
        by_cases hy : y = M.here
        · subst hy
          rw [M.rt_home hh hn]; constructor <;> (show _ ≤ _; simp only []; omega)
        · rw [M.rt_next hh hn hy]
          have := M.rt_len nx f (P ++ [x]) y
          rw [hl] at this
          exact ⟨this.1, by omega⟩
    · rw [M.rt_loop hh]; constructor <;> (show _ ≤ _; simp only []; omega)
theorem M.path_len (NM : Nat → ByteArray) (RL : Nat → List (ByteArray × ByteArray)) (n : Nat) (start c : ByteArray) : 1 ≤ (M.path NM RL n start c).1.length ∧ (M.path NM RL n start c).1.length ≤ n + 2 := by
  have := M.rt_len (M.nxo NM RL n c) (n + 1) [] start
  simp at this
  exact ⟨this.1, this.2⟩
theorem M.routeP_len (n : Nat) (NM : Nat → ByteArray) (RL : Nat → List (ByteArray × ByteArray)) (start c : ByteArray) : ((M.routeP n NM RL start c).2 = 0 → 1 ≤ (M.routeP n NM RL start c).1.length) ∧ (M.routeP n NM RL start c).1.length ≤ n + 2 := by
  unfold M.routeP
  split
  · have := M.path_len NM RL n start c
    exact ⟨fun _ => this.1, this.2⟩
  · exact ⟨fun h => absurd h (by decide), Nat.zero_le _⟩
theorem M.routeP_len20 (n : Nat) (NM : Nat → ByteArray) (RL : Nat → List (ByteArray × ByteArray)) (start c : ByteArray) : (M.routeP n NM RL start c).1.length ≤ 20 := by
  unfold M.routeP
  split
  · rename_i h
    rw [Bool.and_eq_true] at h
    have h2 := h.1
    unfold M.routeOk at h2
    rw [Bool.and_eq_true] at h2
    have := (M.net_yes h2.1).1.2
    have := (M.path_len NM RL n start c).2
    omega
  · exact Nat.zero_le _
theorem M.routeOk_no {n : Nat} {NM : Nat → ByteArray} {RL : Nat → List (ByteArray × ByteArray)} {start : ByteArray} (h : M.net n NM RL = false ∨ M.rankTo NM start n = -1) : M.routeOk n NM RL start = false := by
  unfold M.routeOk
  rcases h with h | h
  · rw [h, Bool.false_and]
  · rw [h, Bool.and_eq_false_iff]; exact Or.inr rfl
theorem M.routeOk_yes {n : Nat} {NM : Nat → ByteArray} {RL : Nat → List (ByteArray × ByteArray)} {start : ByteArray} {i : Nat} (h : M.net n NM RL = true) (h2 : M.rankTo NM start n = (i : Int)) : M.routeOk n NM RL start = true := by
  unfold M.routeOk
  rw [h, h2, Bool.true_and]; exact decide_eq_true (by omega)
theorem nil_table (w : World) (c : ByteArray) (hc : c.size ≤ maxLen) : (Instr.lookup 89 (.map none) (.string c) false).run Try.prog w = .ok (.pointer none) w := by kernel_rfl

set_option maxHeartbeats 2000000 in
set_option maxRecDepth 100000 in
theorem spec_RoutePath (w : World) (a : Option Addr) (n cp : Nat) (NM : Nat → ByteArray) (RL : Nat → List (ByteArray × ByteArray)) (h : Nts w a n NM RL) (hf : NFits n NM RL) (hn : n ≤ 1048576) (hl : ∀ i, i < n → (RL i).length ≤ 1048576) (start c : ByteArray) (hc : c.size ≤ maxLen) :
    Calls Try.prog 32 #[.slice a n cp, .string start, .string c] w (PathOut w (M.routeP n NM RL start c)) := by
  have HV := Lib.hid (spec_NetworkValid w a n cp NM RL h hf hn hl)
  have HO := Lib.hid (spec_l6Office w a n cp NM RL h hn start)
  have HC := Lib.hid (spec_CodeValid c w hc)
  have HP := Lib.hid (fun hnet hs hd => spec_l6Path w a n cp NM RL h hf hnet start c hs hd)
  have E0 := Lib.hid (sone_empty w)
  have B0 := Lib.hid (below_alloc0 w (.cells #[] 9))
  clear h hf hl hc
  go_enter Try.func32, Try.ntmps32
  cases hnet : M.net n NM RL
  · have HE := Lib.hid (M.routeP_no (c := c) (Or.inl (M.routeOk_no (start := start) (Or.inl hnet))))
    rw [hnet] at HV
    clear hnet
    go_wp2_with (go_at_call 28; refine HV.out.mono ?_; rintro e w1 ⟨rfl, rfl⟩)
    go_ret2
    exact PathOut.mk HE.out E0.out B0.out
  rw [hnet] at HV
  have HN := Lib.hid hnet
  clear hnet
  rcases M.rankC NM start n with ⟨hr, _⟩ | ⟨i, _, _, _, hr⟩
  · have HE := Lib.hid (M.routeP_no (n := n) (NM := NM) (RL := RL) (c := c) (Or.inl (M.routeOk_no (Or.inr hr))))
    rw [hr] at HO
    clear hr
    go_wp2_with (first
      | (go_at_call 28; refine HV.out.mono ?_; rintro e w1 ⟨rfl, rfl⟩)
      | (go_at_call 66; refine HO.out.mono ?_; rintro e w1 ⟨rfl, rfl⟩))
    go_ret2
    exact PathOut.mk HE.out E0.out B0.out
  have HR := Lib.hid hr
  rw [hr] at HO
  clear hr
  cases hcv : M.code c
  · have HE := Lib.hid (M.routeP_no (n := n) (NM := NM) (RL := RL) (start := start) (Or.inr hcv))
    rw [hcv] at HC
    clear hcv
    go_wp2_with (first
      | (go_at_call 28; refine HV.out.mono ?_; rintro e w1 ⟨rfl, rfl⟩)
      | (go_at_call 66; refine HO.out.mono ?_; rintro e w1 ⟨rfl, rfl⟩)
      | (go_at_call 53; refine HC.out.mono ?_; rintro e w1 ⟨rfl, rfl⟩))
    go_ret2
    exact PathOut.mk HE.out E0.out B0.out
  · have HE := Lib.hid (M.routeP_yes (M.routeOk_yes (RL := RL) HN.out HR.out) hcv)
    have HP2 := Lib.hid (HP.out HN.out (by rw [HR.out]; omega) (M.code_yes hcv).1)
    rw [hcv] at HC
    clear hcv HP
    go_wp2_with (first
      | (go_at_call 28; refine HV.out.mono ?_; rintro e w1 ⟨rfl, rfl⟩)
      | (go_at_call 66; refine HO.out.mono ?_; rintro e w1 ⟨rfl, rfl⟩)
      | (go_at_call 53; refine HC.out.mono ?_; rintro e w1 ⟨rfl, rfl⟩)
      | (go_at_call 72; refine HP2.out.mono ?_; rintro e w1 ⟨v, rfl, r1, hb1⟩))
    go_ret2
    refine ⟨v, by rw [HE.out]; rfl, by rw [HE.out]; exact r1, hb1⟩

set_option maxHeartbeats 2000000 in
set_option maxRecDepth 100000 in
theorem impl_RoutePath (w : World) (a : Option Addr) (n cp : Nat) (NM : Nat → ByteArray) (RL : Nat → List (ByteArray × ByteArray)) (h : Nts w a n NM RL) (hf : NFits n NM RL) (hn : n ≤ 1048576) (start c : ByteArray) (hs : start.size ≤ maxLen) (hc : c.size ≤ maxLen) :
    Calls Try.prog 33 #[.slice a n cp, .string start, .string c] w (PathOut w (M.routeP n NM RL start c)) := by
  have HF := Lib.hid hf
  have HC := Lib.hid (fun W => impl_CodeValid c W hc)
  go_enter Try.func33, Try.ntmps33
  cases hnet : M.net n NM RL
  · have HE := Lib.hid (M.routeP_no (c := c) (Or.inl (M.routeOk_no (start := start) (Or.inl hnet))))
    have HV := Lib.hid (impl_tableOf_no w a n cp NM RL h hf hn hnet)
    have hnil := fun W => nil_table W start hs
    clear hnet h hf hs hc
    go_wp2_with (go_at_call 73; refine HV.out.mono ?_; rintro e w1 ⟨rfl, hb1⟩)
    go_ret2
    exact PathOut.mk HE.out (SRow.nil _ _) hb1
  have HV := Lib.hid (impl_tableOf_yes w a n cp NM RL h hf hn hnet)
  have HN := Lib.hid hnet
  have HS := Lib.hid hs
  clear hnet h hf hs hc
  go_wp2_with fail
  refine HV.out.mono ?_
  rintro e w1 ⟨g, R, rfl, ht, hb1⟩
  have HT := Lib.hid ht
  rcases M.rankC NM start n with ⟨hr, hno⟩ | ⟨i, hi, hie, _, hr⟩
  · have HE := Lib.hid (M.routeP_no (n := n) (NM := NM) (RL := RL) (c := c) (Or.inl (M.routeOk_no (Or.inr hr))))
    have hlk := ht.miss hno HS.out
    clear hr hno ht
    go_wp2
    go_ret2
    exact PathOut.mk HE.out (SRow.nil _ _) hb1
  have HR := Lib.hid hr
  have hlk := ht.look hi (HF.out i hi).1
  rw [hie] at hlk
  clear hr hie ht
  cases hcv : M.code c
  · have HE := Lib.hid (M.routeP_no (n := n) (NM := NM) (RL := RL) (start := start) (Or.inr hcv))
    rw [hcv] at HC
    clear hcv
    go_wp2_with (go_at_call 56; refine (HC.out _).mono ?_; rintro e w2 ⟨rfl, hi2⟩)
    go_ret2
    exact PathOut.mk HE.out (SRow.nil _ _) (sstep hb1 hi2.below)
  · have HE := Lib.hid (M.routeP_yes (M.routeOk_yes (RL := RL) HN.out HR.out) hcv)
    have HD := Lib.hid (M.code_yes hcv).1
    rw [hcv] at HC
    clear hcv
    go_wp2_with fail
    refine (HC.out _).mono ?_
    rintro e w2 ⟨rfl, hi2⟩
    have B2 := Lib.hid (sstep hb1 hi2.below)
    have HRT := Lib.hid (impl_route w2 w.heap.size g n NM RL R (HT.out.on hi2.below) HF.out HN.out start c (by rw [HR.out]; omega) HD.out)
    clear hi2 hlk
    go_wp2_with fail
    refine HRT.out.mono ?_
    rintro e w3 ⟨v, rfl, r3, hb3⟩
    go_wp2
    go_ret2
    exact ⟨v, by rw [HE.out]; rfl, by rw [HE.out]; exact SRow.base r3 B2.out.size, sstep B2.out hb3⟩
end Go.Proofs.Ytiecniogkcgefaa
