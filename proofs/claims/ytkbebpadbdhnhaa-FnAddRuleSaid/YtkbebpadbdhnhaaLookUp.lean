/-
  The trie of valid rules, and what LookUp returns, in the program.
-/
import Derived.Test.YtkbebpadbdhnhaaTrie3
namespace Go.Proofs.Ytkbebpadbdhnhaa
open Go.RowKit Go.Lib
open Go.PlainAid (bt get_bt bt_nonneg bt_le)
set_option linter.unusedVariables false

theorem M.rul_digs {F T : Nat → ByteArray} {n : Nat} (h : M.rul n F T = true) : n ≤ 20 ∧ ∀ i, i < n → M.digs (F i) = true := by
  obtain ⟨h1, h2⟩ := M.rul_yes h
  exact ⟨h1, fun i hi => (M.prefix_digs (h2 i hi).1).1⟩
set_option maxHeartbeats 1000000 in
theorem impl_trieOf_no (w : World) (a : Option Addr) (n c : Nat) (F T : Nat → ByteArray) (h : Fws w a n F T) (hf : FFits n F T) (hr : M.rul n F T = false) :
    Calls Try.prog 32 #[.slice a n c] w fun e w' => e = .returned (.pointer none) ∧ Below w.heap.size w w' := by
  have HV := Lib.hid (impl_RulesValid w a n c F T h hf)
  rw [hr] at HV
  clear h hf hr
  go_enter Try.func32, Try.ntmps32
  go_wp2_with (go_at_call 11; refine HV.out.mono ?_; rintro e w1 ⟨rfl, hb1⟩)
  go_ret
  exact ⟨rfl, hb1⟩
set_option maxHeartbeats 1000000 in
theorem impl_trieOf_yes (w : World) (a : Option Addr) (n c : Nat) (F T : Nat → ByteArray) (h : Fws w a n F T) (hf : FFits n F T) (hr : M.rul n F T = true) :
    Calls Try.prog 32 #[.slice a n c] w fun e w' => ∃ r, e = .returned (.pointer (some ⟨r, 0, none⟩)) ∧ TrieOf w' w.heap.size r n F T ∧ Below w.heap.size w w' := by
  have HV := Lib.hid (impl_RulesValid w a n c F T h hf)
  obtain ⟨h20, hd⟩ := M.rul_digs hr
  have HA := Lib.hid (fun W (hb : Below w.heap.size w W) => impl_trieOfAll W a n c F T (h.on hb) hd (by omega))
  rw [hr] at HV
  clear h hf hr hd
  go_enter Try.func32, Try.ntmps32
  go_wp2_with (first
    | (go_at_call 11; refine HV.out.mono ?_; rintro e w1 ⟨rfl, hb1⟩)
    | (go_at_call 42; refine (HA.out _ hb1).mono ?_; rintro e w2 ⟨r, rfl, ht, hb2⟩))
  go_ret
  refine ⟨r, rfl, ?_, sstep hb1 hb2⟩
  obtain ⟨nd, rl, h1, h2⟩ := ht
  exact ⟨nd, rl, h1.lower hb1.size, h2⟩
set_option maxHeartbeats 1000000 in
set_option maxRecDepth 100000 in
theorem impl_LookUp (w : World) (a : Option Addr) (n cap : Nat) (F T : Nat → ByteArray) (h : Fws w a n F T) (hf : FFits n F T) (c : ByteArray) (hc : c.size ≤ maxLen) :
    Calls Try.prog 20 #[.slice a n cap, .string c] w fun e w' => e = .returned (lkV (M.lookUp F T n c)) ∧ Below w.heap.size w w' := by
  cases hr : M.rul n F T
  · have HV := Lib.hid (impl_trieOf_no w a n cap F T h hf hr)
    have HE := Lib.hid (M.lookUp_no (c := c) hr)
    clear h hf hr hc
    go_enter Try.func20, Try.ntmps20
    go_wp2_with (go_at_call 32; refine HV.out.mono ?_; rintro e w1 ⟨rfl, hb1⟩)
    go_ret2
    exact ⟨by rw [HE.out]; rfl, hb1⟩
  · have HV := Lib.hid (impl_trieOf_yes w a n cap F T h hf hr)
    have HC := Lib.hid (fun W => impl_CodeValid c W hc)
    clear h hf hc
    cases hcv : M.code c
    · have HE := Lib.hid (M.lookUp_bad (P := F) (N := T) (n := n) hcv)
      rw [hcv] at HC
      clear hr hcv
      go_enter Try.func20, Try.ntmps20
      go_wp2_with (first
        | (go_at_call 32; refine HV.out.mono ?_; rintro e w1 ⟨r, rfl, ht, hb1⟩)
        | (go_at_call 33; refine (HC.out _).mono ?_; rintro e w2 ⟨rfl, hi⟩))
      go_ret2
      exact ⟨by rw [HE.out]; rfl, sstep hb1 hi.below⟩
    · have HE := Lib.hid (M.lookUp_yes hr hcv)
      have HD := Lib.hid (M.code_yes hcv).1
      rw [hcv] at HC
      clear hr hcv
      go_enter Try.func20, Try.ntmps20
      go_wp2_with fail
      refine HV.out.mono ?_
      rintro e w1 ⟨r, rfl, ht, hb1⟩
      go_wp2_with fail
      refine (HC.out _).mono ?_
      rintro e w2 ⟨rfl, hi⟩
      have hb2 := hi.below
      obtain ⟨nd, rl, h1, h2, h3⟩ := ht.on hb2
      have HX := Lib.hid (node_lookUp w2 _ nd rl h1 r h2 c HD.out)
      have HRL : Hid (rlV rl c = M.lookUp F T n c) := by rw [Hid, HE.out]; exact M.look_congr h3 _
      have HB := Lib.hid (sstep hb1 hb2)
      clear hi hb2 hb1 ht h1 h2 h3
      go_wp2_with fail
      refine HX.out.mono ?_
      rw [HRL.out]
      rintro e w3 ⟨rfl, hb3⟩
      obtain ⟨s, y, hsy⟩ := lk_form (M.lookUp F T n c)
      rw [hsy]
      have HSY := Lib.hid hsy
      clear hsy
      go_wp2
      go_ret2
      exact ⟨congrArg Ending.returned HSY.out.symm, sstep HB.out hb3⟩
end Go.Proofs.Ytkbebpadbdhnhaa
