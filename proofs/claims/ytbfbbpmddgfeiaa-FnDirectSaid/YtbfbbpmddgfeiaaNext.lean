/-
  The next code, the end of a chain, and the longest chain: program and model.
-/
import Derived.Test.YtbfbbpmddgfeiaaRes
namespace Go.Proofs.Ytbfbbpmddgfeiaa
open Go.RowKit Go.Maps
open Go.PlainAid (bt get_bt bt_nonneg bt_le)
set_option linter.unusedVariables false

def nxV : Option ByteArray → Value
  | none => .tuple #[.string ⟨#[]⟩, .bool false]
  | some d => .tuple #[.string d, .bool true]
def M.nextCode (F T : Nat → ByteArray) (n : Nat) (c : ByteArray) : Option ByteArray := if M.fwd n F T then M.nextOf F T n c else none
def M.resCode (F T : Nat → ByteArray) (n : Nat) (c : ByteArray) : Option (ByteArray × Nat) := if M.fwd n F T && M.code c then M.res F T n c else none
theorem M.nextCode_no {F T : Nat → ByteArray} {n : Nat} {c : ByteArray} (h : M.fwd n F T = false) : M.nextCode F T n c = none := by unfold M.nextCode; rw [h]; rfl
theorem M.nextCode_yes {F T : Nat → ByteArray} {n : Nat} {c : ByteArray} (h : M.fwd n F T = true) : M.nextCode F T n c = M.nextOf F T n c := by unfold M.nextCode; rw [h]; rfl
theorem M.resCode_no {F T : Nat → ByteArray} {n : Nat} {c : ByteArray} (h : M.fwd n F T = false) : M.resCode F T n c = none := by unfold M.resCode; rw [h]; rfl
theorem M.resCode_bad {F T : Nat → ByteArray} {n : Nat} {c : ByteArray} (h : M.code c = false) : M.resCode F T n c = none := by unfold M.resCode; rw [h, Bool.and_false]; rfl
theorem M.resCode_yes {F T : Nat → ByteArray} {n : Nat} {c : ByteArray} (h : M.fwd n F T = true) (hc : M.code c = true) : M.resCode F T n c = M.res F T n c := by unfold M.resCode; rw [h, hc]; rfl
theorem look_nil (w : World) (c : ByteArray) (hc : c.size ≤ maxLen) : (Instr.lookup 67 (.map none) (.string c) false).run Try.prog w = .ok (.pointer none) w := by kernel_rfl

set_option maxHeartbeats 1000000 in
theorem spec_NextCode (w : World) (a : Option Addr) (n cap : Nat) (F T : Nat → ByteArray) (h : Fws w a n F T) (hf : FFits n F T) (hn : n ≤ 1048576) (c : ByteArray) :
    Calls Try.prog 17 #[.slice a n cap, .string c] w fun e w' => e = .returned (nxV (M.nextCode F T n c)) ∧ w = w' := by
  have HL := Lib.hid h
  have HX := Lib.hid (spec_l4Index w a n cap F T h hn c)
  have HV := Lib.hid (spec_ForwardsValid w a n cap F T h hf hn)
  clear h hf
  go_enter Try.func17, Try.ntmps17
  go_wp2_with fail
  refine HX.out.mono ?_
  rintro e w1 ⟨rfl, rfl⟩
  cases hok : M.fwd n F T
  · have hv := Lib.hid (M.nextCode_no (c := c) hok)
    rw [hok] at HV
    clear hok
    go_wp2_with fail
    refine HV.out.mono ?_
    rintro e w1 ⟨rfl, rfl⟩
    go_wp2
    go_ret2
    exact ⟨by rw [hv.out]; rfl, rfl⟩
  · rcases M.rank_cases F c n with ⟨hr, _⟩ | ⟨j, hj, hFj, hno, hr⟩
    · have hv : Hid (M.nextCode F T n c = none) := (M.nextCode_yes hok).trans (M.nextOf_none (by omega))
      rw [hok] at HV
      rw [hr]
      clear hok hr
      go_wp2_with fail
      refine HV.out.mono ?_
      rintro e w1 ⟨rfl, rfl⟩
      go_wp2
      go_ret2
      exact ⟨by rw [hv.out]; rfl, rfl⟩
    · have hv : Hid (M.nextCode F T n c = some (T j)) := (M.nextCode_yes hok).trans (M.nextOf_some hr)
      obtain ⟨b, o, rfl, c0, c1⟩ := HL.out j hj
      rw [hok] at HV
      rw [hr]
      clear hok hr hFj hno
      go_wp2_with fail
      refine HV.out.mono ?_
      rintro e w1 ⟨rfl, rfl⟩
      go_wp2
      go_ret2
      exact ⟨by rw [hv.out]; rfl, rfl⟩

set_option maxHeartbeats 1000000 in
theorem spec_ResolveCode (w : World) (a : Option Addr) (n cap : Nat) (F T : Nat → ByteArray) (h : Fws w a n F T) (hf : FFits n F T) (hn : n ≤ 1048576) (c : ByteArray) (hc : c.size ≤ maxLen) :
    Calls Try.prog 21 #[.slice a n cap, .string c] w fun e w' => e = .returned (resV (M.resCode F T n c)) ∧ w = w' := by
  have HL := Lib.hid h
  have HV := Lib.hid (spec_ForwardsValid w a n cap F T h hf hn)
  clear h hf
  go_enter Try.func21, Try.ntmps21
  cases hok : M.fwd n F T
  · have hv := Lib.hid (M.resCode_no (c := c) hok)
    rw [hok] at HV
    clear hok
    go_wp2_with fail
    refine HV.out.mono ?_
    rintro e w1 ⟨rfl, rfl⟩
    go_wp2
    go_ret3
    exact ⟨by rw [hv.out]; rfl, rfl⟩
  · cases hcc : M.code c
    · have hv := Lib.hid (M.resCode_bad (F := F) (T := T) (n := n) hcc)
      rw [hok] at HV
      clear hok
      go_wp2_with fail
      refine HV.out.mono ?_
      rintro e w1 ⟨rfl, rfl⟩
      go_wp2_with fail
      refine (spec_CodeValid _ _ hc).mono ?_
      rw [hcc]
      rintro e w1 ⟨rfl, rfl⟩
      go_wp2
      go_ret3
      exact ⟨by rw [hv.out]; rfl, rfl⟩
    · have hv := Lib.hid (M.resCode_yes hok hcc)
      rw [hok] at HV
      clear hok
      go_wp2_with fail
      refine HV.out.mono ?_
      rintro e w1 ⟨rfl, rfl⟩
      go_wp2_with fail
      refine (spec_CodeValid _ _ hc).mono ?_
      rw [hcc]
      rintro e w1 ⟨rfl, rfl⟩
      go_wp2_with fail
      refine (spec_l4Resolve _ _ _ _ _ _ HL.out hn c).mono ?_
      rw [← hv.out]
      obtain ⟨r, hr⟩ : ∃ r, M.resCode F T n c = r := ⟨_, rfl⟩
      rw [hr]
      cases r with
      | none =>
        simp only [resV]
        rintro e w1 ⟨rfl, rfl⟩
        go_wp2
        go_ret3
        exact ⟨by rw [hr]; rfl, rfl⟩
      | some p =>
        simp only [resV]
        rintro e w1 ⟨rfl, rfl⟩
        go_wp2
        go_ret3
        exact ⟨by rw [hr]; rfl, rfl⟩

set_option maxHeartbeats 1000000 in
set_option maxRecDepth 100000 in
theorem impl_NextCode (w : World) (a : Option Addr) (n cap : Nat) (F T : Nat → ByteArray) (h : Fws w a n F T) (hf : FFits n F T) (c : ByteArray) (hc : c.size ≤ maxLen) :
    Calls Try.prog 16 #[.slice a n cap, .string c] w fun e w' => e = .returned (nxV (M.nextCode F T n c)) ∧ Below w.heap.size w w' := by
  have HL := Lib.hid h
  have HF := Lib.hid hf
  clear h hf
  go_enter Try.func16, Try.ntmps16
  cases hok : M.fwd n F T
  · have hv := Lib.hid (M.nextCode_no (c := c) hok)
    go_wp2_with fail
    refine (bookOf_no _ _ _ _ _ _ HL.out HF.out hok).mono ?_
    rintro e w1 ⟨rfl, hb1⟩
    have hl := look_nil w1 c hc
    go_wp2
    go_ret2
    exact ⟨by rw [hv.out]; rfl, hb1⟩
  · have hv := Lib.hid (M.nextCode_yes (c := c) hok)
    go_wp2_with fail
    refine (bookOf_yes _ _ _ _ _ _ HL.out HF.out hok).mono ?_
    rintro e w1 ⟨g, m, f, rfl, hm, hB, hb1⟩
    have hl := hB.look hc
    cases hfc : f c with
    | none =>
      rw [hfc] at hl
      simp only [ptrOf] at hl
      have hno : Hid (M.nextCode F T n c = none) := by
        rw [Hid, hv.out]
        cases e : M.nextOf F T n c with
        | none => rfl
        | some d => have := (hB.2.2.2 c d e).1; rw [hfc] at this; cases this
      clear hB hfc
      go_wp2
      go_ret2
      exact ⟨by rw [hno.out]; rfl, hb1⟩
    | some b =>
      rw [hfc] at hl
      simp only [ptrOf] at hl
      cases hx : M.nextOf F T n c with
      | none =>
        have hl2 := hB.last hfc hx
        have hno : Hid (M.nextCode F T n c = none) := hv.out.trans hx
        clear hB hfc hx
        go_wp2
        go_ret2
        exact ⟨by rw [hno.out]; rfl, hb1⟩
      | some d =>
        obtain ⟨b', hb', hl2⟩ := hB.next hfc hx
        have hl3 := (hB.node hb').2.1
        have hyes : Hid (M.nextCode F T n c = some d) := hv.out.trans hx
        clear hB hfc hx hb'
        go_wp2
        go_ret2
        exact ⟨by rw [hyes.out]; rfl, hb1⟩

set_option maxHeartbeats 1000000 in
set_option maxRecDepth 100000 in
theorem impl_ResolveCode (w : World) (a : Option Addr) (n cap : Nat) (F T : Nat → ByteArray) (h : Fws w a n F T) (hf : FFits n F T) (c : ByteArray) (hc : c.size ≤ maxLen) :
    Calls Try.prog 20 #[.slice a n cap, .string c] w fun e w' => e = .returned (resV (M.resCode F T n c)) ∧ Below w.heap.size w w' := by
  have HL := Lib.hid h
  have HF := Lib.hid hf
  clear h hf
  go_enter Try.func20, Try.ntmps20
  cases hok : M.fwd n F T
  · have hv := Lib.hid (M.resCode_no (c := c) hok)
    go_wp2_with fail
    refine (bookOf_no _ _ _ _ _ _ HL.out HF.out hok).mono ?_
    rintro e w1 ⟨rfl, hb1⟩
    have hq := eql_nobook w1
    go_wp2
    go_ret3
    exact ⟨by rw [hv.out]; rfl, hb1⟩
  · cases hcc : M.code c
    · have hv := Lib.hid (M.resCode_bad (F := F) (T := T) (n := n) hcc)
      go_wp2_with fail
      refine (bookOf_yes _ _ _ _ _ _ HL.out HF.out hok).mono ?_
      rintro e w1 ⟨g, m, f, rfl, hm, hB, hb1⟩
      have hq := eql_book g w1
      go_wp2_with fail
      refine (impl_CodeValid _ _ hc).mono ?_
      rw [hcc]
      rintro e w2 ⟨rfl, hb2⟩
      go_wp2
      go_ret3
      exact ⟨by rw [hv.out]; rfl, sstep hb1 hb2.below⟩
    · have hv := Lib.hid (M.resCode_yes hok hcc)
      go_wp2_with fail
      refine (bookOf_yes _ _ _ _ _ _ HL.out HF.out hok).mono ?_
      rintro e w1 ⟨g, m, f, rfl, hm, hB, hb1⟩
      have hq := eql_book g w1
      have HB := Lib.hid hB
      clear hB
      go_wp2_with fail
      refine (impl_CodeValid _ _ hc).mono ?_
      rw [hcc]
      rintro e w2 ⟨rfl, hb2⟩
      replace hb2 := hb2.below
      go_wp2_with fail
      refine (resolve_any _ w.heap.size g m n f F T (HB.out.on hb2) c hc (by omega) (M.fwd_yes hok).1).mono ?_
      rw [← hv.out]
      have h2 := sstep hb1 hb2
      have hg := HB.out.1
      have hz := h2.size
      obtain ⟨r, hr⟩ : ∃ r, M.resCode F T n c = r := ⟨_, rfl⟩
      rw [hr]
      rintro e w3 ⟨rfl, _, ho⟩
      have h3 : Below w.heap.size w w3 := h2.trans (ho.below (B := w.heap.size) (fun k hk _ (e : k = g) => by omega) hz)
      cases r with
      | none =>
        simp only [resV]
        go_wp2
        go_ret3
        exact ⟨by rw [hr]; rfl, h3⟩
      | some p =>
        simp only [resV]
        go_wp2
        go_ret3
        exact ⟨by rw [hr]; rfl, h3⟩
end Go.Proofs.Ytbfbbpmddgfeiaa
