/-
  The next code, the end of a chain, and the longest chain: program and model.
-/
import Derived.Test.YtekkajgifgnklaaRes
namespace Go.Proofs.Ytekkajgifgnklaa
open Go.RowKit Go.Maps
open Go.PlainAid (bt get_bt bt_nonneg bt_le)
set_option linter.unusedVariables false

def nxV : Option ByteArray → Value
  | none => .tuple #[.string ⟨#[]⟩, .bool false]
  | some d => .tuple #[.string d, .bool true]
def M.nextCode (F T : Nat → ByteArray) (n : Nat) (c : ByteArray) : Option ByteArray := if M.fwd n F T then M.nextOf F T n c else none
def M.resCode (F T : Nat → ByteArray) (n : Nat) (c : ByteArray) : Option (ByteArray × Nat) := if M.fwd n F T && M.code c then M.res F T n c else none
theorem M.nextCode_no {F T : Nat → ByteArray} {n : Nat} {c : ByteArray} (h : M.fwd n F T = false) : M.nextCode F T n c = none := by unfold M.nextCode; rw [h]; rfl
theorem M.nextCode_yes {F T : Nat → ByteArray} {n : Nat} {c : ByteArray} (h : M.fwd n F T = true) : M.nextCode F T n c = M.nextOf F T n c := by unfold M.nextCode; rw [h]; rfl
theorem M.resCode_no {F T : Nat → ByteArray} {n : Nat} {c : ByteArray} (h : M.fwd n F T = false) : M.resCode F T n c = none := by unfold M.resCode; rw [h]; rfl
theorem M.resCode_bad {F T : Nat → ByteArray} {n : Nat} {c : ByteArray} (h : M.code c = false) : M.resCode F T n c = none := by unfold M.resCode; rw [h, Bool.and_false]; rfl
theorem M.resCode_yes {F T : Nat → ByteArray} {n : Nat} {c : ByteArray} (h : M.fwd n F T = true) (hc : M.code c = true) : M.resCode F T n c = M.res F T n c := by unfold M.resCode; rw [h, hc]; rfl
theorem look_nil (w : World) (c : ByteArray) (hc : c.size ≤ maxLen) : (Instr.lookup 52 (.map none) (.string c) false).run Try.prog w = .ok (.pointer none) w := by kernel_rfl

set_option maxHeartbeats 1000000 in
set_option maxRecDepth 100000 in
theorem impl_ResolveCode (w : World) (a : Option Addr) (n cap : Nat) (F T : Nat → ByteArray) (h : Fws w a n F T) (hf : FFits n F T) (c : ByteArray) (hc : c.size ≤ maxLen) :
    Calls Try.prog 10 #[.slice a n cap, .string c] w fun e w' => e = .returned (resV (M.resCode F T n c)) ∧ Below w.heap.size w w' := by
  have HL := Lib.hid h
  have HF := Lib.hid hf
  clear h hf
  go_enter Try.func10, Try.ntmps10
  cases hok : M.fwd n F T
  · have hv := Lib.hid (M.resCode_no (c := c) hok)
    go_wp2_with fail
    refine (bookOf_no _ _ _ _ _ _ HL.out HF.out hok).mono ?_
    rintro e w1 ⟨rfl, hb1⟩
    have hq := eql_nobook w1
    go_wp2
    go_ret3
    exact ⟨by rw [hv.out]; rfl, hb1⟩
  · cases hcc : M.code c
    · have hv := Lib.hid (M.resCode_bad (F := F) (T := T) (n := n) hcc)
      go_wp2_with fail
      refine (bookOf_yes _ _ _ _ _ _ HL.out HF.out hok).mono ?_
      rintro e w1 ⟨g, m, f, rfl, hm, hB, hb1⟩
      have hq := eql_book g w1
      go_wp2_with fail
      refine (impl_CodeValid _ _ hc).mono ?_
      rw [hcc]
      rintro e w2 ⟨rfl, hb2⟩
      go_wp2
      go_ret3
      exact ⟨by rw [hv.out]; rfl, sstep hb1 hb2.below⟩
    · have hv := Lib.hid (M.resCode_yes hok hcc)
      go_wp2_with fail
      refine (bookOf_yes _ _ _ _ _ _ HL.out HF.out hok).mono ?_
      rintro e w1 ⟨g, m, f, rfl, hm, hB, hb1⟩
      have hq := eql_book g w1
      have HB := Lib.hid hB
      clear hB
      go_wp2_with fail
      refine (impl_CodeValid _ _ hc).mono ?_
      rw [hcc]
      rintro e w2 ⟨rfl, hb2⟩
      replace hb2 := hb2.below
      go_wp2_with fail
      refine (resolve_any _ w.heap.size g m n f F T (HB.out.on hb2) c hc (by omega) (M.fwd_yes hok).1).mono ?_
      rw [← hv.out]
      have h2 := sstep hb1 hb2
      have hg := HB.out.1
      have hz := h2.size
      obtain ⟨r, hr⟩ : ∃ r, M.resCode F T n c = r := ⟨_, rfl⟩
      rw [hr]
      rintro e w3 ⟨rfl, _, ho⟩
      have h3 : Below w.heap.size w w3 := h2.trans (ho.below (B := w.heap.size) (fun k hk _ (e : k = g) => by omega) hz)
      cases r with
      | none =>
        simp only [resV]
        go_wp2
        go_ret3
        exact ⟨by rw [hr]; rfl, h3⟩
      | some p =>
        simp only [resV]
        go_wp2
        go_ret3
        exact ⟨by rw [hr]; rfl, h3⟩
end Go.Proofs.Ytekkajgifgnklaa
