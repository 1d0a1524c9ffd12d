/-
  The rule with the longest beginning, and where letters for a code are sent, in the model of the document.
-/
import Derived.Test.YtkbebpadbdhnhaaRulV
import Derived.Test.YtkbebpadbdhnhaaTrieM
import Derived.Deep.QuietTactic
import Derived.BigQuiet
namespace Go.Proofs.Ytkbebpadbdhnhaa
open Go.RowKit
open Go.PlainAid (bt get_bt bt_nonneg bt_le)
set_option linter.unusedVariables false

theorem retS {a b : ByteArray} (h : a = b) : Ending.returned (.string a) = .returned (.string b) := by rw [h]
theorem ne_str (s : ByteArray) (h : 0 < s.size) : ¬ s.toList = [] := by
  rw [ByteArray.toList_eq]
  intro e
  have h1 : s.data.toList.length = 0 := by rw [e]; rfl
  rw [Array.length_toList] at h1
  have h2 : s.data.size = s.size := rfl
  omega
/-- What LookUp returns: where letters are sent, and whether they are. -/
def lkV : Option ByteArray → Value
  | none => .tuple #[.string ⟨#[]⟩, .bool false]
  | some d => .tuple #[.string d, .bool true]
def LkForm (v : Value) : Prop := ∃ s y, v = .tuple #[.string s, .bool y]
theorem lk_form : ∀ r, LkForm (lkV r)
  | none => ⟨_, _, rfl⟩
  | some _ => ⟨_, _, rfl⟩
def M.lookUp (P N : Nat → ByteArray) (n : Nat) (c : ByteArray) : Option ByteArray := if M.rul n P N && M.code c then M.look (M.ruleAt P N n) c c.size else none
theorem M.lookUp_no {P N : Nat → ByteArray} {n : Nat} {c : ByteArray} (h : M.rul n P N = false) : M.lookUp P N n c = none := by unfold M.lookUp; rw [h]; rfl
theorem M.lookUp_bad {P N : Nat → ByteArray} {n : Nat} {c : ByteArray} (h : M.code c = false) : M.lookUp P N n c = none := by unfold M.lookUp; rw [h, Bool.and_false]; rfl
theorem M.lookUp_yes {P N : Nat → ByteArray} {n : Nat} {c : ByteArray} (h : M.rul n P N = true) (hc : M.code c = true) : M.lookUp P N n c = M.look (M.ruleAt P N n) c c.size := by unfold M.lookUp; rw [h, hc]; rfl
theorem M.prefix_digs {p : ByteArray} (h : M.prefixOk p = true) : M.digs p = true ∧ p.size ≤ 7 := by
  unfold M.prefixOk at h
  rw [Bool.and_eq_true] at h
  exact ⟨h.1, of_decide_eq_true h.2⟩
theorem M.lookUp_best {P N : Nat → ByteArray} {n : Nat} {c : ByteArray} (h : M.rul n P N = true) (hc : M.digs c = true) : M.look (M.ruleAt P N n) c c.size = if M.bestTo P c n < 0 then none else some (N (M.bestTo P c n).toNat) := by
  have h1 := (M.rul_yes h).2
  exact M.look_best hc (fun i hi => (M.prefix_digs (h1 i hi).1).1) fun i k hi hk => (h1 i hi).2.2 k hk

theorem drewN_two {w wr : World} {q : Nat} (h : ∃ m, wr = w.drewN m) : ∃ m, wr.drewN q = w.drewN m := by
  obtain ⟨m, rfl⟩ := h
  exact ⟨m + q, World.drewN_drewN _ _ _⟩
theorem Fws.quiet {w wr : World} {a : Option Addr} {n : Nat} {F T : Nat → ByteArray} (h : Fws w a n F T) (hq : ∃ m, wr = w.drewN m) : Fws wr a n F T := by
  obtain ⟨m, rfl⟩ := hq
  exact h
end Go.Proofs.Ytkbebpadbdhnhaa
