/-
  Offices in memory: where their names and their rules lie; their size, their copy, whether they agree.
-/
import Derived.Test.YtcppjkmmmpdchaaRRow
import Derived.Test.YtcppjkmmmpdchaaRulV3
import Derived.Test.YtcppjkmmmpdchaaAddRM
namespace Go.Proofs.Ytcppjkmmmpdchaa
open Go.RowKit
open Go.PlainAid (bt get_bt bt_nonneg bt_le)
set_option linter.unusedVariables false

/-- A slice of n offices: their names and their rules. -/
def Nts (w : World) (a : Option Addr) (n : Nat) (NM : Nat → ByteArray) (RL : Nat → List (ByteArray × ByteArray)) : Prop :=
  ∀ i, i < n → ∃ b o a' c, a = some ⟨b, o, none⟩ ∧ w.cell? ⟨b, o + i * 2, none⟩ = some (.string (NM i)) ∧ w.cell? ⟨b, o + i * 2 + 1, none⟩ = some (.slice a' (RL i).length c) ∧ Fws w a' (RL i).length (nF (RL i)) (nT (RL i))
/-- Of fitting sizes. -/
def NFits (n : Nat) (NM : Nat → ByteArray) (RL : Nat → List (ByteArray × ByteArray)) : Prop := ∀ i, i < n → (NM i).size ≤ maxLen ∧ FFits (RL i).length (nF (RL i)) (nT (RL i)) ∧ (RL i).length ≤ maxLen
theorem Nts.on {w w' : World} {a : Option Addr} {n : Nat} {NM : Nat → ByteArray} {RL : Nat → List (ByteArray × ByteArray)} (h : Nts w a n NM RL) (hb : Below w.heap.size w w') : Nts w' a n NM RL := by
  intro i hi
  obtain ⟨b, o, a', c, e, h1, h2, h3⟩ := h i hi
  have hl := World.block_lt_of_cell? _ _ h1
  exact ⟨b, o, a', c, e, (hb.cell (p := ⟨b, o + i * 2, none⟩) hl).trans h1, (hb.cell (p := ⟨b, o + i * 2 + 1, none⟩) hl).trans h2, h3.on hb⟩
/-- How many rules the first offices have. -/
def totR (RL : Nat → List (ByteArray × ByteArray)) : Nat → Nat
  | 0 => 0
  | n + 1 => totR RL n + (RL n).length
theorem totR_le (RL : Nat → List (ByteArray × ByteArray)) {i : Nat} : ∀ {n : Nat}, i < n → (RL i).length ≤ totR RL n
  | 0, h => absurd h (by omega)
  | n + 1, h => by
    show _ ≤ totR RL n + (RL n).length
    by_cases e : i = n
    · subst e; omega
    · have := totR_le RL (i := i) (n := n) (by omega); omega

set_option maxHeartbeats 1000000 in
theorem szRuleS_less (w : World) (a : Option Addr) (n c : Nat) (I : Nat → ByteArray) (C : Nat → ByteArray) (h : Fws w a n I C) (hf : FFits n I C) (hn : n ≤ maxLen) (left : Int) (l0 : 0 ≤ left) (l1 : left ≤ 1048576) :
    Calls Try.prog 11 #[.slice a n c, .int .i64 left] w fun e w' => ∃ r : Int, e = .returned (.int .i64 r) ∧ (0 ≤ r → r + (n : Int) ≤ left) ∧ r ≤ 1048576 ∧ Below w.heap.size w w' := by
  have HF := Lib.hid hf
  have HL := Lib.hid h
  clear h hf
  have HN := Lib.hid hn
  have hn' : n ≤ 9223372036854775807 := by unfold maxLen at hn; omega
  clear hn
  go_enter Try.func11, Try.ntmps11
  by_cases hneg : left - (n : Int) < 0
  · go_wp2
    go_ret
    exact ⟨_, rfl, by omega, by omega, Below.refl _ _⟩
  go_wp2
  go_loopw [1, 5] (fun l i wr => ∃ (k : Nat) (v : Int), k ≤ n ∧ i = .int .i64 k ∧ l = .int .i64 v ∧ 0 ≤ v ∧ v + (n : Int) ≤ left ∧ Below w.heap.size w wr) (fun _ i _ => n - (intOf i).toNat)
  case atStart => exact ⟨0, _, Nat.zero_le _, rfl, rfl, by omega, by omega, Below.refl _ _⟩
  case round =>
    obtain ⟨k, v, hk, rfl, rfl, v0, v1, hb⟩ := hrel
    have v2 : v ≤ 1048576 := by omega
    have hz := hb.size
    by_cases hlt : k < n
    · obtain ⟨b, o, rfl, c0, c1⟩ := (HL.out.on hb) k hlt
      have s0 := (HF.out k hlt).1
      have s1 := (HF.out k hlt).2
      have s2 : (C k).size ≤ 9223372036854775807 := by unfold maxLen at s1; omega
      have s3 : (I k).size ≤ 9223372036854775807 := by unfold maxLen at s0; omega
      clear s0 s1
      go_wp2_with fail
      refine (szRule_any _ _ _ _ v0 v2 s3 s2).mono ?_
      rintro e w1 ⟨r, rfl, r0, r1, hb1⟩
      by_cases hr : r < 0
      · go_wp2
        go_ret
        exact ⟨_, rfl, by omega, by omega, hb.trans (hb1.mono hz)⟩
      · go_wp2
        go_roundw
        case rel => exact ⟨k + 1, _, by omega, by go_num, rfl, by omega, by omega, hb.trans (hb1.mono hz)⟩
        case measure => simp [intOf]; omega
    · obtain rfl : k = n := by omega
      go_wp2
      go_ret
      exact ⟨v, rfl, by omega, by omega, hb⟩


set_option maxHeartbeats 1000000 in
theorem szOffice_any (w : World) (s : ByteArray) (a : Option Addr) (L : List (ByteArray × ByteArray)) (c : Nat) (h : Fws w a L.length (nF L) (nT L)) (hf : FFits L.length (nF L) (nT L)) (hn : L.length ≤ maxLen) (hs : s.size ≤ maxLen) (left : Int) (l0 : 0 ≤ left) (l1 : left ≤ 1048576) :
    Calls Try.prog 33 #[.agg #[.string s, .slice a L.length c], .int .i64 left] w fun e w' => ∃ r : Int, e = .returned (.int .i64 r) ∧ (0 ≤ r → r + (L.length : Int) ≤ left) ∧ r ≤ 1048576 ∧ Below w.heap.size w w' := by
  unfold maxLen at hs
  have hb0 := below_alloc0 w (.cells #[.string s, .slice a L.length c] 62)
  by_cases h1 : left - (s.size : Int) < 0
  · clear h hf hn
    go_enter Try.func33, Try.ntmps33
    go_wp2
    go_ret
    exact ⟨_, rfl, by omega, by omega, hb0⟩
  · have HX := Lib.hid (szRuleS_less _ a L.length c _ _ (h.on hb0) hf hn (left - (s.size : Int)) (by omega) (by omega))
    have HB0 := Lib.hid hb0
    clear h hf hn hb0
    go_enter Try.func33, Try.ntmps33
    go_wp2_with fail
    refine HX.out.mono ?_
    rintro e w1 ⟨r, rfl, hr, hr1, hb1⟩
    by_cases hneg : r < 0
    · go_wp2
      go_ret
      exact ⟨_, rfl, by omega, by omega, sstep HB0.out hb1⟩
    · go_wp2
      go_ret
      exact ⟨_, rfl, by omega, by omega, sstep HB0.out hb1⟩

set_option maxHeartbeats 1000000 in
theorem szOfficeS_any (w : World) (a : Option Addr) (n c : Nat) (NM : Nat → ByteArray) (RL : Nat → List (ByteArray × ByteArray)) (h : Nts w a n NM RL) (hf : NFits n NM RL) (hn : n ≤ maxLen) (left : Int) (l0 : 0 ≤ left) (l1 : left ≤ 1048576) :
    Calls Try.prog 16 #[.slice a n c, .int .i64 left] w fun e w' => ∃ r : Int, e = .returned (.int .i64 r) ∧ (0 ≤ r → (n : Int) ≤ left ∧ (totR RL n : Int) ≤ left) ∧ r ≤ 1048576 ∧ Below w.heap.size w w' := by
  have HL := Lib.hid h
  have HF := Lib.hid hf
  have hn' : n ≤ 9223372036854775807 := by unfold maxLen at hn; omega
  clear h hf hn
  go_enter Try.func16, Try.ntmps16
  by_cases hneg : left - (n : Int) < 0
  · go_wp2
    go_ret
    exact ⟨_, rfl, by omega, by omega, Below.refl _ _⟩
  go_wp2
  go_loopw [1, 5] (fun l i wr => ∃ (k : Nat) (v : Int), k ≤ n ∧ i = .int .i64 k ∧ l = .int .i64 v ∧ 0 ≤ v ∧ v + (n : Int) ≤ left ∧ v + (totR RL k : Int) ≤ left ∧ Hid (Below w.heap.size w wr)) (fun _ i _ => n - (intOf i).toNat)
  case atStart => exact ⟨0, _, Nat.zero_le _, rfl, rfl, by omega, by omega, by show _ + ((0 : Nat) : Int) ≤ _; omega, Below.refl _ _⟩
  case round =>
    obtain ⟨k, v, hk, rfl, rfl, v0, v1, v3, hb⟩ := hrel
    have v2 : v ≤ 1048576 := by omega
    by_cases hlt : k < n
    · obtain ⟨b, o, a', c', rfl, c0, c1, h2⟩ := (HL.out.on hb.out) k hlt
      obtain ⟨s0, f1, n1⟩ := HF.out k hlt
      have H2 := Lib.hid h2
      have H3 := Lib.hid f1
      have H4 := Lib.hid n1
      have H5 := Lib.hid s0
      have HT : Hid (totR RL (k + 1) = totR RL k + (RL k).length) := rfl
      clear h2 f1 n1 s0
      go_wp2_with fail
      refine (szOffice_any _ (NM k) a' (RL k) c' H2.out H3.out H4.out H5.out v v0 v2).mono ?_
      rintro e w1 ⟨r, rfl, hr, hr1, hb1⟩
      have K1 := Lib.hid (sstep hb.out hb1)
      clear hb1
      by_cases hn2 : r < 0
      · go_wp2
        go_ret
        exact ⟨_, rfl, by omega, by omega, K1.out⟩
      · have hr2 := hr (by omega)
        clear hr
        go_wp2
        go_roundw
        case rel => exact ⟨k + 1, _, by omega, by go_num, rfl, by omega, by omega, by rw [HT.out]; omega, K1⟩
        case measure => simp [intOf]; omega
    · obtain rfl : k = n := by omega
      go_wp2
      go_ret
      exact ⟨v, rfl, by omega, by omega, hb.out⟩

set_option maxHeartbeats 1000000 in
theorem eqOffice_same (w : World) (s : ByteArray) (a a' : Option Addr) (L : List (ByteArray × ByteArray)) (c c' : Nat) (h : Fws w a L.length (nF L) (nT L)) (h' : Fws w a' L.length (nF L) (nT L)) (hn : L.length ≤ 1048576) :
    Calls Try.prog 38 #[.agg #[.string s, .slice a L.length c], .agg #[.string s, .slice a' L.length c']] w fun e w' => e = .returned (.bool true) ∧ Below w.heap.size w w' := by
  have hb0 := sstep (below_alloc0 w (.cells #[.string s, .slice a L.length c] 65)) (below_alloc0 _ (.cells #[.string s, .slice a' L.length c'] 65))
  have HX := Lib.hid (eqRuleS_same _ a a' L.length c c' _ _ (h.on hb0) (h'.on hb0) hn)
  have HB0 := Lib.hid hb0
  clear h h' hn hb0
  go_enter Try.func38, Try.ntmps38
  go_wp2_with fail
  refine HX.out.mono ?_
  rintro e w1 ⟨rfl, hb1⟩
  go_wp2
  go_ret
  exact ⟨rfl, sstep HB0.out hb1⟩
end Go.Proofs.Ytcppjkmmmpdchaa
