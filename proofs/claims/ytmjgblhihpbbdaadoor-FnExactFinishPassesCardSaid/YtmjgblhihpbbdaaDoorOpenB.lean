/-
  The marks that a law writes into a plan's codes.
-/
import Derived.Test.YtmjgblhihpbbdaaDoorMark
import Derived.Test.YtmjgblhihpbbdaaDoorPlan
import Derived.Test.YtmjgblhihpbbdaaDoorMatL
import Derived.Test.YtmjgblhihpbbdaaDoorConcat
import Derived.Test.YtmjgblhihpbbdaaDoorPermM
import Derived.Test.YtmjgblhihpbbdaaDoorLet
import Derived.ProofKit
import Derived.OpenShut
import Derived.ChangeOld
import Derived.Deep.SlicePairs
import Derived.Deep.Slices
import Derived.Test.YtmjgblhihpbbdaaDoorRows
import Derived.Test.YtmjgblhihpbbdaaDoorJam
import Derived.LaidMore
import Derived.LaidHandle
import Derived.MakeChecks
import Derived.Lay
import Derived.LaidLaws
import Derived.Stop.LaidErr
import Derived.ChangeSame
import Derived.ChangeVars
import Derived.JoinedOf
import Derived.RowKit
import Derived.RowKitTokens
import Derived.Lib.SmallJoins
import Derived.Below
import Derived.Test.YtmjgblhihpbbdaaDoorStr
import Derived.SliceStrings
namespace Go.Proofs.YtmjgblhihpbbdaaDoor
open Go.RowKit
open Go.PlainAid (bt get_bt bt_nonneg bt_le)

theorem SRow.on {w w' : World} {base : Nat} {v : Value} {L : List ByteArray} (h : SRow w base v L) (hb : Below w.heap.size w w') : SRow w' base v L := h.below hb

set_option maxHeartbeats 1000000 in
theorem markStringS_row (w : World) (base : Nat) (v : Value) (L : List ByteArray) (k : Nat) (h : SRow w base v L) (hn : L.length ≤ 1048576) (k1 : 1 ≤ k) (k2 : k ≤ 10000000) :
    Calls Tryd.prog 43 #[v, .int .i64 k] w fun e w' => e = .returned (.int .i64 ((k + L.length : Nat) : Int)) ∧ Only w w' (fun b => v.ownBlock = some b) := by
  rcases h.cases with ⟨rfl, rfl⟩ | ⟨g, c, rfl, hbg, hgl, _⟩
  · go_enter Tryd.func43, Tryd.ntmps43
    go_wp2
    go_rounds 1
    go_ret
    exact ⟨rfl, Only.refl _ _⟩
  · obtain ⟨n, hl⟩ : ∃ n, L.length = n := ⟨_, rfl⟩
    rw [hl] at h hn ⊢
    have h0 : Hid (∃ Z : List ByteArray, Z.length = n ∧ SRow w base (.slice (some ⟨g, 0, none⟩) n c) Z) := ⟨L, hl, h⟩
    clear h hl
    go_enter Tryd.func43, Tryd.ntmps43
    go_wp2
    go_loopw [1, 5] (fun q i wr => ∃ j : Nat, j ≤ n ∧ i = .int .i64 j ∧ q = .int .i64 ((k + j : Nat) : Int) ∧ Hid (∃ Z : List ByteArray, Z.length = n ∧ SRow wr base (.slice (some ⟨g, 0, none⟩) n c) Z) ∧ Hid (Only w wr (fun b => (Value.slice (some ⟨g, 0, none⟩) n c).ownBlock = some b))) (fun _ i _ => n - (intOf i).toNat)
    case atStart => exact ⟨0, Nat.zero_le _, rfl, rfl, h0, Only.refl _ _⟩
    case round =>
      obtain ⟨j, hj, rfl, rfl, hr, hg⟩ := hrel
      by_cases hlt : j < n
      · obtain ⟨X, hX⟩ : ∃ X : Nat, k + j = X := ⟨_, rfl⟩
        rw [hX]
        have HX := Lib.hid hX
        have x1 : 1 ≤ X := by omega
        have x2 : X ≤ 20000000 := by omega
        clear hX
        go_wp2_with fail
        refine (markText_any X _ (by omega) (by omega)).mono ?_
        rintro e w1 ⟨rfl, hb1⟩
        obtain ⟨M0, hM0, hs0⟩ := hr.out
        have hs1 := hs0.on hb1
        have z1 := hb1.size
        have hs2 : SRow w1 base (.slice (some ⟨g, 0, none⟩) M0.length c) M0 := by rw [hM0]; exact hs1
        obtain ⟨cc, ff⟩ := hs2.cellAt j (by omega)
        have P2 := hs2.put j (M.mark X)
        rw [List.length_set] at P2
        have P3 : Hid (∃ Z : List ByteArray, Z.length = n ∧ SRow (w1.setCell ⟨g, j, none⟩ (.string (M.mark X))) base (.slice (some ⟨g, 0, none⟩) n c) Z) := ⟨M0.set j (M.mark X), by rw [List.length_set]; exact hM0, by rw [hM0] at P2; exact P2⟩
        have O3 := Lib.hid ((hg.out.trans (Only.new (S := fun b => (Value.slice (some ⟨g, 0, none⟩) n c).ownBlock = some b) hb1) (fun _ _ h => h)).trans (Only.set w1 ⟨g, j, none⟩ (.string (M.mark X)) (S := fun b => (Value.slice (some ⟨g, 0, none⟩) n c).ownBlock = some b) rfl) (fun _ _ h => h))
        have gl := (hs1.lt g rfl).2
        generalize M0[j]'(by omega) = y at cc
        clear hs0 hs1 hs2 P2 hM0 hb1
        go_wp2
        go_roundw
        case rel => exact ⟨j + 1, by omega, by go_num, by have := HX.out; go_num, P3, O3⟩
        case measure => simp [intOf]; omega
      · obtain rfl : j = n := by omega
        go_wp2
        go_ret
        exact ⟨rfl, hg.out⟩

set_option maxHeartbeats 1000000 in
theorem markPlan_row (w : World) (base : Nat) (b p : Int) (v : Value) (L : List ByteArray) (k : Nat) (h : SRow w base v L) (hn : L.length ≤ 1048576) (k1 : 1 ≤ k) (k2 : k ≤ 10000000) :
    Calls Tryd.prog 16 #[.agg #[.int .i64 b, .int .i64 p, v], .int .i64 k] w fun e w' => e = .returned (.int .i64 ((k + L.length : Nat) : Int)) ∧ Only w w' (fun b => v.ownBlock = some b) := by
  have hl := h.lt
  have HS := Lib.hid (h.on (below_alloc0 w (.cells #[.int .i64 b, .int .i64 p, v] 32)))
  obtain ⟨q, hq⟩ : ∃ q : Nat, k + L.length = q := ⟨_, rfl⟩
  have hm := Lib.hid (fun W (hs : SRow W base v L) => hq ▸ markStringS_row W base v L k hs hn k1 k2)
  rw [hq]
  clear h hq
  go_enter Tryd.func16, Tryd.ntmps16
  go_wp2_with fail
  refine (hm.out _ HS.out).mono ?_
  rintro e w1 ⟨rfl, o1⟩
  go_wp2
  go_ret
  exact ⟨rfl, (Only.new (S := fun b => v.ownBlock = some b) (below_alloc0 w _)).trans o1 (fun _ _ h => h)⟩
end Go.Proofs.YtmjgblhihpbbdaaDoor

/-
  Slices of slices of letters that came in: where they lie, their size, their copy.
-/
namespace Go.Proofs.YtmjgblhihpbbdaaDoor
open Go.RowKit
set_option linter.unusedVariables false

/-- n slices of letters, in a slice of slices. -/
def Lss (w : World) (a : Option Addr) (n : Nat) (MM : Nat → List (Int × ByteArray)) : Prop :=
  ∀ i, i < n → ∃ b o a' c, a = some ⟨b, o, none⟩ ∧ w.cell? ⟨b, o + i, none⟩ = some (.slice a' (MM i).length c) ∧ Lts w a' (MM i).length (nI (MM i)) (nC (MM i)) ∧ Fits (MM i).length (nI (MM i)) (nC (MM i)) ∧ (MM i).length ≤ maxLen
theorem Lss.on {w w' : World} {a : Option Addr} {n : Nat} {MM : Nat → List (Int × ByteArray)} (h : Lss w a n MM) (hb : Below w.heap.size w w') : Lss w' a n MM := by
  intro i hi
  obtain ⟨b, o, a', c, e, h1, h2, h3, h4⟩ := h i hi
  have hl := World.block_lt_of_cell? _ _ h1
  exact ⟨b, o, a', c, e, (hb.cell (p := ⟨b, o + i, none⟩) hl).trans h1, h2.on hb, h3, h4⟩
theorem tot_flat (MM : Nat → List (Int × ByteArray)) : ∀ n, (M.flat MM n).length = tot MM n
  | 0 => rfl
  | n + 1 => by show (M.flat MM n ++ MM n).length = tot MM n + _; rw [List.length_append, tot_flat MM n]

set_option maxHeartbeats 1000000 in
theorem szLetterS_less (w : World) (a : Option Addr) (n c : Nat) (I : Nat → Int) (C : Nat → ByteArray) (h : Lts w a n I C) (hf : Fits n I C) (hn : n ≤ maxLen) (left : Int) (l0 : 0 ≤ left) (l1 : left ≤ 1048576) :
    Calls Tryd.prog 23 #[.slice a n c, .int .i64 left] w fun e w' => ∃ r : Int, e = .returned (.int .i64 r) ∧ (0 ≤ r → r + (n : Int) ≤ left) ∧ r ≤ 1048576 ∧ Below w.heap.size w w' := by
  have HF := Lib.hid hf
  have HL := Lib.hid h
  clear h hf
  have HN := Lib.hid hn
  have hn' : n ≤ 9223372036854775807 := by unfold maxLen at hn; omega
  clear hn
  go_enter Tryd.func23, Tryd.ntmps23
  by_cases hneg : left - (n : Int) < 0
  · go_wp2
    go_ret
    exact ⟨_, rfl, by omega, by omega, Below.refl _ _⟩
  go_wp2
  go_loopw [1, 5] (fun l i wr => ∃ (k : Nat) (v : Int), k ≤ n ∧ i = .int .i64 k ∧ l = .int .i64 v ∧ 0 ≤ v ∧ v + (n : Int) ≤ left ∧ Below w.heap.size w wr) (fun _ i _ => n - (intOf i).toNat)
  case atStart => exact ⟨0, _, Nat.zero_le _, rfl, rfl, by omega, by omega, Below.refl _ _⟩
  case round =>
    obtain ⟨k, v, hk, rfl, rfl, v0, v1, hb⟩ := hrel
    have hz := hb.size
    have v2 : v ≤ 1048576 := by omega
    by_cases hlt : k < n
    · obtain ⟨b, o, rfl, c0, c1⟩ := (HL.out.on hb) k hlt
      obtain ⟨i0, i1⟩ := (HF.out k hlt).1
      have s1 := (HF.out k hlt).2
      have s2 : (C k).size ≤ 9223372036854775807 := by unfold maxLen at s1; omega
      clear s1
      by_cases hn2 : v - ((C k).size : Int) < 0
      · have hi := Lib.hid (M.rest_neg hn2)
        go_wp2_with (go_at_call 49; refine (szLetter_any _ _ _ _ v0 v2 s2).mono ?_; rw [hi.out]; rintro e w1 ⟨rfl, hb1⟩)
        go_ret
        exact ⟨_, rfl, by omega, by omega, hb.trans (hb1.mono hz)⟩
      · have hi := Lib.hid (M.rest_pos hn2)
        go_wp2_with (go_at_call 49; refine (szLetter_any _ _ _ _ v0 v2 s2).mono ?_; rw [hi.out]; rintro e w1 ⟨rfl, hb1⟩)
        go_roundw
        case rel => exact ⟨k + 1, _, by omega, by go_num, rfl, by omega, by omega, hb.trans (hb1.mono hz)⟩
        case measure => simp [intOf]; omega
    · obtain rfl : k = n := by omega
      go_wp2
      go_ret
      exact ⟨v, rfl, by omega, by omega, hb⟩

set_option maxHeartbeats 1000000 in
theorem szLetterSS_any (w : World) (a : Option Addr) (n c : Nat) (MM : Nat → List (Int × ByteArray)) (h : Lss w a n MM) (hn : n ≤ maxLen) (left : Int) (l0 : 0 ≤ left) (l1 : left ≤ 1048576) :
    Calls Tryd.prog 8 #[.slice a n c, .int .i64 left] w fun e w' => ∃ r : Int, e = .returned (.int .i64 r) ∧ (0 ≤ r → (n : Int) ≤ left ∧ (tot MM n : Int) ≤ left) ∧ r ≤ 1048576 ∧ Below w.heap.size w w' := by
  have HL := Lib.hid h
  clear h
  have HN := Lib.hid hn
  have hn' : n ≤ 9223372036854775807 := by unfold maxLen at hn; omega
  clear hn
  go_enter Tryd.func8, Tryd.ntmps8
  by_cases hneg : left - (n : Int) < 0
  · go_wp2
    go_ret
    exact ⟨_, rfl, by omega, by omega, Below.refl _ _⟩
  go_wp2
  go_loopw [1, 5] (fun l i wr => ∃ (k : Nat) (v : Int), k ≤ n ∧ i = .int .i64 k ∧ l = .int .i64 v ∧ 0 ≤ v ∧ v + (n : Int) ≤ left ∧ v + (tot MM k : Int) ≤ left ∧ Hid (Below w.heap.size w wr)) (fun _ i _ => n - (intOf i).toNat)
  case atStart => exact ⟨0, _, Nat.zero_le _, rfl, rfl, by omega, by omega, by show _ + ((0 : Nat) : Int) ≤ _; omega, Below.refl _ _⟩
  case round =>
    obtain ⟨k, v, hk, rfl, rfl, v0, v1, v3, hb⟩ := hrel
    have v2 : v ≤ 1048576 := by omega
    by_cases hlt : k < n
    · obtain ⟨b, o, a', c', rfl, c0, h2, h3, h4⟩ := (HL.out.on hb.out) k hlt
      have H2 := Lib.hid h2
      have H3 := Lib.hid h3
      have H4 := Lib.hid h4
      have HT : Hid (tot MM (k + 1) = tot MM k + (MM k).length) := rfl
      clear h2 h3 h4
      go_wp2_with fail
      refine (szLetterS_less _ a' (MM k).length c' _ _ H2.out H3.out H4.out v v0 v2).mono ?_
      rintro e w1 ⟨r, rfl, hr, hr1, hb1⟩
      have K1 := Lib.hid (sstep hb.out hb1)
      clear hb1
      by_cases hn2 : r < 0
      · go_wp2
        go_ret
        exact ⟨_, rfl, by omega, by omega, K1.out⟩
      · have hr2 := hr (by omega)
        clear hr
        go_wp2
        go_roundw
        case rel => exact ⟨k + 1, _, by omega, by go_num, rfl, by omega, by omega, by rw [HT.out]; omega, K1⟩
        case measure => simp [intOf]; omega
    · obtain rfl : k = n := by omega
      go_wp2
      go_ret
      exact ⟨v, rfl, by omega, by omega, hb.out⟩

theorem upd_if {M : Nat → List (Int × ByteArray)} {k : Nat} : ∀ i, upd (fun i => if i < k then M i else []) k (M k) i = if i < k + 1 then M i else [] := by
  intro i
  show (if i = k then M k else if i < k then M i else []) = _
  by_cases e : i = k
  · subst e; rw [if_pos rfl, if_pos (by omega)]
  · rw [if_neg e]
    by_cases e2 : i < k
    · rw [if_pos e2, if_pos (by omega)]
    · rw [if_neg e2, if_neg (by omega)]

set_option maxHeartbeats 2000000 in
theorem toLetterSS_any (w : World) (a : Option Addr) (n c : Nat) (MM : Nat → List (Int × ByteArray)) (h : Lss w a n MM) (hn : n ≤ 1048576) (hl : ∀ i, i < n → (MM i).length ≤ 1048576) :
    Calls Tryd.prog 11 #[.slice a n c] w fun e w' => ∃ b V, e = .returned (.slice (some ⟨b, 0, none⟩) n n) ∧ Mat w' w.heap.size (.slice (some ⟨b, 0, none⟩) n n) n V MM ∧ Below w.heap.size w w' := by
  have HL := Lib.hid h
  have HLn := Lib.hid hl
  clear h hl
  have hm := mat_made w n hn 28 Tryd.underlying28 .i64 .i64
  have hmk := hm.1
  have HM := Lib.hid hm.2
  have hmk2 : ∀ W, (Instr.makeSlice 28 (.int .i64 (n : Int)) (.int .i64 (n : Int))).run Tryd.prog W = .ok (.slice (some ⟨W.heap.size, 0, none⟩) n n) (W.alloc (.cells (madeCells #[.slice none 0 0] n) 29)) := fun W => (mat_made W n hn 28 Tryd.underlying28 .i64 .i64).1
  clear hm hmk
  have hb0 := Lib.hid (below_alloc0 w (.cells (madeCells #[.slice none 0 0] n) 29))
  go_enter Tryd.func11, Tryd.ntmps11
  go_wp2
  go_loopw [4] (fun i wr => ∃ (k : Nat) (V : Nat → Value), k ≤ n ∧ i = .int .i64 k ∧ Hid (Mat wr w.heap.size (.slice (some ⟨w.heap.size, 0, none⟩) n n) n V (fun i => if i < k then MM i else [])) ∧ Hid (Below w.heap.size w wr)) (fun i _ => n - (intOf i).toNat)
  case atStart => exact ⟨0, _, Nat.zero_le _, rfl, HM.out.congr (fun i _ => (if_neg (by omega)).symm), hb0⟩
  case round =>
    obtain ⟨k, V, hk, rfl, hmat, hb⟩ := hrel
    by_cases hlt : k < n
    · obtain ⟨b, o, a', c', rfl, c0, h2, h3, h4⟩ := (HL.out.on hb.out) k hlt
      have H2 := Lib.hid h2
      have hll := HLn.out k hlt
      have hz := hb.out.size
      clear h2 h3 h4
      go_wp2_with (go_at_call 26; refine (toLetterS_row _ a' _ c' _ _ H2.out hll).mono ?_; rintro e w1 ⟨b1, rfl, q1, k1⟩; rw [lst_nI] at q1; obtain ⟨g1, c1, e1, g0, gf⟩ := (hmat.out.on k1).cell hlt; cases e1; have P1 := Lib.hid (hmat.out.put hlt (q1.lower hz) (Only.new k1) (fun x hx => Or.inr (q1.lt x hx).1)); have K1 := Lib.hid (sstep hb.out k1); clear q1 k1)
      go_roundw
      case rel => exact ⟨k + 1, _, by omega, by go_num, P1.out.congr (fun i _ => upd_if i), K1.out.setCell (Nat.le_refl _) _⟩
      case measure => simp [intOf]; omega
    · obtain rfl : k = n := by omega
      go_wp2
      go_ret
      exact ⟨_, _, rfl, hmat.out.congr (fun i hi => if_pos hi), hb.out⟩
end Go.Proofs.YtmjgblhihpbbdaaDoor

/-
  An argument that is a slice of letters: what lies in memory.
-/
namespace Go.Proofs.YtmjgblhihpbbdaaDoor
open Go.ChangeShapes Go.WideShapes Go.ChangeAt Go.RowKit

theorem open_letters {H : Type} {enc : TypeId × Value → H} {W : World} {base : Nat} {sp : Nat → Bool} {held : Bool} {fuel : Nat} {a : Option Addr} {n c : Nat} {x : DataW H × List MemPlace}
    (h : DataW.trod enc Tryd.prog W base sp held fuel 44 [.slice a n c] = some x) : ∃ I C, Lts W a n I C ∧ Fits n I C ∧ n ≤ maxLen := by
  rcases Deep.open_slice_pairs Tryd.underlying44 Tryd.underlying73 (by kernel_rfl) rfl rfl (by kernel_rfl) (by kernel_rfl) h with ⟨hcs, _⟩ | ⟨a', len, cap, m, k, V0, V1, D0, D1, P0, P1, hcs, _, hl, hm, hmm, _, hx⟩
  · simp at hcs
    obtain ⟨rfl, rfl, rfl⟩ := hcs
    exact ⟨fun _ => 0, fun _ => ⟨#[]⟩, fun i hi => absurd hi (by omega), fun i hi => absurd hi (by omega), by omega⟩
  · simp at hcs
    obtain ⟨rfl, rfl, rfl⟩ := hcs
    have hnm : n ≤ m := by rw [hmm]; split <;> omega
    refine ⟨fun i => intOf (V0 i), fun i => match V1 i with | .string s => s | _ => ⟨#[]⟩, fun i hi => ?_, fun i hi => ?_, by omega⟩
    · obtain ⟨c0, c1, t0, t1⟩ := hx i (by omega)
      obtain ⟨y, ey, _, _⟩ := DataW.trod_int Tryd.underlying3 t0
      obtain ⟨s, es, _, _⟩ := DataW.trod_string Tryd.underlying9 t1
      have e0 := List.singleton_inj.1 ey
      have e1 := List.singleton_inj.1 es
      obtain ⟨b, o, sp'⟩ := a'
      have hspot : sp' = none := by simpa [Addr.add] using World.cell?_spot (hx 0 (by omega)).1
      subst hspot
      rw [add_plain] at c0 c1
      refine ⟨b, o, rfl, ?_, ?_⟩
      · show _ = some (Value.int .i64 (intOf (V0 i)))
        rw [c0, e0]; rfl
      · show W.cell? ⟨b, o + (i * 2 + 1), none⟩ = some (Value.string (match V1 i with | .string s => s | _ => ⟨#[]⟩))
        rw [c1, e1]
    · obtain ⟨c0, c1, t0, t1⟩ := hx i (by omega)
      obtain ⟨y, ey, _, wy⟩ := DataW.trod_int Tryd.underlying3 t0
      obtain ⟨s, es, _, ws⟩ := DataW.trod_string Tryd.underlying9 t1
      have e0 := List.singleton_inj.1 ey
      have e1 := List.singleton_inj.1 es
      simp only [e0, e1, intOf]
      exact ⟨bounds_i64 wy, ws⟩
end Go.Proofs.YtmjgblhihpbbdaaDoor

/-
  An argument that is a slice of slices of letters: what lies in memory.
-/
namespace Go.Proofs.YtmjgblhihpbbdaaDoor
open Go.ChangeShapes Go.WideShapes Go.ChangeAt Go.RowKit

theorem trod_letters {H : Type} {enc : TypeId × Value → H} {W : World} {base : Nat} {sp : Nat → Bool} {held : Bool} {fuel : Nat} {v : Value} {x : DataW H × List MemPlace}
    (h : DataW.trod enc Tryd.prog W base sp held fuel 44 [v] = some x) : ∃ a c L, v = .slice a (List.length L) c ∧ Lts W a L.length (nI L) (nC L) ∧ Fits L.length (nI L) (nC L) ∧ L.length ≤ maxLen := by
  obtain ⟨a, n, c, rfl⟩ : ∃ a n c, v = .slice a n c := by
    rcases Deep.open_slice_pairs Tryd.underlying44 Tryd.underlying73 (by kernel_rfl) rfl rfl (by kernel_rfl) (by kernel_rfl) h with ⟨hcs, _⟩ | ⟨a', len, cap, m, k, V0, V1, D0, D1, P0, P1, hcs, _⟩
    · exact ⟨_, _, _, List.singleton_inj.1 hcs⟩
    · exact ⟨_, _, _, List.singleton_inj.1 hcs⟩
  obtain ⟨I, C, h1, h2, h3⟩ := open_letters h
  have hl : (M.lst I C n).length = n := M.lst_length I C n
  refine ⟨a, c, M.lst I C n, by rw [hl], ?_, ?_, by rw [hl]; exact h3⟩
  · rw [hl]; exact h1.congr fun i hi => ⟨(lst_at hi).1.symm, (lst_at hi).2.symm⟩
  · rw [hl]; intro i hi; rw [(lst_at hi).1, (lst_at hi).2]; exact h2 i hi
theorem open_trays {H : Type} {enc : TypeId × Value → H} {W : World} {base : Nat} {sp : Nat → Bool} {held : Bool} {fuel : Nat} {a : Option Addr} {n c : Nat} {x : DataW H × List MemPlace}
    (h : DataW.trod enc Tryd.prog W base sp held fuel 25 [.slice a n c] = some x) : ∃ MM, Lss W a n MM ∧ n ≤ maxLen := by
  rcases Deep.open_slice1 Tryd.underlying25 (by kernel_rfl) h with ⟨hcs, _⟩ | ⟨a', len, cap, m, k, V, D, Pl, hcs, _, hl, hm, hmm, _, hx⟩
  · simp at hcs
    obtain ⟨rfl, rfl, rfl⟩ := hcs
    exact ⟨fun _ => [], fun i hi => absurd hi (by omega), by omega⟩
  · simp at hcs
    obtain ⟨rfl, rfl, rfl⟩ := hcs
    have hnm : n ≤ m := by rw [hmm]; split <;> omega
    obtain ⟨MM, hMM⟩ := Deep.choose_lt (α := List (Int × ByteArray)) (n := n) (p := fun i L => ∃ b c, V i = .slice b L.length c ∧ Lts W b L.length (nI L) (nC L) ∧ Fits L.length (nI L) (nC L) ∧ L.length ≤ maxLen) (fun i hi => by
      obtain ⟨a1, c1, L, e, h1, h2, h3⟩ := trod_letters (hx i (by omega)).2
      exact ⟨L, a1, c1, e, h1, h2, h3⟩)
    refine ⟨MM, fun i hi => ?_, by omega⟩
    obtain ⟨b, o, sp'⟩ := a'
    have hspot : sp' = none := by simpa [Addr.add] using World.cell?_spot (hx 0 (by omega)).1
    subst hspot
    obtain ⟨b1, c1, e, h1, h2, h3⟩ := hMM i hi
    have hc := (hx i (by omega)).1
    rw [add_plain, e] at hc
    exact ⟨b, o, b1, c1, rfl, hc, h1, h2, h3⟩
end Go.Proofs.YtmjgblhihpbbdaaDoor

/-
  Trays: plain functions on lists of letters in slices. No program is named here.
-/
namespace Go.Proofs.YtmjgblhihpbbdaaDoor
open Go.RowKit

/-- Letters are a batch. -/
def bat (L : List (Int × ByteArray)) : Bool := M.batch L.length (nI L) (nC L)
def FitL (L : List (Int × ByteArray)) : Prop := Fits L.length (nI L) (nC L)
theorem fitL_iff (L : List (Int × ByteArray)) : FitL L ↔ ∀ x ∈ L, (-9223372036854775808 ≤ x.1 ∧ x.1 ≤ 9223372036854775807) ∧ x.2.size ≤ maxLen := by
  constructor
  · intro h x hx
    obtain ⟨i, hi, e⟩ := List.mem_iff_getElem.1 hx
    have := h i hi
    rw [nI_at hi, nC_at hi, e] at this
    exact this
  · intro h i hi
    rw [nI_at hi, nC_at hi]
    exact h _ (List.getElem_mem hi)
theorem mem_flat {MM : Nat → List (Int × ByteArray)} {x : Int × ByteArray} : ∀ {n : Nat}, x ∈ M.flat MM n ↔ ∃ i, i < n ∧ x ∈ MM i
  | 0 => ⟨fun h => (by cases h), fun ⟨i, hi, _⟩ => absurd hi (by omega)⟩
  | n + 1 => by
    show x ∈ M.flat MM n ++ MM n ↔ _
    rw [List.mem_append, mem_flat (n := n)]
    constructor
    · rintro (⟨i, hi, h⟩ | h)
      · exact ⟨i, by omega, h⟩
      · exact ⟨n, by omega, h⟩
    · rintro ⟨i, hi, h⟩
      by_cases e : i = n
      · subst e; exact Or.inr h
      · exact Or.inl ⟨i, by omega, h⟩
/-- Of fitting sizes, and not too many. -/
def Sz (n : Nat) (MM : Nat → List (Int × ByteArray)) : Prop := n ≤ 1048576 ∧ (M.flat MM n).length ≤ 1048576 ∧ FitL (M.flat MM n)
theorem Sz.one {n : Nat} {MM : Nat → List (Int × ByteArray)} (h : Sz n MM) {i : Nat} (hi : i < n) : (MM i).length ≤ 1048576 ∧ FitL (MM i) := by
  refine ⟨?_, (fitL_iff _).2 fun x hx => (fitL_iff _).1 h.2.2 x (mem_flat.2 ⟨i, hi, hx⟩)⟩
  have h1 := h.2.1
  rw [tot_flat] at h1
  have h2 := tot_mono MM (i := i + 1) (n := n) hi
  have h3 : tot MM (i + 1) = tot MM i + (MM i).length := rfl
  omega
theorem Lss.sz {w : World} {a : Option Addr} {n : Nat} {MM : Nat → List (Int × ByteArray)} (h : Lss w a n MM) (hn : n ≤ 1048576) (ht : tot MM n ≤ 1048576) : Sz n MM :=
  ⟨hn, by rw [tot_flat]; exact ht, (fitL_iff _).2 fun x hx => by
    obtain ⟨i, hi, hx⟩ := mem_flat.1 hx
    obtain ⟨_, _, _, _, _, _, _, hf, _⟩ := h i hi
    exact (fitL_iff _).1 hf x hx⟩
/-- The lengths of the first n slices lie between 1 and a size. -/
def lensIn (MM : Nat → List (Int × ByteArray)) (s : Int) (n : Nat) : Bool := (List.range n).all fun i => decide (1 ≤ ((MM i).length : Int) ∧ ((MM i).length : Int) ≤ s)
theorem lensIn_iff (MM : Nat → List (Int × ByteArray)) (s : Int) (n : Nat) : lensIn MM s n = true ↔ ∀ i, i < n → 1 ≤ ((MM i).length : Int) ∧ ((MM i).length : Int) ≤ s := by
  unfold lensIn
  rw [List.all_eq_true]
  exact ⟨fun h i hi => of_decide_eq_true (h i (List.mem_range.2 hi)), fun h i hi => decide_eq_true (h i (List.mem_range.1 hi))⟩
theorem lensIn_no {MM : Nat → List (Int × ByteArray)} {s : Int} {n i : Nat} (hi : i < n) (h : ¬ (1 ≤ ((MM i).length : Int) ∧ ((MM i).length : Int) ≤ s)) : lensIn MM s n = false := by
  rw [Bool.eq_false_iff]; intro e; exact h ((lensIn_iff MM s n).1 e i hi)
def sizeOk (s : Int) : Bool := decide (1 ≤ s ∧ s ≤ 20)
def traysOk (n : Nat) (MM : Nat → List (Int × ByteArray)) (s : Int) : Bool := sizeOk s && (decide (n ≤ 60) && (lensIn MM s n && bat (M.flat MM n)))
theorem traysOk_size {n : Nat} {MM : Nat → List (Int × ByteArray)} {s : Int} (h : sizeOk s = false) : traysOk n MM s = false := by unfold traysOk; rw [h]; rfl
theorem traysOk_many {n : Nat} {MM : Nat → List (Int × ByteArray)} {s : Int} (h : ¬ n ≤ 60) : traysOk n MM s = false := by unfold traysOk; rw [decide_eq_false h]; simp
theorem traysOk_lens {n : Nat} {MM : Nat → List (Int × ByteArray)} {s : Int} (h : lensIn MM s n = false) : traysOk n MM s = false := by unfold traysOk; rw [h]; simp
theorem traysOk_last {n : Nat} {MM : Nat → List (Int × ByteArray)} {s : Int} (h1 : sizeOk s = true) (h2 : n ≤ 60) (h3 : lensIn MM s n = true) : traysOk n MM s = bat (M.flat MM n) := by unfold traysOk; rw [h1, decide_eq_true h2, h3]; rfl
/-- The letters of trays. -/
def empty (n : Nat) (MM : Nat → List (Int × ByteArray)) : List (Int × ByteArray) := if traysOk n MM 20 = true then M.flat MM n else []
theorem empty_le {n : Nat} {MM : Nat → List (Int × ByteArray)} : (empty n MM).length ≤ 60 := by
  unfold empty
  split
  · rename_i h
    unfold traysOk at h
    rw [Bool.and_eq_true, Bool.and_eq_true, Bool.and_eq_true] at h
    exact (M.batch_yes h.2.2.2).1
  · exact Nat.zero_le _
/-- The letter with a number is in a tray. -/
def has (x : Int) (L : List (Int × ByteArray)) : Bool := decide (0 ≤ M.findLetter L.length (nI L) (nC L) x)
def trayAt (x : Int) (MM : Nat → List (Int × ByteArray)) (n : Nat) : Int := match (List.range n).find? (fun i => has x (MM i)) with
  | some i => (i : Int)
  | none => -1
theorem trayAt_hit {x : Int} {MM : Nat → List (Int × ByteArray)} {n k : Nat} (hk : k < n) (h : has x (MM k) = true) (hno : ∀ j, j < k → has x (MM j) = false) : trayAt x MM n = k := by
  unfold trayAt
  have : (List.range n).find? (fun i => has x (MM i)) = some k := by
    rw [List.find?_range_eq_some]
    exact ⟨h, List.mem_range.2 hk, fun j hj => by simp [hno j hj]⟩
  rw [this]
theorem trayAt_miss {x : Int} {MM : Nat → List (Int × ByteArray)} {n : Nat} (hno : ∀ j, j < n → has x (MM j) = false) : trayAt x MM n = -1 := by
  unfold trayAt
  have : (List.range n).find? (fun i => has x (MM i)) = none := by
    rw [List.find?_eq_none]
    intro i hi
    rw [hno i (List.mem_range.1 hi)]; simp
  rw [this]
def trayOf (n : Nat) (MM : Nat → List (Int × ByteArray)) (x : Int) : Int := if traysOk n MM 20 = true then trayAt x MM n else -1
theorem trayOf_no {n : Nat} {MM : Nat → List (Int × ByteArray)} {x : Int} (h : traysOk n MM 20 = false) : trayOf n MM x = -1 := if_neg (by rw [h]; decide)
theorem trayOf_yes {n : Nat} {MM : Nat → List (Int × ByteArray)} {x : Int} (h : traysOk n MM 20 = true) : trayOf n MM x = trayAt x MM n := if_pos h
/-- The label of a tray. -/
def label (n : Nat) (I : Nat → Int) (C : Nat → ByteArray) : ByteArray := if M.batch n I C = true ∧ 0 < n then C 0 ++ ⟨#[45]⟩ ++ C (n - 1) else ⟨#[]⟩
end Go.Proofs.YtmjgblhihpbbdaaDoor

/-
  What the condition on the listed variable gives a walk: the program's sentinel, the jam. And a world that meets it.
-/
namespace Go.Proofs.YtmjgblhihpbbdaaDoor.Laid
open Go.ChangeShapes Go.WideShapes Go.RowKit Go.Joins

theorem star : "*" ++ "errors.errorString" = "*errors.errorString" := by decide
theorem jam_row (u : TypeId) (h : Tryd.prog.typeName? 3 u = some "*errors.errorString") : u = 140 :=
  typeName_ptr_named (nm := "errors.errorString") (by rw [star]; kernel_rfl) (by kernel_rfl) (by decide) u (by rw [star]; exact h)
theorem jam_named : Tryd.prog.globalNamed "loop.example/sortingoffice/impl.errJam" = some 0 := by kernel_rfl
theorem jam_typed : (Tryd.prog.globals[0]?).map (·.type) = some 90 := by kernel_rfl
theorem of_jam {w : World} (h : laidMetH Tryd.prog [("loop.example/sortingoffice/impl.errJam", Rows.laid_loop_example_sortingoffice_impl_errJam)] w) : ∃ J, w.var? Tryd.prog "loop.example/sortingoffice/impl.errJam" = some #[JV J] ∧ Jam w J := by
  rw [MakeChecks.laidMetH_plain _ _ _ (by kernel_rfl)] at h
  obtain ⟨a0, s0, hv0, hc0, _⟩ := laid_sentinel h jam_named jam_typed Tryd.underlying90 jam_row Tryd.underlying140 Tryd.underlying167 rfl rfl Tryd.underlying9 (by kernel_rfl) (by kernel_rfl)
  exact ⟨a0, hv0, by have := World.var?_cell jam_named hv0 0; simpa [Jam, JV] using this⟩
theorem jam_read {H : Type} (enc : TypeId × Value → H) {w : World} {J : Addr} (h : w.var? Tryd.prog "loop.example/sortingoffice/impl.errJam" = some #[JV J]) (sp : Nat → Bool) :
    DataW.TrodVars enc Tryd.prog w sp ["loop.example/sortingoffice/impl.errJam"] [tok enc (JV J)] [.cell 0 0] :=
  vars_read1 enc jam_named jam_typed Tryd.underlying90 h trivial sp
theorem door_jam (os : Os) (args : Array Value) : laidMetH Tryd.prog [("loop.example/sortingoffice/impl.errJam", Rows.laid_loop_example_sortingoffice_impl_errJam)] ((World.laidAll Tryd.prog os [("loop.example/sortingoffice/impl.errJam", Rows.laid_loop_example_sortingoffice_impl_errJam)]).forCall (fun _ _ => 0) ⟨#[], args, []⟩).memory := by
  rw [MakeChecks.laidMetH_plain _ _ _ (by kernel_rfl)]
  exact laidMet_laidAll _ (by kernel_rfl) (by kernel_rfl)
end Go.Proofs.YtmjgblhihpbbdaaDoor.Laid

/-
  An argument that is a slice of strings: what lies in memory.
-/
namespace Go.Proofs.YtmjgblhihpbbdaaDoor
open Go.ChangeShapes Go.WideShapes Go.ChangeAt Go.RowKit

theorem open_strs {H : Type} {enc : TypeId × Value → H} {W : World} {base : Nat} {sp : Nat → Bool} {held : Bool} {fuel : Nat} {v : Value} {x : DataW H × List MemPlace}
    (h : DataW.trod enc Tryd.prog W base sp held fuel 22 [v] = some x) : ∃ (a : Option Addr) (n c : Nat) (S : Nat → ByteArray), v = .slice a n c ∧ Strs W a n S ∧ SFits n S ∧ n ≤ maxLen := by
  rcases open_strings Tryd.underlying22 Tryd.underlying9 (by kernel_rfl) h with ⟨hcs, _⟩ | ⟨a, len, cap, ss, hcs, _, hl, hm, hlen, _, hc, hs⟩
  · exact ⟨none, 0, 0, fun _ => ⟨#[]⟩, List.singleton_inj.1 hcs, fun i hi => absurd hi (by omega), fun i hi => absurd hi (by omega), by omega⟩
  · have hle : len ≤ ss.length := by rw [hlen]; split <;> omega
    refine ⟨some a, len, cap, fun i => ss.getD i ByteArray.empty, List.singleton_inj.1 hcs, fun i hi => ?_, fun i hi => ?_, by omega⟩
    · obtain ⟨b, o, sp'⟩ := a
      have hspot : sp' = none := by simpa [Addr.add] using World.cell?_spot (hc 0 (by omega))
      subst hspot
      have := hc i (by omega)
      rw [add_plain] at this
      exact ⟨b, o, rfl, this⟩
    · refine hs _ ?_
      show ss.getD i ByteArray.empty ∈ ss
      rw [List.getD_eq_getElem?_getD, List.getElem?_eq_getElem (show i < ss.length by omega)]
      exact List.getElem_mem (by omega)
end Go.Proofs.YtmjgblhihpbbdaaDoor
