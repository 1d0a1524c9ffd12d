/-
  What FindLetter returns, in the program and in the model of the document.
-/
import Derived.Test.YtbcoklognedffaaPureA
import Derived.Test.YtbcoklognedffaaBatch
import Derived.Test.YtbcoklognedffaaMark
import Derived.Test.YtbcoklognedffaaPermA
import Derived.BigQuiet
namespace Go.Proofs.Ytbcoklognedffaa
open Go.RowKit
open Go.PlainAid (bt get_bt bt_nonneg bt_le)

set_option maxHeartbeats 400000 in
theorem same_id (w : World) (B : Nat) (x i : Int) (s : ByteArray) (hB : w.cell? ⟨B, 0, none⟩ = some (.int .i64 x)) :
    Calls Try.prog 87 #[.agg #[.int .i64 i, .string s], .pointer (some ⟨B, 0, none⟩)] w fun e w' => e = .returned (.bool (decide (i = x))) ∧ Below w.heap.size w w' := by
  have hlt := World.block_lt_of_cell? _ _ hB
  have hv := Lib.hid (show (i == x) = decide (i = x) from rfl)
  go_enter Try.func87, Try.ntmps87
  go_wp2
  go_ret
  exact ⟨ret_bool hv.out, by go_grown⟩

set_option maxHeartbeats 1000000 in
theorem index_id (w : World) (a : Option Addr) (n c : Nat) (I : Nat → Int) (C : Nat → ByteArray) (h : Lts w a n I C) (hn : n ≤ 60) (B : Nat) (x : Int) (hB : w.cell? ⟨B, 0, none⟩ = some (.int .i64 x)) :
    Calls Try.prog 86 #[.slice a n c, .func (.func 87) #[] #[.pointer (some ⟨B, 0, none⟩)]] w fun e w' => e = .returned (.int .i64 (M.find I n x)) ∧ Below w.heap.size w w' := by
  have HL := Lib.hid h
  have HB := Lib.hid hB
  have hlt0 := World.block_lt_of_cell? _ _ hB
  clear h hB
  go_enter Try.func86, Try.ntmps86
  go_wp2
  go_loopw [8] (fun i wr => ∃ k : Nat, k ≤ n ∧ i = .int .i64 k ∧ Hid (∀ j, j < k → I j ≠ x) ∧ Below w.heap.size w wr) (fun i _ => n - (intOf i).toNat)
  case atStart => exact ⟨0, Nat.zero_le _, rfl, fun j hj => absurd hj (by omega), Below.refl _ _⟩
  case round =>
    obtain ⟨k, hk, rfl, hno, hb⟩ := hrel
    have hz := hb.size
    by_cases hlt : k < n
    · obtain ⟨b, o, rfl, c0, c1⟩ := (HL.out.on hb) k hlt
      by_cases he : I k = x
      · have hd := Lib.hid (decide_eq_true he)
        have HE := Lib.hid he
        clear he
        go_wp2_with (go_at_call 87; refine (same_id _ _ _ _ _ ((hb.cell (p := ⟨B, 0, none⟩) hlt0).trans HB.out)).mono ?_; rw [hd.out]; rintro e w1 ⟨rfl, hb1⟩)
        go_ret
        exact ⟨ret_int (M.find_hit hlt HE.out hno).symm, hb.trans (hb1.mono hz)⟩
      · have hd := Lib.hid (decide_eq_false he)
        have HE := Lib.hid he
        clear he
        go_wp2_with (go_at_call 87; refine (same_id _ _ _ _ _ ((hb.cell (p := ⟨B, 0, none⟩) hlt0).trans HB.out)).mono ?_; rw [hd.out]; rintro e w1 ⟨rfl, hb1⟩)
        go_roundw
        case rel => exact ⟨k + 1, by omega, by go_num, M.find_below hno HE.out, hb.trans (hb1.mono hz)⟩
        case measure => simp [intOf]; omega
    · obtain rfl : k = n := by omega
      go_wp2
      go_ret
      exact ⟨ret_int (M.find_miss hno).symm, hb⟩

set_option maxHeartbeats 1000000 in
theorem impl_FindLetter (w : World) (a : Option Addr) (n c : Nat) (I : Nat → Int) (C : Nat → ByteArray) (h : Lts w a n I C) (hf : Fits n I C) (x : Int) :
    Calls Try.prog 60 #[.slice a n c, .int .i64 x] w fun e w' => e = .returned (.int .i64 (M.findLetter n I C x)) ∧ Below w.heap.size w w' := by
  have HF := Lib.hid hf
  have HL := Lib.hid (h.on ((Below.refl _ _).alloc (Nat.le_refl _) (.cells #[.int .i64 x] 3)))
  clear h hf
  have hmf : ∀ (fn : Fn) (first cap : Array Value) (w : World), (Instr.makeFunc fn first cap).run Try.prog w = .ok (.func fn first cap) w := fun _ _ _ _ => rfl
  cases hb : M.batch n I C
  · have hv := Lib.hid (M.findLetter_no (x := x) hb)
    have HB := Lib.hid hb
    clear hb
    go_enter Try.func60, Try.ntmps60
    go_wp2_with (go_at_call 40; refine (impl_BatchValid _ _ _ _ _ _ HL.out HF.out).mono ?_; rw [HB.out]; rintro e w1 ⟨rfl, hb1⟩)
    go_ret
    exact ⟨ret_int hv.out.symm, step ((Below.refl _ _).alloc (Nat.le_refl _) _) hb1⟩
  · have hv := Lib.hid (M.findLetter_yes (x := x) hb)
    have hn := (M.batch_yes hb).1
    have HB := Lib.hid hb
    clear hb
    go_enter Try.func60, Try.ntmps60
    go_wp2_with fail
    refine (impl_BatchValid _ _ _ _ _ _ HL.out HF.out).mono ?_
    rw [HB.out]
    rintro e w1 ⟨rfl, hb1⟩
    have hc1 : w1.cell? ⟨w.heap.size, 0, none⟩ = some (.int .i64 x) := by
      rw [hb1.cell (p := ⟨w.heap.size, 0, none⟩) (by simp)]
      simp
    go_wp2_with fail
    refine (index_id _ _ _ _ _ _ (HL.out.on hb1) hn _ x hc1).mono ?_
    rintro e w2 ⟨rfl, hb2⟩
    go_wp2
    go_ret
    exact ⟨ret_int hv.out.symm, step (step ((Below.refl _ _).alloc (Nat.le_refl _) _) hb1) hb2⟩

set_option maxHeartbeats 1000000 in
theorem spec_FindLetter (w : World) (a : Option Addr) (n c : Nat) (I : Nat → Int) (C : Nat → ByteArray) (h : Lts w a n I C) (hf : Fits n I C) (hn : n ≤ 1048576) (x : Int) :
    Calls Try.prog 78 #[.slice a n c, .int .i64 x] w fun e w' => e = .returned (.int .i64 (M.findLetter n I C x)) ∧ Below w.heap.size w w' := by
  have HF := Lib.hid hf
  have HL := Lib.hid h
  clear h hf
  have h0 := Below.refl w.heap.size w
  cases hb : M.batch n I C
  · have hv := Lib.hid (M.findLetter_no (x := x) hb)
    have hpos := M.batch_pos hb
    have HB := Lib.hid hb
    clear hb
    go_enter Try.func78, Try.ntmps78
    go_wp2
    refine wp_loop_rounds 1 ?_
    rw [rounds_succ]
    go_wp2_with fail
    refine (spec_BatchValid _ _ _ _ _ _ HL.out HF.out hn).mono ?_
    rw [HB.out]
    rintro e w1 ⟨rfl, hb1⟩
    go_wp2
    go_ret
    exact ⟨ret_int hv.out.symm, hb1⟩
  · have hv := Lib.hid (M.findLetter_yes (x := x) hb)
    have hn6 := (M.batch_yes hb).1
    have HB := Lib.hid hb
    clear hb
    go_enter Try.func78, Try.ntmps78
    go_wp2
    go_loopw [5] (fun i wr => ∃ k : Nat, k ≤ n ∧ i = .int .i64 k ∧ Hid (∀ j, j < k → I j ≠ x) ∧ Below w.heap.size w wr) (fun i _ => n - (intOf i).toNat)
    case atStart => exact ⟨0, Nat.zero_le _, rfl, fun j hj => absurd hj (by omega), h0⟩
    case round =>
      obtain ⟨k, hk, rfl, hno, hb⟩ := hrel
      have hz := hb.size
      by_cases hlt : k < n
      · have HS0 := Lib.hid (HL.out.on hb)
        go_wp2_with fail
        refine (spec_BatchValid _ _ _ _ _ _ HS0.out HF.out hn).mono ?_
        rw [HB.out]
        rintro e w1 ⟨rfl, hb1⟩
        have hbb := step hb hb1
        obtain ⟨b, o, rfl, c0, c1⟩ := (HS0.out.on hb1) k hlt
        by_cases he : I k = x
        · have hd : (I k == x) = true := by simpa using he
          have HE := Lib.hid he
          clear he
          go_wp2
          go_ret
          exact ⟨ret_int (by rw [hv.out, M.find_hit hlt HE.out hno]), hbb⟩
        · have hd : (I k == x) = false := by simpa using he
          have HE := Lib.hid he
          clear he
          go_wp2
          go_roundw
          case rel => exact ⟨k + 1, by omega, by go_num, M.find_below hno HE.out, hbb⟩
          case measure => simp [intOf]; omega
      · obtain rfl : k = n := by omega
        go_wp2
        go_ret
        exact ⟨ret_int (by rw [hv.out, M.find_miss hno]), hb⟩
end Go.Proofs.Ytbcoklognedffaa

/-
  Letters that are compared one by one; where the letters with a prefix stand.
-/
namespace Go.Proofs.Ytbcoklognedffaa
open Go.RowKit

set_option maxHeartbeats 1000000 in
theorem soBatch_same (w : World) (a a' : Option Addr) (n c c' : Nat) (I : Nat → Int) (C : Nat → ByteArray) (h : Lts w a n I C) (h' : Lts w a' n I C) (hn : n ≤ 1048576) :
    Calls Try.prog 15 #[.slice a n c, .slice a' n c'] w fun e w' => e = .returned (.bool true) ∧ Below w.heap.size w w' := by
  have HL := Lib.hid h
  have HL' := Lib.hid h'
  clear h h'
  go_enter Try.func15, Try.ntmps15
  go_wp2
  go_loopw [5] (fun i wr => ∃ k : Nat, k ≤ n ∧ i = .int .i64 k ∧ Below w.heap.size w wr) (fun i _ => n - (intOf i).toNat)
  case atStart => exact ⟨0, Nat.zero_le _, rfl, Below.refl _ _⟩
  case round =>
    obtain ⟨k, hk, rfl, hb⟩ := hrel
    have hz := hb.size
    by_cases hlt : k < n
    · obtain ⟨b, o, rfl, c0, c1⟩ := (HL.out.on hb) k hlt
      obtain ⟨b', o', rfl, c0', c1'⟩ := (HL'.out.on hb) k hlt
      go_wp2
      go_region
      all_goals
        go_wp2
        exact ⟨⟨k + 1, by omega, by go_num, by go_grown⟩, by simp [intOf]; omega⟩
    · obtain rfl : k = n := by omega
      go_wp2
      go_ret
      exact ⟨rfl, hb⟩
theorem soBatch_row (w : World) (b1 b2 : Nat) (v v' : Value) (L : List (Int × ByteArray)) (h : Row w b1 v L) (h' : Row w b2 v' L) (hn : L.length ≤ 1048576) :
    Calls Try.prog 15 #[v, v'] w fun e w' => e = .returned (.bool true) ∧ Below w.heap.size w w' := by
  obtain ⟨a, c, rfl, _, hL⟩ := h.form
  obtain ⟨a', c', rfl, _, hL'⟩ := h'.form
  exact soBatch_same w a a' L.length c c' _ _ hL hL' hn
theorem lst_cut (I : Nat → Int) (C : Nat → ByteArray) (j : Nat) : ∀ n, j < n → ∃ R, M.lst I C n = M.lst I C j ++ (I j, C j) :: R
  | 0, h => absurd h (by omega)
  | n + 1, h => by
    by_cases e : j = n
    · subst e; exact ⟨[], M.lst_succ I C j⟩
    · obtain ⟨R, hR⟩ := lst_cut I C j n (by omega)
      exact ⟨R ++ [(I n, C n)], by rw [M.lst_succ, hR, List.append_assoc, List.cons_append]⟩
theorem withP_at {p : ByteArray} {I : Nat → Int} {C : Nat → ByteArray} {j n : Nat} (hj : j < n) (h : M.begins (C j) p = true) :
    (M.withP p (M.lst I C j)).length < (M.withP p (M.lst I C n)).length ∧ nI (M.withP p (M.lst I C n)) (M.withP p (M.lst I C j)).length = I j ∧ nC (M.withP p (M.lst I C n)) (M.withP p (M.lst I C j)).length = C j := by
  obtain ⟨R, hR⟩ := lst_cut I C j n hj
  have e : M.withP p (M.lst I C n) = M.withP p (M.lst I C j) ++ (I j, C j) :: M.withP p R := by
    rw [hR]; unfold M.withP; rw [List.filter_append, List.filter_cons, h]; rfl
  rw [e]
  refine ⟨by simp, ?_, ?_⟩
  · rw [nI_at (by simp)]; simp
  · rw [nC_at (by simp)]; simp
theorem sansP_at {p : ByteArray} {I : Nat → Int} {C : Nat → ByteArray} {j n : Nat} (hj : j < n) (h : M.begins (C j) p = false) :
    (M.sansP p (M.lst I C j)).length < (M.sansP p (M.lst I C n)).length ∧ nI (M.sansP p (M.lst I C n)) (M.sansP p (M.lst I C j)).length = I j ∧ nC (M.sansP p (M.lst I C n)) (M.sansP p (M.lst I C j)).length = C j := by
  obtain ⟨R, hR⟩ := lst_cut I C j n hj
  have e : M.sansP p (M.lst I C n) = M.sansP p (M.lst I C j) ++ (I j, C j) :: M.sansP p R := by
    rw [hR]; unfold M.sansP; rw [List.filter_append, List.filter_cons, h]; rfl
  rw [e]
  refine ⟨by simp, ?_, ?_⟩
  · rw [nI_at (by simp)]; simp
  · rw [nC_at (by simp)]; simp
end Go.Proofs.Ytbcoklognedffaa

/-
  Where a letter stands; whether two batches have the same letters in any order.
-/
namespace Go.Proofs.Ytbcoklognedffaa
open Go.RowKit
set_option linter.unusedVariables false

set_option maxHeartbeats 400000 in
theorem soPlace_any (w : World) (a : Option Addr) (n c : Nat) (I : Nat → Int) (C : Nat → ByteArray) (h : Lts w a n I C) (hf : Fits n I C) (x : Int) :
    Calls Try.prog 18 #[.slice a n c, .int .i64 x] w fun e w' => e = .returned (.int .i64 (M.findLetter n I C x)) ∧ Below w.heap.size w w' := by
  have HL := Lib.hid h
  clear h
  go_enter Try.func18, Try.ntmps18
  go_wp2_with fail
  refine (impl_FindLetter _ a n c I C HL.out hf x).mono ?_
  rintro e w1 ⟨rfl, k1⟩
  go_wp2
  go_ret
  exact ⟨rfl, k1⟩
/-- Where a letter of a batch stands. -/
theorem find_at {L : List (Int × ByteArray)} (h : BatchL L) {k : Nat} (hk : k < L.length) : M.findLetter L.length (nI L) (nC L) (nI L k) = (k : Int) := by
  rw [M.findLetter_yes ((batchL_list L).2 h)]
  refine M.find_hit hk rfl fun j hj e => ?_
  have hd := (List.pairwise_map.1 h.2.1)
  have := List.pairwise_iff_getElem.1 hd j k (by omega) hk hj
  rw [nI_at (by omega), nI_at hk] at e
  exact this e
set_option maxHeartbeats 2000000 in
theorem soAll_perm (w : World) (a a' : Option Addr) (c c' : Nat) (A B : List (Int × ByteArray)) (h : Lts w a A.length (nI A) (nC A)) (h' : Lts w a' B.length (nI B) (nC B)) (hB : BatchL B) (hp : A.Perm B) :
    Calls Try.prog 24 #[.slice a A.length c, .slice a' B.length c'] w fun e w' => e = .returned (.bool true) ∧ Below w.heap.size w w' := by
  have HL := Lib.hid h
  have HL' := Lib.hid h'
  have HF := Lib.hid hB.fits
  have hn := hB.2.2
  have hl := hp.length_eq
  have HQ : Hid (∀ i, i < A.length → ∃ k, k < B.length ∧ nI B k = nI A i ∧ nC B k = nC A i ∧ M.findLetter B.length (nI B) (nC B) (nI A i) = (k : Int)) := fun i hi => by
    have hm : A[i] ∈ B := hp.mem_iff.1 (List.getElem_mem hi)
    obtain ⟨k, hk, he⟩ := List.getElem_of_mem hm
    have e1 : nI B k = nI A i := by rw [nI_at hk, nI_at hi, he]
    exact ⟨k, hk, e1, by rw [nC_at hk, nC_at hi, he], by rw [← e1]; exact find_at hB hk⟩
  have hnA : A.length ≤ 60 := by omega
  have HLE := Lib.hid hl
  clear h h' hp hB hl
  go_enter Try.func24, Try.ntmps24
  go_wp2
  go_loopw [5] (fun i wr => ∃ j : Nat, j ≤ A.length ∧ i = .int .i64 j ∧ Hid (Below w.heap.size w wr)) (fun i _ => A.length - (intOf i).toNat)
  case atStart => exact ⟨0, Nat.zero_le _, rfl, Below.refl _ _⟩
  case round =>
    obtain ⟨j, hj, rfl, hb⟩ := hrel
    by_cases hlt : j < A.length
    · have hji : (j : Int) < (A.length : Int) := by omega
      have hj0 : (0 : Int) ≤ (j : Int) := by omega
      obtain ⟨k, hk, e1, e2, e3⟩ := HQ.out j hlt
      have E3 := Lib.hid e3
      have hki : (k : Int) < (B.length : Int) := by omega
      have hk0 : ¬ (k : Int) < 0 := by omega
      have hk1 : (0 : Int) ≤ (k : Int) := by omega
      have LA := HL.out.on hb.out
      have LB := HL'.out.on hb.out
      obtain ⟨b, o, ha, c0, c1⟩ := LA j hlt
      obtain ⟨b', o', ha', c0', c1'⟩ := LB k hk
      subst ha ha'
      have HLB := Lib.hid LB
      have HD : Hid ((wr.cell? ⟨b, o + j * 2, none⟩ = some (.int .i64 (nI A j)) ∧ wr.cell? ⟨b, o + j * 2 + 1, none⟩ = some (.string (nC A j))) ∧ wr.cell? ⟨b', o' + k * 2, none⟩ = some (.int .i64 (nI A j)) ∧ wr.cell? ⟨b', o' + k * 2 + 1, none⟩ = some (.string (nC A j))) := ⟨⟨c0, c1⟩, by rw [← e1]; exact c0', by rw [← e2]; exact c1'⟩
      have hlb : Hid (b < wr.heap.size ∧ b' < wr.heap.size) := ⟨World.block_lt_of_cell? _ _ c0, World.block_lt_of_cell? _ _ c0'⟩
      clear LA LB c0' c1' e1 e2 e3
      go_wp2_with fail
      refine (soPlace_any wr _ B.length c' (nI B) (nC B) HLB.out HF.out _).mono ?_
      rw [E3.out]
      rintro e w1 ⟨rfl, k1⟩
      have B1 := Lib.hid (sstep hb.out k1)
      have hkc : ∀ (q : Addr) (v : Value), q.block < wr.heap.size → wr.cell? q = some v → w1.cell? q = some v := fun q v hq hv => by rw [k1.cell (p := q) hq]; exact hv
      obtain ⟨⟨f0, f1⟩, f2, f3⟩ := HD.out
      have g0 := hkc _ _ hlb.out.1 f0
      have g1 := hkc _ _ hlb.out.1 f1
      have g2 := hkc _ _ hlb.out.2 f2
      have g3 := hkc _ _ hlb.out.2 f3
      clear f0 f1 f2 f3 c0 c1 k1 hkc HLB
      go_wp2
      go_quiet (fail)
      go_wp2
      go_roundw
      case rel => exact ⟨j + 1, by omega, by go_num, ⟨B1.out.os, B1.out.tape, B1.out.output, B1.out.size, B1.out.block⟩⟩
      case measure => simp [intOf]; omega
    · obtain rfl : j = A.length := by omega
      have he := HLE.out
      have heb : ((A.length : Int) == (B.length : Int)) = true := by rw [beq_iff_eq]; omega
      clear he
      go_wp2
      go_ret
      exact ⟨rfl, hb.out⟩
end Go.Proofs.Ytbcoklognedffaa
