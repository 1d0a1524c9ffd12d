/-
  Where a letter stands; whether two batches have the same letters in any order.
-/
import Derived.Test.YtedhenffolfkeaaFind
import Derived.Test.YtedhenffolfkeaaSo
import Derived.Test.YtedhenffolfkeaaPermM
import Derived.BigQuiet
namespace Go.Proofs.Ytedhenffolfkeaa
open Go.RowKit
set_option linter.unusedVariables false

set_option maxHeartbeats 400000 in
theorem soPlace_any (w : World) (a : Option Addr) (n c : Nat) (I : Nat → Int) (C : Nat → ByteArray) (h : Lts w a n I C) (hf : Fits n I C) (x : Int) :
    Calls Try.prog 15 #[.slice a n c, .int .i64 x] w fun e w' => e = .returned (.int .i64 (M.findLetter n I C x)) ∧ Below w.heap.size w w' := by
  have HL := Lib.hid h
  clear h
  go_enter Try.func15, Try.ntmps15
  go_wp2_with fail
  refine (impl_FindLetter _ a n c I C HL.out hf x).mono ?_
  rintro e w1 ⟨rfl, k1⟩
  go_wp2
  go_ret
  exact ⟨rfl, k1⟩
/-- Where a letter of a batch stands. -/
theorem find_at {L : List (Int × ByteArray)} (h : BatchL L) {k : Nat} (hk : k < L.length) : M.findLetter L.length (nI L) (nC L) (nI L k) = (k : Int) := by
  rw [M.findLetter_yes ((batchL_list L).2 h)]
  refine M.find_hit hk rfl fun j hj e => ?_
  have hd := (List.pairwise_map.1 h.2.1)
  have := List.pairwise_iff_getElem.1 hd j k (by omega) hk hj
  rw [nI_at (by omega), nI_at hk] at e
  exact this e
set_option maxHeartbeats 2000000 in
theorem soAll_perm (w : World) (a a' : Option Addr) (c c' : Nat) (A B : List (Int × ByteArray)) (h : Lts w a A.length (nI A) (nC A)) (h' : Lts w a' B.length (nI B) (nC B)) (hB : BatchL B) (hp : A.Perm B) :
    Calls Try.prog 16 #[.slice a A.length c, .slice a' B.length c'] w fun e w' => e = .returned (.bool true) ∧ Below w.heap.size w w' := by
  have HL := Lib.hid h
  have HL' := Lib.hid h'
  have HF := Lib.hid hB.fits
  have hn := hB.2.2
  have hl := hp.length_eq
  have HQ : Hid (∀ i, i < A.length → ∃ k, k < B.length ∧ nI B k = nI A i ∧ nC B k = nC A i ∧ M.findLetter B.length (nI B) (nC B) (nI A i) = (k : Int)) := fun i hi => by
    have hm : A[i] ∈ B := hp.mem_iff.1 (List.getElem_mem hi)
    obtain ⟨k, hk, he⟩ := List.getElem_of_mem hm
    have e1 : nI B k = nI A i := by rw [nI_at hk, nI_at hi, he]
    exact ⟨k, hk, e1, by rw [nC_at hk, nC_at hi, he], by rw [← e1]; exact find_at hB hk⟩
  have hnA : A.length ≤ 60 := by omega
  have HLE := Lib.hid hl
  clear h h' hp hB hl
  go_enter Try.func16, Try.ntmps16
  go_wp2
  go_loopw [5] (fun i wr => ∃ j : Nat, j ≤ A.length ∧ i = .int .i64 j ∧ Hid (Below w.heap.size w wr)) (fun i _ => A.length - (intOf i).toNat)
  case atStart => exact ⟨0, Nat.zero_le _, rfl, Below.refl _ _⟩
  case round =>
    obtain ⟨j, hj, rfl, hb⟩ := hrel
    by_cases hlt : j < A.length
    · have hji : (j : Int) < (A.length : Int) := by omega
      have hj0 : (0 : Int) ≤ (j : Int) := by omega
      obtain ⟨k, hk, e1, e2, e3⟩ := HQ.out j hlt
      have E3 := Lib.hid e3
      have hki : (k : Int) < (B.length : Int) := by omega
      have hk0 : ¬ (k : Int) < 0 := by omega
      have hk1 : (0 : Int) ≤ (k : Int) := by omega
      have LA := HL.out.on hb.out
      have LB := HL'.out.on hb.out
      obtain ⟨b, o, ha, c0, c1⟩ := LA j hlt
      obtain ⟨b', o', ha', c0', c1'⟩ := LB k hk
      subst ha ha'
      have HLB := Lib.hid LB
      have HD : Hid ((wr.cell? ⟨b, o + j * 2, none⟩ = some (.int .i64 (nI A j)) ∧ wr.cell? ⟨b, o + j * 2 + 1, none⟩ = some (.string (nC A j))) ∧ wr.cell? ⟨b', o' + k * 2, none⟩ = some (.int .i64 (nI A j)) ∧ wr.cell? ⟨b', o' + k * 2 + 1, none⟩ = some (.string (nC A j))) := ⟨⟨c0, c1⟩, by rw [← e1]; exact c0', by rw [← e2]; exact c1'⟩
      have hlb : Hid (b < wr.heap.size ∧ b' < wr.heap.size) := ⟨World.block_lt_of_cell? _ _ c0, World.block_lt_of_cell? _ _ c0'⟩
      clear LA LB c0' c1' e1 e2 e3
      go_wp2_with fail
      refine (soPlace_any wr _ B.length c' (nI B) (nC B) HLB.out HF.out _).mono ?_
      rw [E3.out]
      rintro e w1 ⟨rfl, k1⟩
      have B1 := Lib.hid (sstep hb.out k1)
      have hkc : ∀ (q : Addr) (v : Value), q.block < wr.heap.size → wr.cell? q = some v → w1.cell? q = some v := fun q v hq hv => by rw [k1.cell (p := q) hq]; exact hv
      obtain ⟨⟨f0, f1⟩, f2, f3⟩ := HD.out
      have g0 := hkc _ _ hlb.out.1 f0
      have g1 := hkc _ _ hlb.out.1 f1
      have g2 := hkc _ _ hlb.out.2 f2
      have g3 := hkc _ _ hlb.out.2 f3
      clear f0 f1 f2 f3 c0 c1 k1 hkc HLB
      go_wp2
      go_quiet (fail)
      go_wp2
      go_roundw
      case rel => exact ⟨j + 1, by omega, by go_num, ⟨B1.out.os, B1.out.tape, B1.out.output, B1.out.size, B1.out.block⟩⟩
      case measure => simp [intOf]; omega
    · obtain rfl : j = A.length := by omega
      have he := HLE.out
      have heb : ((A.length : Int) == (B.length : Int)) = true := by rw [beq_iff_eq]; omega
      clear he
      go_wp2
      go_ret
      exact ⟨rfl, hb.out⟩
end Go.Proofs.Ytedhenffolfkeaa
