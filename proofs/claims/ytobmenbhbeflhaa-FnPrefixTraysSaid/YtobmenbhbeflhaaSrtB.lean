/-
  SortBatch in the model of the document: some order of the letters. And what DrawSortedBatch draws.
-/
import Derived.Test.YtobmenbhbeflhaaBins2
import Derived.Test.YtobmenbhbeflhaaConcat
import Derived.Test.YtobmenbhbeflhaaPermM
import Derived.Test.YtobmenbhbeflhaaDrawT
import Derived.Test.YtobmenbhbeflhaaInvM
namespace Go.Proofs.Ytobmenbhbeflhaa
open Go.RowKit
set_option linter.unusedVariables false

def SortOut (w : World) (L : List (Int × ByteArray)) (e : Ending) (w' : World) : Prop := ∃ v R, e = .returned v ∧ Row w' w.heap.size v R ∧ R.Perm L ∧ Below w.heap.size w w'
set_option maxHeartbeats 1000000 in
set_option maxRecDepth 100000 in
theorem spec_l2Sort (w : World) (a : Option Addr) (n c : Nat) (I : Nat → Int) (C : Nat → ByteArray) (h : Lts w a n I C) (hb : M.batch n I C = true) (g k : Nat) (hd : ∀ i : Nat, i < 7 → w.cell? ⟨g, i, none⟩ = some (.int .i64 (i : Int))) :
    Calls Try.prog 35 #[.slice a n c, .slice (some ⟨g, 0, none⟩) 7 k] w (SortOut w (M.lst I C n)) := by
  have HL := Lib.hid h
  have HD := Lib.hid hd
  have hgl : g < w.heap.size := World.block_lt_of_cell? _ _ (hd 0 (by omega))
  have hn := (M.batch_yes hb).1
  have HB := Lib.hid ((batchL_iff n I C).1 hb)
  have R0 := Lib.hid (one_row w)
  have HK : Hid (∀ R : List (Int × ByteArray), R.Perm (M.lst I C n) → R.length ≤ 60 ∧ ∀ i : Nat, i ≤ 6 → (M.flat (M.bins (nI R) (nC R) i R.length) 10).Perm (M.lst I C n) ∧ (M.flat (M.bins (nI R) (nC R) i R.length) 10).length ≤ 60 ∧ ∀ j, j < R.length → M.code (nC R j) = true) := fun R hp => by
    have hbl := HB.out.perm hp.symm
    have hr := (batchL_list R).2 hbl
    refine ⟨hbl.2.2, fun i hi => ?_⟩
    have p2 := pass_perm hr hi
    rw [lst_nI] at p2
    refine ⟨p2.trans hp, ?_, fun j hj => ((M.batch_yes hr).2 j hj).1⟩
    rw [p2.length_eq]
    exact hbl.2.2
  clear h hd hb
  go_enter Try.func35, Try.ntmps35
  go_wp2_with (at_builtin; refine wpList_append_lts _ rfl _ _ rfl w.heap.size (.slice (some ⟨w.heap.size, 0, none⟩) 0 0) [] rfl R0.out a n c I C rfl (HL.out.on (below_alloc0 w _)) (by simp; omega) (by simp) ?_)
  intro v1 w1 r1 gr1 ho1
  try rw [List.nil_append] at r1
  have R1 := Lib.hid r1
  have B1 : Hid (Below w.heap.size w w1) := (below_alloc0 w _).grown gr1 (by simp) (fun q e => by have := (R0.out.lt q e).1; omega)
  clear r1 gr1 ho1
  go_wp2
  go_loopw [5, 6] (fun v i wr => ∃ (j : Nat) (R : List (Int × ByteArray)), j ≤ 7 ∧ i = .int .i64 ((j : Int) - 1) ∧ Hid (Row wr w.heap.size v R) ∧ Hid (R.Perm (M.lst I C n)) ∧ Hid (Below w.heap.size w wr)) (fun _ i _ => (intOf i + 1).toNat)
  case atStart => exact ⟨7, _, Nat.le_refl _, rfl, R1, List.Perm.refl _, B1⟩
  case round =>
    obtain ⟨j, R, hj, rfl, hr, hp, hbw⟩ := hrel
    cases j with
    | zero =>
      go_wp2
      go_ret
      exact ⟨_, _, rfl, hr.out, hp.out, hbw.out⟩
    | succ j =>
      have e1 : (((j + 1 : Nat) : Int) - 1) = (j : Int) := by omega
      rw [e1]
      have c0 := (hbw.out.cell (p := ⟨g, j, none⟩) hgl).trans (HD.out j (by omega))
      have hz := hbw.out.size
      obtain ⟨a2, c2, rfl, _, hl2⟩ := hr.out.form
      obtain ⟨k60, kk⟩ := HK.out R hp.out
      obtain ⟨p2, l2, hcode⟩ := kk j (by omega)
      have HL2 := Lib.hid hl2
      have HCO := Lib.hid hcode
      have HP2 := Lib.hid p2
      have s1 : IntKind.i64.wrap ((j : Int) - 1) = (j : Int) - 1 := IntWalk.i64_in _ (by omega)
      have j0 : (0 : Int) ≤ (j : Int) := by omega
      have j7 : (j : Int) < 7 := by omega
      obtain ⟨m, hm⟩ : ∃ m, R.length = m := ⟨_, rfl⟩
      have HSB := Lib.hid (fun (W : World) hl => spec_l2Bins W a2 R.length c2 (nI R) (nC R) hl HCO.out (by omega) j (by omega))
      rw [hm] at HSB HL2 k60 l2 HP2 ⊢
      clear kk hcode p2 hl2 hm
      go_wp2_with fail
      refine (HSB.out _ HL2.out).mono ?_
      rintro e w2 ⟨G, cc, V, rfl, hmat, b2⟩
      have HMT := Lib.hid hmat
      have K2 := Lib.hid (sstep hbw.out b2)
      clear hmat b2
      go_wp2_with fail
      refine (spec_l2Collect _ _ _ 10 V _ HMT.out (by omega) (by omega)).mono ?_
      rintro e w3 ⟨v3, rfl, r3, b3⟩
      have R3 := Lib.hid (r3.lower K2.out.size)
      have K3 := Lib.hid (sstep K2.out b3)
      clear r3 b3
      go_wp2
      go_roundw
      case rel => exact ⟨j, _, by omega, by go_num, R3, HP2, K3⟩
      case measure => first | (simp [intOf]; done) | (simp [intOf]; omega)
/-- Some order of the letters if they are a batch. -/
def SortRes (w : World) (ok : Bool) (L : List (Int × ByteArray)) (e : Ending) (w' : World) : Prop := ∃ v R, e = .returned (.tuple #[v, .bool ok]) ∧ Row w' w.heap.size v R ∧ (ok = true → R.Perm L) ∧ Below w.heap.size w w'
set_option maxHeartbeats 1000000 in
set_option maxRecDepth 100000 in
theorem spec_SortBatch (w : World) (a : Option Addr) (n c : Nat) (I : Nat → Int) (C : Nat → ByteArray) (h : Lts w a n I C) (hf : Fits n I C) (hn : n ≤ 1048576) :
    Calls Try.prog 19 #[.slice a n c] w (SortRes w (M.batch n I C) (M.lst I C n)) := by
  have HL := Lib.hid h
  have HV := Lib.hid (spec_BatchValid w a n c I C h hf hn)
  clear h hf
  cases hb : M.batch n I C
  · rw [hb] at HV
    clear hb
    go_enter Try.func19, Try.ntmps19
    go_wp2_with fail
    refine HV.out.mono ?_
    rintro e w1 ⟨rfl, b1⟩
    have hz := b1.size
    have ro := (one_row w1).lower hz
    go_wp2
    go_ret2
    exact ⟨_, [], rfl, ro, (fun h => by cases h), by go_grown⟩
  · have HB := Lib.hid hb
    rw [hb] at HV
    clear hb
    go_enter Try.func19, Try.ntmps19
    go_wp2_with fail
    refine HV.out.mono ?_
    rintro e w1 ⟨rfl, b1⟩
    have B1 := Lib.hid b1
    have HL1 := Lib.hid (HL.out.on b1)
    have HL2 := Lib.hid (HL1.out.on (below_alloc0 w1 (.cells #[.int .i64 0, .int .i64 1, .int .i64 2, .int .i64 3, .int .i64 4, .int .i64 5, .int .i64 6] 3)))
    have B2 := Lib.hid (sstep B1.out (below_alloc0 w1 (.cells #[.int .i64 0, .int .i64 1, .int .i64 2, .int .i64 3, .int .i64 4, .int .i64 5, .int .i64 6] 3)))
    clear b1
    go_wp2_with fail
    refine (spec_l2Sort _ a n c I C HL2.out HB.out _ _ ?_).mono ?_
    · intro i hi
      match i, hi with
      | 0, _ => simp [go_sem]
      | 1, _ => simp [go_sem]
      | 2, _ => simp [go_sem]
      | 3, _ => simp [go_sem]
      | 4, _ => simp [go_sem]
      | 5, _ => simp [go_sem]
      | 6, _ => simp [go_sem]
    · rintro e w3 ⟨v3, R, rfl, r3, hp, b3⟩
      have R3 := Lib.hid (r3.lower B2.out.size)
      have B3 := Lib.hid (sstep B2.out b3)
      have HP := Lib.hid hp
      clear r3 b3 hp
      go_wp2
      go_ret2
      exact ⟨_, R, rfl, R3.out, fun _ => HP.out, B3.out⟩
/-- A short list of small letters, in another order. -/
theorem Small.perm {z : Nat} {L R : List (Int × ByteArray)} (h : Small z L) (p : R.Perm L) : Small z R := fun x hx => h x (p.subset hx)
end Go.Proofs.Ytobmenbhbeflhaa
