/-
  What BinPass leaves, in the program and in the model of the document.
-/
import Derived.Test.YtedhenffolfkeaaPut2
import Derived.Test.YtedhenffolfkeaaPureA
import Derived.Test.YtedhenffolfkeaaBatch
import Derived.BigQuiet
import Derived.Deep.QuietTactic
namespace Go.Proofs.Ytedhenffolfkeaa
open Go.RowKit
open Go.PlainAid (bt get_bt bt_nonneg bt_le)

set_option maxHeartbeats 400000 in
theorem digitOf_any (x : Int) (w : World) (x0 : 48 ≤ x) (x1 : x ≤ 57) :
    Calls Try.prog 69 #[.int .i32 x] w fun e w' => e = .returned (.int .i64 (x - 48)) ∧ w' = w := by
  go_enter Try.func69, Try.ntmps69
  go_wp2
  go_ret
  exact ⟨rfl, rfl⟩

/-- The slice of bins that a call has made. -/
def BinsOut (w : World) (n : Nat) (M : Nat → List (Int × ByteArray)) (e : Ending) (w' : World) : Prop :=
  ∃ (G c : Nat) (V : Nat → Value), e = .returned (.slice (some ⟨G, 0, none⟩) n c) ∧ Mat w' w.heap.size (.slice (some ⟨G, 0, none⟩) n c) n V M ∧ Below w.heap.size w w'
def BinsOk (w : World) (n : Nat) (M : Nat → List (Int × ByteArray)) (e : Ending) (w' : World) : Prop :=
  ∃ (G c : Nat) (V : Nat → Value), e = .returned (.tuple #[.slice (some ⟨G, 0, none⟩) n c, .bool true]) ∧ Mat w' w.heap.size (.slice (some ⟨G, 0, none⟩) n c) n V M ∧ Below w.heap.size w w'
theorem below_only {W w w' : World} {base n : Nat} {v : Value} {V : Nat → Value} {M : Nat → List (Int × ByteArray)} (hb : Below W.heap.size W w) (h : Mat w base v n V M) (hbase : W.heap.size ≤ base) (ho : Only w w' (inM v n V)) : Below W.heap.size W w' :=
  hb.trans (ho.below (B := W.heap.size) (fun k hk _ hm => by have := (h.lt hm).1; omega) hb.size)

theorem Lts.only {w w' : World} {a : Option Addr} {n : Nat} {I : Nat → Int} {C : Nat → ByteArray} {T : Nat → Prop} (h : Lts w a n I C) (ho : Only w w' T) (hn : ∀ b o, a = some ⟨b, o, none⟩ → 0 < n → ¬ T b) : Lts w' a n I C := by
  intro i hi
  obtain ⟨b, o, e, h1, h2⟩ := h i hi
  have hl := h.lt e (by omega)
  have hk := ho.block b hl (hn b o e (by omega))
  exact ⟨b, o, e, (World.cell?_of_block (a := ⟨b, o + i * 2, none⟩) hk).trans h1, (World.cell?_of_block (a := ⟨b, o + i * 2 + 1, none⟩) hk).trans h2⟩

set_option maxHeartbeats 2000000 in
set_option maxRecDepth 100000 in
theorem impl_BinPass_yes (w : World) (a : Option Addr) (n c : Nat) (I : Nat → Int) (C : Nat → ByteArray) (h : Lts w a n I C) (hf : Fits n I C) (hv : M.batch n I C = true) (x : Nat) (hx : x ≤ 6) :
    Calls Try.prog 43 #[.slice a n c, .int .i64 x] w (BinsOk w 10 (M.bins I C x n)) := by
  have HL := Lib.hid h
  have HF := Lib.hid hf
  obtain ⟨hn, hgood⟩ := M.batch_yes hv
  have HG := Lib.hid hgood
  have HV := Lib.hid hv
  have hwi := Lib.hid (decide_eq_true (show (0 : Int) ≤ (x : Int) ∧ (x : Int) ≤ 6 from by omega))
  obtain ⟨CC, hCC⟩ : ∃ CC, madeCells #[Value.slice none 0 0] 10 = CC := ⟨_, rfl⟩
  have hmm := fun W => mat_made W 10 (by omega) 93 Try.underlying93 .i64 .i64
  rw [hCC] at hmm
  have hmk : ∀ W : World, (Instr.makeSlice 93 (.int .i64 10) (.int .i64 10)).run Try.prog W = .ok (.slice (some ⟨W.heap.size, 0, none⟩) 10 10) (W.alloc (.cells CC 23)) := fun W => (hmm W).1
  have hmt := Lib.hid (fun W => (hmm W).2)
  clear hmm hCC
  clear h hf hgood hv
  go_enter Try.func43, Try.ntmps43
  go_wp2_with fail
  refine (impl_BatchValid _ a n c I C HL.out HF.out).mono ?_
  rw [HV.out]
  rintro e w1 ⟨rfl, hb1⟩
  go_wp2_with fail
  refine (impl_within x 6 _).mono ?_
  rw [hwi.out]
  rintro e w1' ⟨rfl, rfl⟩
  have HL1 := Lib.hid (HL.out.on hb1)
  have HM1 := Lib.hid (hmt.out w1)
  have hz1 := hb1.size
  have B1 := Lib.hid (hb1.alloc hz1 (.cells CC 23))
  clear hb1 hmt
  have HL2 := Lib.hid (HL1.out.on (below_alloc0 w1 (.cells CC 23)))
  obtain ⟨W2, hW2⟩ : ∃ W2, w1.alloc (.cells CC 23) = W2 := ⟨_, rfl⟩
  rw [hW2] at HM1 B1 HL2
  have HW2 := Lib.hid hW2
  clear hW2 HL1
  go_wp2
  rw [HW2.out]
  go_loopw [20] (fun i wr => ∃ (k : Nat) (V : Nat → Value), k ≤ n ∧ i = .int .i64 k ∧ Hid (Mat wr w1.heap.size (.slice (some ⟨w1.heap.size, 0, none⟩) 10 10) 10 V (M.bins I C x k)) ∧ Hid (Lts wr a n I C) ∧ Hid (Below w.heap.size w wr) ∧ w1.heap.size ≤ wr.heap.size) (fun i _ => n - (intOf i).toNat)
  case atStart => exact ⟨0, _, Nat.zero_le _, rfl, HM1, HL2, B1, by rw [← HW2.out]; simp⟩
  case round =>
    obtain ⟨k, V, hk, rfl, hm, hl, hb, hz⟩ := hrel
    by_cases hlt : k < n
    · obtain ⟨b, o, rfl, c0, c1⟩ := hl.out k hlt
      have hcode := M.code_yes (HG.out k hlt).1
      have hsz := hcode.2
      have hbt := M.digs_bt hcode.1 x (by omega)
      have hgb := get_bt (C k)
      have hxi : (x : Int) < ((C k).size : Int) := by omega
      have hxn : x < (C k).size := by omega
      obtain ⟨d, hd⟩ := Int.eq_ofNat_of_zero_le (show 0 ≤ bt (C k) x - 48 by omega)
      have hd10 : d < 10 := by omega
      have hkey : M.dig1 C x k = some d := by unfold M.dig1; rw [hd, Int.toNat_natCast]
      have HK := Lib.hid (M.binTo_some hkey I C)
      have HLN := Lib.hid (M.binTo_len (M.dig1 C x) I C k d)
      have HD := Lib.hid hd
      have hab : Hid (b < w.heap.size) := HL.out.lt rfl (by omega)
      have hb48 := hbt.1
      have hb57 := hbt.2
      have hwr : IntKind.i32.wrap (bt (C k) x) = bt (C k) x := IntWalk.i32_in _ (by omega)
      clear hcode hsz hd hkey hbt
      go_wp2
      go_region_with (first
        | (go_at_call 69; refine (digitOf_any (bt (C k) x) _ hb48 hb57).mono ?_; rintro e wd ⟨rfl, rfl⟩)
        | (go_at_call 68; rw [HD.out]; refine (put_any _ w1.heap.size w1.heap.size 10 10 V (M.bins I C x k) (hm.out.on (by go_grown)) (by simp; omega) d hd10 (I k) (C k) (by have := HLN.out; show (M.binTo (M.dig1 C x) I C k d).length ≤ _; omega)).mono ?_; rintro e wp ⟨X, rfl, hp1, hp2, hp3⟩; have hm0 := hm.out.on (w' := wr.alloc (.cells #[.int .i64 (I k), .string (C k)] 29)) (by go_grown); have op : Only wr wp (inM (.slice (some ⟨w1.heap.size, 0, none⟩) 10 10) 10 V) := (Only.new (by go_grown)).trans hp2 (fun _ _ h => h); have HM2 := Lib.hid hp1; have HL2' := Lib.hid (hl.out.only op (fun b' o' e h0 hbad => by cases e; have := (hm.out.lt hbad).1; have := hab.out; omega)); have HB2 := Lib.hid (below_only hb.out hm.out hz1 op); have HZ2 := op.size; clear hp1 hp2 hp3 op hm0))
      all_goals
        go_wp2
        go_roundw
        case rel => exact ⟨k + 1, _, by omega, by go_num, (by show Mat _ _ _ _ _ (M.binTo (M.dig1 C x) I C (k + 1)); rw [HK.out]; exact HM2.out), HL2', HB2, by omega⟩
        case measure => simp [intOf]; omega
    · obtain rfl : k = n := by omega
      go_wp2
      go_ret2
      exact ⟨_, _, V, rfl, hm.out.lower hz1, hb.out⟩
end Go.Proofs.Ytedhenffolfkeaa
