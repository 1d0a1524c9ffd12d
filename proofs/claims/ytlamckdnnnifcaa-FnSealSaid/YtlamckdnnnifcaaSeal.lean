/-
  Seals: what SealOf and OrderSeal return, in the program and in the model of the document.
-/
import Derived.Test.YtlamckdnnnifcaaPureA
import Derived.Test.YtlamckdnnnifcaaBatch
namespace Go.Proofs.Ytlamckdnnnifcaa
open Go.RowKit
open Go.PlainAid (bt get_bt bt_nonneg bt_le)

def M.sq (n i : Int) : Int := n + i * i
def M.ord (n i : Int) : Int := 31 * n + i
/-- The seal of the first k letters. -/
def M.seal (f : Int → Int → Int) (I : Nat → Int) : Nat → Int
  | 0 => 0
  | k + 1 => f (M.seal f I k) (I k) % 9973
theorem M.seal_bd (f : Int → Int → Int) (I : Nat → Int) : ∀ k, 0 ≤ M.seal f I k ∧ M.seal f I k ≤ 9972
  | 0 => ⟨Int.le_refl _, by show (0 : Int) ≤ 9972; decide⟩
  | k + 1 => by
    show 0 ≤ f (M.seal f I k) (I k) % 9973 ∧ f (M.seal f I k) (I k) % 9973 ≤ 9972
    omega
theorem M.seal_succ (f : Int → Int → Int) (I : Nat → Int) (k : Nat) : M.seal f I (k + 1) = f (M.seal f I k) (I k) % 9973 := rfl
theorem M.sq_bd {i : Int} (h1 : 1 ≤ i) (h2 : i ≤ 9999) : 0 ≤ i * i ∧ i * i ≤ 99980001 :=
  ⟨Int.mul_nonneg (by omega) (by omega), Int.le_trans (Int.mul_le_mul h2 h2 (by omega) (by omega)) (by decide)⟩
/-- The seal of letters, if they are a batch. -/
def M.sealOf (f : Int → Int → Int) (n : Nat) (I : Nat → Int) (C : Nat → ByteArray) : Int := if M.batch n I C then M.seal f I n else -1
theorem M.sealOf_no {f : Int → Int → Int} {n : Nat} {I : Nat → Int} {C : Nat → ByteArray} (h : M.batch n I C = false) : M.sealOf f n I C = -1 := by
  unfold M.sealOf; rw [h]; rfl
theorem M.sealOf_yes {f : Int → Int → Int} {n : Nat} {I : Nat → Int} {C : Nat → ByteArray} (h : M.batch n I C = true) : M.sealOf f n I C = M.seal f I n := by
  unfold M.sealOf; rw [h]; rfl

theorem clo_sq (w : World) (n i : Int) (n0 : 0 ≤ n) (n1 : n ≤ 9972) (i0 : 1 ≤ i) (i1 : i ≤ 9999) :
    Calls Try.prog 42 #[.int .i64 n, .int .i64 i] w fun e w' => e = .returned (.int .i64 (M.sq n i)) ∧ w = w' := by
  obtain ⟨s0, s1⟩ := M.sq_bd i0 i1
  go_enter Try.func42, Try.ntmps42
  go_wp2
  go_ret
  exact ⟨rfl, rfl⟩
set_option maxHeartbeats 1000000 in
theorem impl_seal_sq (w : World) (a : Option Addr) (n c : Nat) (I : Nat → Int) (C : Nat → ByteArray) (h : Lts w a n I C) (hf : Fits n I C) :
    Calls Try.prog 41 #[.slice a n c, .func (.func 42) #[] #[]] w fun e w' => e = .returned (.int .i64 (M.sealOf M.sq n I C)) ∧ Below w.heap.size w w' := by
  have HF := Lib.hid hf
  have HL := Lib.hid h
  clear h hf
  cases hb : M.batch n I C
  · have hv := Lib.hid (M.sealOf_no (f := M.sq) hb)
    have HB := Lib.hid hb
    clear hb
    go_enter Try.func41, Try.ntmps41
    go_wp2_with (go_at_call 16; refine (impl_BatchValid _ _ _ _ _ _ HL.out HF.out).mono ?_; rw [HB.out]; rintro e w1 ⟨rfl, hb1⟩)
    go_ret
    exact ⟨ret_int hv.out.symm, hb1⟩
  · have hv := Lib.hid (M.sealOf_yes (f := M.sq) hb)
    have hn := (M.batch_yes hb).1
    have HG := Lib.hid (M.batch_yes hb).2
    have HB := Lib.hid hb
    clear hb
    go_enter Try.func41, Try.ntmps41
    go_wp2_with (go_at_call 16; refine (impl_BatchValid _ _ _ _ _ _ HL.out HF.out).mono ?_; rw [HB.out]; rintro e w1 ⟨rfl, hb1⟩)
    go_loopw [5, 13] (fun t i wr => ∃ k : Nat, k ≤ n ∧ i = .int .i64 k ∧ t = .int .i64 (M.seal M.sq I k) ∧ Below w.heap.size w wr) (fun _ i _ => n - (intOf i).toNat)
    case atStart => exact ⟨0, Nat.zero_le _, rfl, rfl, hb1⟩
    case round =>
      obtain ⟨k, hk, rfl, rfl, hb⟩ := hrel
      have hz := hb.size
      by_cases hlt : k < n
      · obtain ⟨b, o, rfl, c0, c1⟩ := (HL.out.on hb) k hlt
        obtain ⟨s0, s1⟩ := M.seal_bd M.sq I k
        have HS := Lib.hid (M.seal_succ M.sq I k)
        obtain ⟨_, ⟨i0, i1⟩, _⟩ := HG.out k hlt
        obtain ⟨q, hq⟩ : ∃ q, M.sq (M.seal M.sq I k) (I k) = q := ⟨_, rfl⟩
        have HQ := Lib.hid hq
        have hq0 : 0 ≤ q ∧ q ≤ 99999999 := by
          rw [← hq]
          have := M.sq_bd i0 i1
          show 0 ≤ M.seal M.sq I k + I k * I k ∧ M.seal M.sq I k + I k * I k ≤ 99999999
          omega
        obtain ⟨q0, q1⟩ := hq0
        clear hq
        go_wp2_with (go_at_call 42; refine (clo_sq _ _ _ s0 s1 i0 i1).mono ?_; rw [HQ.out]; rintro e w3 ⟨rfl, rfl⟩)
        go_roundw
        case rel => exact ⟨k + 1, by omega, by go_num, by rw [HS.out, HQ.out], by go_grown⟩
        case measure => simp [intOf]; omega
      · obtain rfl : k = n := by omega
        go_wp2
        go_ret
        exact ⟨ret_int hv.out.symm, hb⟩

set_option maxHeartbeats 400000 in
theorem impl_SealOf (w : World) (a : Option Addr) (n c : Nat) (I : Nat → Int) (C : Nat → ByteArray) (h : Lts w a n I C) (hf : Fits n I C) :
    Calls Try.prog 20 #[.slice a n c] w fun e w' => e = .returned (.int .i64 (M.sealOf M.sq n I C)) ∧ Below w.heap.size w w' := by
  have hmf : ∀ (fn : Fn) (first cap : Array Value) (w : World), (Instr.makeFunc fn first cap).run Try.prog w = .ok (.func fn first cap) w := fun _ _ _ _ => rfl
  have HC := Lib.hid (impl_seal_sq w a n c I C h hf)
  clear h hf
  go_enter Try.func20, Try.ntmps20
  go_wp2_with (go_at_call 41; refine HC.out.mono ?_; rintro e w1 ⟨rfl, hb1⟩)
  go_ret
  exact ⟨rfl, hb1⟩

set_option maxHeartbeats 1000000 in
theorem spec_SealOf (w : World) (a : Option Addr) (n c : Nat) (I : Nat → Int) (C : Nat → ByteArray) (h : Lts w a n I C) (hf : Fits n I C) (hn : n ≤ 1048576) :
    Calls Try.prog 21 #[.slice a n c] w fun e w' => e = .returned (.int .i64 (M.sealOf M.sq n I C)) ∧ Below w.heap.size w w' := by
  have HF := Lib.hid hf
  have HL := Lib.hid h
  clear h hf
  cases hb : M.batch n I C
  · have hv := Lib.hid (M.sealOf_no (f := M.sq) hb)
    have HB := Lib.hid hb
    clear hb
    go_enter Try.func21, Try.ntmps21
    go_wp2_with (go_at_call 35; refine (spec_BatchValid _ _ _ _ _ _ HL.out HF.out hn).mono ?_; rw [HB.out]; rintro e w1 ⟨rfl, hb1⟩)
    go_ret
    exact ⟨ret_int hv.out.symm, hb1⟩
  · have hv := Lib.hid (M.sealOf_yes (f := M.sq) hb)
    have hn6 := (M.batch_yes hb).1
    have HG := Lib.hid (M.batch_yes hb).2
    have HB := Lib.hid hb
    clear hb
    go_enter Try.func21, Try.ntmps21
    go_wp2_with (go_at_call 35; refine (spec_BatchValid _ _ _ _ _ _ HL.out HF.out hn).mono ?_; rw [HB.out]; rintro e w1 ⟨rfl, hb1⟩)
    go_loopw [3, 4] (fun t i wr => ∃ k : Nat, k ≤ n ∧ i = .int .i64 k ∧ t = .int .i64 (M.seal M.sq I k) ∧ Below w.heap.size w wr) (fun _ i _ => n - (intOf i).toNat)
    case atStart => exact ⟨0, Nat.zero_le _, rfl, rfl, hb1⟩
    case round =>
      obtain ⟨k, hk, rfl, rfl, hb⟩ := hrel
      have hz := hb.size
      by_cases hlt : k < n
      · obtain ⟨b, o, rfl, c0, c1⟩ := (HL.out.on hb) k hlt
        obtain ⟨s0, s1⟩ := M.seal_bd M.sq I k
        have HS := Lib.hid (M.seal_succ M.sq I k)
        obtain ⟨_, ⟨i0, i1⟩, _⟩ := HG.out k hlt
        obtain ⟨q0, q1⟩ := M.sq_bd i0 i1
        go_wp2
        go_region
        all_goals
          go_wp2
          exact ⟨⟨k + 1, by omega, by go_num, by rw [HS.out]; rfl, hb.drew⟩, by simp [intOf]; omega⟩
      · obtain rfl : k = n := by omega
        go_wp2
        go_ret
        exact ⟨ret_int hv.out.symm, hb⟩

end Go.Proofs.Ytlamckdnnnifcaa
