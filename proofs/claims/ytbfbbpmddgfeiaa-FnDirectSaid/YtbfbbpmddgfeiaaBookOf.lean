/-
  The book of a list of orders, and where an address leads.
-/
import Derived.Test.YtbfbbpmddgfeiaaBook
import Derived.WalkMore
namespace Go.Proofs.Ytbfbbpmddgfeiaa
open Go.RowKit Go.Maps
open Go.PlainAid (bt get_bt bt_nonneg bt_le)
set_option linter.unusedVariables false

theorem drewB (w : World) : Below w.heap.size w w.drew := (Below.refl _ _).drew
set_option maxHeartbeats 1000000 in
theorem bookOf_no (w : World) (a : Option Addr) (n c : Nat) (F T : Nat → ByteArray) (h : Fws w a n F T) (hf : FFits n F T) (hok : M.fwd n F T = false) :
    Calls Try.prog 56 #[.slice a n c] w fun e w' => e = .returned (.map none) ∧ Below w.heap.size w w' := by
  have HL := Lib.hid h
  have HF := Lib.hid hf
  have HO := Lib.hid hok
  clear h hf hok
  go_enter Try.func56, Try.ntmps56
  go_wp2_with fail
  refine (impl_ForwardsValid _ _ _ _ _ _ HL.out HF.out).mono ?_
  rw [HO.out]
  rintro e w1 ⟨rfl, hb1⟩
  go_wp2
  go_ret
  exact ⟨rfl, hb1⟩
/-- A book of orders. -/
def BookRes (w : World) (n : Nat) (F T : Nat → ByteArray) (e : Ending) (w' : World) : Prop :=
  ∃ (g m : Nat) (f : ByteArray → Option Nat), e = .returned (.map (some g)) ∧ m ≤ 60 ∧ Book w' w.heap.size g m f (M.nextOf F T n) ∧ Below w.heap.size w w'

set_option maxHeartbeats 4000000 in
set_option maxRecDepth 100000 in
theorem bookOf_yes (w : World) (a : Option Addr) (n c : Nat) (F T : Nat → ByteArray) (h : Fws w a n F T) (hf : FFits n F T) (hok : M.fwd n F T = true) :
    Calls Try.prog 56 #[.slice a n c] w (BookRes w n F T) := by
  have HL := Lib.hid h
  have HF := Lib.hid hf
  have HO := Lib.hid hok
  obtain ⟨hn, hall⟩ := M.fwd_yes hok
  have HA := Lib.hid hall
  have hmm := @run_makeMap Try.prog
  clear h hf hok hall
  go_enter Try.func56, Try.ntmps56
  go_wp2_with fail
  refine (impl_ForwardsValid _ _ _ _ _ _ HL.out HF.out).mono ?_
  rw [HO.out]
  rintro e w1 ⟨rfl, hb1⟩
  have BK := Lib.hid (book_made w1 w.heap.size hb1.size)
  have hbm : Below w.heap.size w (w1.alloc (.map #[] 0)) := hb1.alloc hb1.size _
  have BM := Lib.hid hbm
  have hg1 := hb1.size
  clear hb1 hbm
  go_wp2
  go_loopw [12] (fun i wr => ∃ (k : Nat) (f : ByteArray → Option Nat), k ≤ n ∧ i = .int .i64 k ∧ Hid (Book wr w.heap.size w1.heap.size (2 * k) f (M.nextOf F T k)) ∧ Hid (Below w.heap.size w wr)) (fun i _ => n - (intOf i).toNat)
  case atStart => exact ⟨0, _, Nat.zero_le _, rfl, (show M.nextOf F T 0 = fun _ => none from funext fun c => M.nextOf_zero F T c) ▸ BK.out, BM.out⟩
  case round =>
    obtain ⟨k, f, hk, rfl, hbk, hbw⟩ := hrel
    by_cases hlt : k < n
    · obtain ⟨b, o, rfl, c0, c1⟩ := (HL.out.on hbw.out) k hlt
      obtain ⟨s0, s1⟩ := HF.out k hlt
      have hgl := hbk.out.lt
      have hnx : Hid (setF (M.nextOf F T k) (F k) (some (T k)) = M.nextOf F T (k + 1)) := funext fun x => (M.nextOf_succ (HA.out k hlt).2.2 x).symm
      go_wp2
      go_region_with (first
        | (go_at_call 81; refine (at_any _ w.heap.size w1.heap.size (2 * k + 1) f1 (M.nextOf F T k) (by first | exact HB1.out | exact HB1.out.on (drewB _)) (T k) s1 (by omega)).mono ?_; rintro e wb ⟨f2, b2, rfl, hB2, hf2, hm2, ho2⟩; have hf12 := hm2 _ _ HF1.out; have HB2 := Lib.hid hB2; have HF2 := Lib.hid hf2; have HF12 := Lib.hid hf12; obtain ⟨_, n0, n1, nf, _⟩ := hB2.node hf12; have O2 : Hid (Only wr wb (fun k => k = w1.heap.size)) := (by first | exact O1.out.trans ho2 (fun _ _ h => h) | exact O1.out.trans ((Only.new (drewB _)).trans ho2 (fun _ _ h => h)) (fun _ _ h => h)); have hlb1 := hB2.node_lt hf12; clear hB2 hf2 hm2 ho2 hf12)
        | (go_at_call 81; refine (at_any _ w.heap.size w1.heap.size (2 * k) f (M.nextOf F T k) (hbk.out.on (by go_grown)) (F k) s0 (by omega)).mono ?_; rintro e wa ⟨f1, b1, rfl, hB1, hf1, hm1, ho1⟩; have hx : Only wr wa (fun k => k = w1.heap.size) := (Only.new (by go_grown)).trans ho1 (fun _ _ h => h); have q0 : wa.cell? ⟨wr.heap.size, 0, none⟩ = some (.string (F k)) := (World.cell?_of_block (a := ⟨wr.heap.size, 0, none⟩) (ho1.block wr.heap.size (by simp) (by omega))).trans (by simp); have q1 : wa.cell? ⟨wr.heap.size, 1, none⟩ = some (.string (T k)) := (World.cell?_of_block (a := ⟨wr.heap.size, 1, none⟩) (ho1.block wr.heap.size (by simp) (by omega))).trans (by simp); have HB1 := Lib.hid hB1; have HF1 := Lib.hid hf1; have O1 := Lib.hid hx; clear hB1 hf1 hm1 ho1 hx))
      all_goals
        have BL := Lib.hid (HB2.out.link HF12.out HF2.out)
        rw [hnx.out] at BL
        have hz := hbw.out.size
        have hb1g := (HB2.out.node HF12.out).1.1
        have OL : Hid (Only wr (wb.setCell ⟨b1, 1, none⟩ (.pointer (some ⟨b2, 0, none⟩))) (fun k => w.heap.size ≤ k)) := (O2.out.mono (fun k _ e => by omega)).trans (Only.set wb ⟨b1, 1, none⟩ _ (S := fun k => w.heap.size ≤ k) hb1g) (fun _ _ h => h)
        have BW : Hid (Below w.heap.size w (wb.setCell ⟨b1, 1, none⟩ (.pointer (some ⟨b2, 0, none⟩)))) := hbw.out.trans (OL.out.below (B := w.heap.size) (fun k hk _ h => by omega) hz)
        go_wp2
        go_roundw
        case rel => exact ⟨k + 1, f2, by omega, by go_num, BL.out.mono (by omega), BW⟩
        case measure => simp [intOf]; omega
    · obtain rfl : k = n := by omega
      go_wp2
      go_ret
      exact ⟨_, _, f, rfl, by omega, hbk.out, hbw.out⟩
end Go.Proofs.Ytbfbbpmddgfeiaa
