/-
  symMerge: two runs merged in place, an entry in front, an entry behind, or both runs cut and turned round.
-/
import Derived.Test.YtekfjheaffkakaaStbA
namespace Go.Proofs.Ytekfjheaffkakaa
open Go.RowKit
set_option linter.unusedVariables false

def Merged (W : World) (base g n c : Nat) (pos : Int × ByteArray → Nat) (F : Nat → Int × ByteArray) (a b : Nat) (e : Ending) (W' : World) : Prop := ∃ F', Did W base g n c F' e W' ∧ Sy.Mix F F' a b ∧ Sy.Srt ltL pos F' a b
set_option maxHeartbeats 2000000 in
set_option maxRecDepth 100000 in
theorem symMerge_one (base g n c : Nat) (sf : Nat) (sb : Array Value) (HS : SwapOk base g n c sf sb) (pos : Int × ByteArray → Nat) (W : World) (F : Nat → Int × ByteArray) (a m b : Nat) (h : RF W base g n c F) (h1 : a < m) (h2 : m < b) (h3 : b ≤ n) (hl : Sy.Srt ltL pos F a m) (hr : Sy.Srt ltL pos F m b) (hp : Sy.Par pos F a m b) (hn : n ≤ 1048576) (hone : m = a + 1) :
    Calls Try.prog 67 #[DAT (.slice (some ⟨g, 0, none⟩) n c) sf sb, .int .i64 a, .int .i64 m, .int .i64 b] W (Merged W base g n c pos F a b) := by
  have HSW := Lib.hid HS
  have HBF := Lib.hid (fun (W : World) F h i j hi hj => before_rows W base g n c F h i j hi hj hn)
  have hg := h.lt
  unfold DAT
  obtain ⟨W1, hW1⟩ : ∃ W1, W.alloc (.cells #[.func (.func 35) #[.slice (some ⟨g, 0, none⟩) n c] #[], .func (.func sf) #[] sb] 90) = W1 := ⟨_, rfl⟩
  have R0 : Hid (RF W1 base g n c F) := hW1 ▸ h.on (below_alloc0 W _)
  have BX : Hid (W1.cell? ⟨W.heap.size, 0, none⟩ = some (.func (.func 35) #[.slice (some ⟨g, 0, none⟩) n c] #[]) ∧ W1.cell? ⟨W.heap.size, 1, none⟩ = some (.func (.func sf) #[] sb)) := by rw [Hid, ← hW1]; simp [go_sem]
  have HO1 : Hid (∀ W', Only W1 W' (fun k => k = g) → Only W W' (fun k => k = g)) := fun W' ho => by rw [← hW1] at ho; exact only_new ho
  have hne : W.heap.size ≠ g := by omega
  have HSL := Lib.hid hl
  have HSR := Lib.hid hr
  have HPR := Lib.hid hp
  have q1 : ((m : Int) - a == 1) = true := by rw [beq_iff_eq]; omega
  have h4 : m ≤ a + 1 := by omega
  rw [hone] at HSR
  have HONE := Lib.hid hone
  clear h HS hl hr hp hone
  go_enter Try.func67, Try.ntmps67
  go_wp2_with fail
  clear hW1
  go_loopw [8, 9] (fun vi vj wr => ∃ (i j : Nat), vi = .int .i64 i ∧ vj = .int .i64 j ∧ m ≤ i ∧ i ≤ j ∧ j ≤ b ∧ Hid (∀ k, a < k → k < i → ltL (F k) (F a) = true) ∧ Hid (∀ k, j ≤ k → k < b → ltL (F k) (F a) = false) ∧ Hid (RF wr base g n c F) ∧ Hid (Only W1 wr (fun k => k = g))) (fun vi vj _ => (intOf vj).toNat - (intOf vi).toNat)
  case atStart => exact ⟨m, b, rfl, rfl, Nat.le_refl _, by omega, Nat.le_refl _, Lib.hid (fun k k1 k2 => by omega), Lib.hid (fun k k1 k2 => by omega), R0, Lib.hid (Only.refl _ _)⟩
  case round =>
    obtain ⟨i, j, rfl, rfl, hai, hij, hjb, hlo, hhi, hrw, how⟩ := hrel
    by_cases hlt : i < j
    · have c0 := only_box (W := W) how.out BX.out.1 hne
      have hh : ∃ h : Nat, (i + j) / 2 = h ∧ i ≤ h ∧ h < j := ⟨_, rfl, by omega, by omega⟩
      obtain ⟨h, hh0, hh1, hh2⟩ := hh
      have u1 : IntKind.u64.wrap ((i : Int) + j) = (i : Int) + j := IntWalk.u64_in _ (by omega)
      have u2 : ((i : Int) + j) / 2 = (h : Int) := by omega
      have u3 : IntKind.i64.wrap (h : Int) = (h : Int) := IntWalk.i64_in _ (by omega)
      have u4 : IntKind.u64.wrap (h : Int) = (h : Int) := IntWalk.u64_in _ (by omega)
      clear hh0
      have HB := Lib.hid (HBF.out wr _ hrw.out h a (by omega) (by omega))
      cases hlv : ltL (F h) (F a) with
      | true =>
        rw [hlv] at HB
        have HLV := Lib.hid hlv
        clear hlv
        go_wp2_with fail
        refine HB.out.mono ?_
        rintro e w2 ⟨rfl, q, rfl⟩
        have hbq : Below wr.heap.size wr (wr.drewN q) := ⟨rfl, rfl, rfl, Nat.le_refl _, fun _ _ => rfl⟩
        have R2 := Lib.hid (hrw.out.on hbq)
        have O2 := Lib.hid (how.out.trans (Only.new (S := fun k => k = g) hbq) fun _ _ h => h)
        clear hbq
        clear hrw how c0
        go_wp2
        go_roundw
        case rel => exact ⟨h + 1, j, by go_num, rfl, by omega, by omega, hjb, Lib.hid (fun k k1 k2 => Sy.low_true (ltL_ord pos) HSR.out (i := h) (by omega) (by omega) (by omega) HLV.out), hhi, R2, O2⟩
        case measure => simp [intOf]; omega
      | false =>
        rw [hlv] at HB
        have HLV := Lib.hid hlv
        clear hlv
        go_wp2_with fail
        refine HB.out.mono ?_
        rintro e w2 ⟨rfl, q, rfl⟩
        have hbq : Below wr.heap.size wr (wr.drewN q) := ⟨rfl, rfl, rfl, Nat.le_refl _, fun _ _ => rfl⟩
        have R2 := Lib.hid (hrw.out.on hbq)
        have O2 := Lib.hid (how.out.trans (Only.new (S := fun k => k = g) hbq) fun _ _ h => h)
        clear hbq
        clear hrw how c0
        go_wp2
        go_roundw
        case rel => exact ⟨i, h, rfl, by go_num, hai, by omega, by omega, hlo, Lib.hid (fun k k1 k2 => Sy.high_false (ltL_ord pos) HSR.out (i := h) (by omega) (by omega) (by omega) HLV.out), R2, O2⟩
        case measure => simp [intOf]; omega
    · obtain rfl : i = j := by omega
      have HINS := Lib.hid (Sy.ins_right HSR.out (fun k k1 k2 => HPR.out a k (Nat.le_refl _) (by omega) (by omega) k2) (by omega) hjb hlo.out hhi.out)
      clear hlo hhi
      have hrr := hrw.out
      rw [← Sy.rot_none' F a (a + 1)] at hrr
      have R1 := Lib.hid hrr
      clear hrr hrw
      go_wp2
      go_loopw [11] (fun vk wr2 => ∃ (k : Nat), vk = .int .i64 k ∧ a ≤ k ∧ k + 1 ≤ i ∧ Hid (RF wr2 base g n c (Sy.rot F a (a + 1) (k + 1))) ∧ Hid (Only W1 wr2 (fun k => k = g))) (fun vk _ => b - (intOf vk).toNat)
      case atStart => exact ⟨a, rfl, Nat.le_refl _, by omega, R1, how⟩
      case round =>
        obtain ⟨k, rfl, hak, hki, hr2, ho2⟩ := hrel
        by_cases hlt2 : k + 1 < i
        · have c1 := only_box (W := W) ho2.out BX.out.2 hne
          obtain ⟨W', hs, hr3, ho3⟩ := HSW.out wr _ hr2.out k (k + 1) (by omega) (by omega) (by omega)
          rw [Sy.rot_step F a k hak] at hr3
          rw [show ((k + 1 : Nat) : Int) = (k : Int) + 1 by omega] at hs
          have R3 := Lib.hid hr3
          have O3 := Lib.hid (ho2.out.trans ho3 fun _ _ h => h)
          have HH := Lib.hid hs
          clear hs hr3 ho3 hr2 ho2
          go_wp2
          rw [HH.out, Oper.upon_value]
          go_wp2
          go_roundw
          case rel => exact ⟨k + 1, by go_num, by omega, by omega, R3, O3⟩
          case measure => simp [intOf]; omega
        · obtain rfl : i = k + 1 := by omega
          go_wp2
          go_end0
          exact ⟨_, ⟨rfl, hr2.out, HO1.out _ ho2.out⟩, Sy.mix_rot F (Nat.le_refl _) (by omega) (by omega) (by omega), HINS.out⟩
set_option maxHeartbeats 2000000 in
set_option maxRecDepth 100000 in
theorem symMerge_last (base g n c : Nat) (sf : Nat) (sb : Array Value) (HS : SwapOk base g n c sf sb) (pos : Int × ByteArray → Nat) (W : World) (F : Nat → Int × ByteArray) (a m b : Nat) (h : RF W base g n c F) (h1 : a < m) (h2 : m < b) (h3 : b ≤ n) (hl : Sy.Srt ltL pos F a m) (hr : Sy.Srt ltL pos F m b) (hp : Sy.Par pos F a m b) (hn : n ≤ 1048576) (hone : b = m + 1) (htwo : m ≠ a + 1) :
    Calls Try.prog 67 #[DAT (.slice (some ⟨g, 0, none⟩) n c) sf sb, .int .i64 a, .int .i64 m, .int .i64 b] W (Merged W base g n c pos F a b) := by
  have HSW := Lib.hid HS
  have HBF := Lib.hid (fun (W : World) F h i j hi hj => before_rows W base g n c F h i j hi hj hn)
  have hg := h.lt
  unfold DAT
  obtain ⟨W1, hW1⟩ : ∃ W1, W.alloc (.cells #[.func (.func 35) #[.slice (some ⟨g, 0, none⟩) n c] #[], .func (.func sf) #[] sb] 90) = W1 := ⟨_, rfl⟩
  have R0 : Hid (RF W1 base g n c F) := hW1 ▸ h.on (below_alloc0 W _)
  have BX : Hid (W1.cell? ⟨W.heap.size, 0, none⟩ = some (.func (.func 35) #[.slice (some ⟨g, 0, none⟩) n c] #[]) ∧ W1.cell? ⟨W.heap.size, 1, none⟩ = some (.func (.func sf) #[] sb)) := by rw [Hid, ← hW1]; simp [go_sem]
  have HO1 : Hid (∀ W', Only W1 W' (fun k => k = g) → Only W W' (fun k => k = g)) := fun W' ho => by rw [← hW1] at ho; exact only_new ho
  have hne : W.heap.size ≠ g := by omega
  have HSL := Lib.hid hl
  have HSR := Lib.hid hr
  have HPR := Lib.hid hp
  have HPI : Hid (∀ k, a ≤ k → k < m → pos (F k) < pos (F m)) := fun k k1 k2 => hp k m k1 k2 (Nat.le_refl _) h2
  have q1 : ((m : Int) - a == 1) = false := by rw [beq_eq_false_iff_ne]; omega
  have q2 : ((b : Int) - m == 1) = true := by rw [beq_iff_eq]; omega
  have h4 : b ≤ m + 1 := by omega
  have HONE : Hid (m + 1 = b) := hone.symm
  clear h HS hl hr hp hone
  go_enter Try.func67, Try.ntmps67
  go_wp2_with fail
  clear hW1
  go_loopw [12, 13] (fun vi vj wr => ∃ (i j : Nat), vi = .int .i64 i ∧ vj = .int .i64 j ∧ a ≤ i ∧ i ≤ j ∧ j ≤ m ∧ Hid (∀ k, a ≤ k → k < i → ltL (F m) (F k) = false) ∧ Hid (∀ k, j ≤ k → k < m → ltL (F m) (F k) = true) ∧ Hid (RF wr base g n c F) ∧ Hid (Only W1 wr (fun k => k = g))) (fun vi vj _ => (intOf vj).toNat - (intOf vi).toNat)
  case atStart => exact ⟨a, m, rfl, rfl, Nat.le_refl _, by omega, Nat.le_refl _, Lib.hid (fun k k1 k2 => by omega), Lib.hid (fun k k1 k2 => by omega), R0, Lib.hid (Only.refl _ _)⟩
  case round =>
    obtain ⟨i, j, rfl, rfl, hai, hij, hjb, hlo, hhi, hrw, how⟩ := hrel
    by_cases hlt : i < j
    · have c0 := only_box (W := W) how.out BX.out.1 hne
      have hh : ∃ h : Nat, (i + j) / 2 = h ∧ i ≤ h ∧ h < j := ⟨_, rfl, by omega, by omega⟩
      obtain ⟨h, hh0, hh1, hh2⟩ := hh
      have u1 : IntKind.u64.wrap ((i : Int) + j) = (i : Int) + j := IntWalk.u64_in _ (by omega)
      have u2 : ((i : Int) + j) / 2 = (h : Int) := by omega
      have u3 : IntKind.i64.wrap (h : Int) = (h : Int) := IntWalk.i64_in _ (by omega)
      have u4 : IntKind.u64.wrap (h : Int) = (h : Int) := IntWalk.u64_in _ (by omega)
      clear hh0
      have HB := Lib.hid (HBF.out wr _ hrw.out m h (by omega) (by omega))
      cases hlv : ltL (F m) (F h) with
      | true =>
        rw [hlv] at HB
        have HLV := Lib.hid hlv
        clear hlv
        go_wp2_with fail
        refine HB.out.mono ?_
        rintro e w2 ⟨rfl, q, rfl⟩
        have hbq : Below wr.heap.size wr (wr.drewN q) := ⟨rfl, rfl, rfl, Nat.le_refl _, fun _ _ => rfl⟩
        have R2 := Lib.hid (hrw.out.on hbq)
        have O2 := Lib.hid (how.out.trans (Only.new (S := fun k => k = g) hbq) fun _ _ h => h)
        clear hbq
        clear hrw how c0
        go_wp2
        go_roundw
        case rel => exact ⟨i, h, rfl, by go_num, hai, by omega, by omega, hlo, Lib.hid (fun k k1 k2 => Sy.high_true (ltL_ord pos) HSL.out (i := h) (by omega) (by omega) (by omega) HLV.out), R2, O2⟩
        case measure => simp [intOf]; omega
      | false =>
        rw [hlv] at HB
        have HLV := Lib.hid hlv
        clear hlv
        go_wp2_with fail
        refine HB.out.mono ?_
        rintro e w2 ⟨rfl, q, rfl⟩
        have hbq : Below wr.heap.size wr (wr.drewN q) := ⟨rfl, rfl, rfl, Nat.le_refl _, fun _ _ => rfl⟩
        have R2 := Lib.hid (hrw.out.on hbq)
        have O2 := Lib.hid (how.out.trans (Only.new (S := fun k => k = g) hbq) fun _ _ h => h)
        clear hbq
        clear hrw how c0
        go_wp2
        go_roundw
        case rel => exact ⟨h + 1, j, by go_num, rfl, by omega, by omega, hjb, Lib.hid (fun k k1 k2 => Sy.low_false (ltL_ord pos) HSL.out (i := h) (by omega) (by omega) (by omega) HLV.out), hhi, R2, O2⟩
        case measure => simp [intOf]; omega
    · obtain rfl : i = j := by omega
      have HINS := Lib.hid (Sy.ins_left HSL.out HPI.out hai hjb hlo.out hhi.out)
      rw [show m + 1 = b from HONE.out] at HINS
      clear hlo hhi
      have hrr := hrw.out
      rw [← Sy.rot_none F m b] at hrr
      have R1 := Lib.hid hrr
      clear hrr hrw
      go_wp2
      go_loopw [15] (fun vk wr2 => ∃ (k : Nat), vk = .int .i64 k ∧ i ≤ k ∧ k ≤ m ∧ Hid (RF wr2 base g n c (Sy.rot F k m b)) ∧ Hid (Only W1 wr2 (fun k => k = g))) (fun vk _ => (intOf vk).toNat)
      case atStart => exact ⟨m, rfl, hjb, Nat.le_refl _, R1, how⟩
      case round =>
        obtain ⟨k, rfl, hik, hkm, hr2, ho2⟩ := hrel
        by_cases hlt2 : i < k
        · have c1 := only_box (W := W) ho2.out BX.out.2 hne
          obtain ⟨W', hs, hr3, ho3⟩ := HSW.out wr _ hr2.out k (k - 1) (by omega) (by omega) (by omega)
          have hb := Sy.rot_back F m (k - 1) (by omega)
          rw [show k - 1 + 1 = k by omega, show m + 1 = b from HONE.out] at hb
          rw [hb] at hr3
          rw [show ((k - 1 : Nat) : Int) = (k : Int) - 1 by omega] at hs
          have R3 := Lib.hid hr3
          have O3 := Lib.hid (ho2.out.trans ho3 fun _ _ h => h)
          have HH := Lib.hid hs
          clear hs hr3 ho3 hr2 ho2 hb
          go_wp2
          rw [HH.out, Oper.upon_value]
          go_wp2
          go_roundw
          case rel => exact ⟨k - 1, by go_num, by omega, by omega, R3, O3⟩
          case measure => simp [intOf]; omega
        · obtain rfl : i = k := by omega
          go_wp2
          go_end0
          exact ⟨_, ⟨rfl, hr2.out, HO1.out _ ho2.out⟩, Sy.mix_rot F hai hkm (by omega) (Nat.le_refl _), HINS.out⟩
end Go.Proofs.Ytekfjheaffkakaa
