/-
  Reading a number, in the model of the document: l9Num at every string.
-/
import Derived.Test.YtjabpidmfgcamaaDoorBatPM
import Derived.WalkKit
import Derived.Handy
namespace Go.Proofs.YtjabpidmfgcamaaDoor
open Go.RowKit
open Go.PlainAid (bt get_bt bt_nonneg bt_le)
set_option linter.unusedVariables false

theorem p10 : ∀ k : Nat, k ≤ 17 → 10 ^ k ≤ 100000000000000000 := fun k hk => Nat.le_trans (Nat.pow_le_pow_right (by decide) hk) (by decide)
theorem p10s : ∀ k : Nat, k ≤ 16 → 10 ^ k ≤ 10000000000000000 := fun k hk => Nat.le_trans (Nat.pow_le_pow_right (by decide) hk) (by decide)
theorem bt_mem {s : ByteArray} {j : Nat} (h : j < s.size) : ∃ x ∈ s.data.toList, bt s j = (x.toNat : Int) :=
  ⟨s[j]'h, List.mem_of_getElem? (M.data_at s j h), (get_bt s j h).symm⟩
theorem decT_facts {s : ByteArray} {i : Int} (h0 : 1 ≤ i) (h1 : i ≤ 9999) (e : s = M.decT i) : 1 ≤ s.size ∧ s.size ≤ 4 ∧ (∀ j, j < s.size → 48 ≤ bt s j ∧ bt s j ≤ 57) ∧ bt s 0 ≠ 48 := by
  subst e
  have hs := M.decT_size (n := i) (by omega) h1
  refine ⟨hs.1, hs.2, fun j hj => ?_, ?_⟩
  · obtain ⟨x, hx, e⟩ := bt_mem hj
    have := M.decT_digs i.toNat x hx
    omega
  · obtain ⟨c, r, ec, hc⟩ := M.decT_head i.toNat (by omega)
    intro e2
    have h2 := (M.bt_ne (s := M.decT i) (c := 48) (j := 0) (by omega)).1 e2
    have h3 : (M.decT i).data.toList = c :: r := ec
    rw [h3] at h2
    have : c = 48 := by simpa using h2
    rw [this] at hc
    exact hc rfl
theorem uint_step {U : ByteArray} {k m : Nat} {b : Int} (hk : k < U.size) (h : Lib.parseUint10 0 (U.data.toList.take k) = .ok m) (hb : bt U k = b) (h0 : 48 ≤ b) (h1 : b ≤ 57) (hm : m < 100000000000000000) : Lib.parseUint10 0 (U.data.toList.take (k + 1)) = .ok (m * 10 + (b - 48).toNat) := by
  have h2 := M.data_at U k hk
  have h3 := get_bt U k hk
  rw [List.take_add_one, h2, uint_app _ _ _ m h]
  have e : (U[k]'hk).toNat = b.toNat := by omega
  show Lib.parseUint10 m [U[k]'hk] = _
  simp only [Lib.parseUint10, e]
  rw [if_pos (by omega), if_neg (by omega), if_neg (by omega)]
  congr 1
  omega

def NumR (s : ByteArray) (w : World) (e : Ending) (w' : World) : Prop := ∃ (v : Int) (y : Bool), e = .returned (.tuple #[.int .i64 v, .bool y]) ∧ -9223372036854775808 ≤ v ∧ v ≤ 9223372036854775807 ∧ (∀ i : Int, 1 ≤ i → i ≤ 9999 → s = M.decT i → v = i) ∧ w = w'

set_option maxHeartbeats 4000000 in
set_option maxRecDepth 100000 in
theorem spec_num (s : ByteArray) (w : World) (hs : s.size ≤ 1048576) :
    Calls Tryd.prog 27 #[.string s] w (NumR s w) := by
  have hbts := get_bt s
  by_cases hz : s.size = 0
  · have z1 : ¬ 0 < s.size := by omega
    have z2 : ((s.size : Int) == 0) = true := by rw [beq_iff_eq]; omega
    have z3 : ¬ (0 : Int) < (s.size : Int) := by omega
    go_enter Tryd.func27, Tryd.ntmps27
    go_wp2
    go_ret2
    exact ⟨0, false, rfl, by omega, by omega, fun i h0 h1 e => absurd (decT_facts h0 h1 e) (fun hh => by omega), rfl⟩
  have hpos : 0 < s.size := by omega
  have hp1 : (0 : Int) < (s.size : Int) := by omega
  have hp2 : decide ((0 : Int) < (s.size : Int)) = true := decide_eq_true hp1
  have hu0 := hbts 0 hpos
  have hb0 := bt_nonneg s 0
  have hb1 := bt_le s 0
  by_cases hneg : bt s 0 = 45
  · have hn1 : (bt s 0 == 45) = true := by rw [beq_iff_eq]; exact hneg
    have hl1 : (1 : Int) ≤ (s.size : Int) := by omega
    obtain ⟨U, hU⟩ : ∃ U, s.extract 1 s.size = U := ⟨_, rfl⟩
    have hus : U.size ≤ 1048576 := by rw [← hU, ByteArray.size_extract]; omega
    have hbtU := get_bt U
    have hnd : ∀ i : Int, 1 ≤ i → i ≤ 9999 → s = M.decT i → False := fun i h0 h1 e => by have := (decT_facts h0 h1 e).2.2.1 0 hpos; omega
    clear hu0
    by_cases u0 : U.size = 0
    · have v1 : ((U.size : Int) == 0) = true := by rw [beq_iff_eq]; omega
      go_enter Tryd.func27, Tryd.ntmps27
      go_wp2
      go_ret2
      exact ⟨0, false, rfl, by omega, by omega, fun i h0 h1 e => absurd e (fun e => hnd i h0 h1 e), rfl⟩
    have v1 : ((U.size : Int) == 0) = false := by rw [beq_eq_false_iff_ne]; omega
    have upos : 0 < U.size := by omega
    have v2 := hbtU 0 upos
    have ub0 := bt_nonneg U 0
    have ub1 := bt_le U 0
    by_cases u17 : 17 < U.size
    · have v3 : decide ((17 : Int) < (U.size : Int)) = true := decide_eq_true (by omega)
      have v4 : (17 : Int) < (U.size : Int) := by omega
      go_enter Tryd.func27, Tryd.ntmps27
      go_wp2
      go_ret2
      exact ⟨0, false, rfl, by omega, by omega, fun i h0 h1 e => absurd e (fun e => hnd i h0 h1 e), rfl⟩
    have v3 : decide ((17 : Int) < (U.size : Int)) = false := decide_eq_false (by omega)
    have v4 : ¬ (17 : Int) < (U.size : Int) := by omega
    by_cases uz : bt U 0 = 48
    · have v5 : (bt U 0 == 48) = true := by rw [beq_iff_eq]; exact uz
      by_cases u1 : 1 < U.size
      · have v6 : decide ((1 : Int) < (U.size : Int)) = true := decide_eq_true (by omega)
        have v7 : (1 : Int) < (U.size : Int) := by omega
        go_enter Tryd.func27, Tryd.ntmps27
        go_wp2
        go_ret2
        exact ⟨0, false, rfl, by omega, by omega, fun i h0 h1 e => absurd e (fun e => hnd i h0 h1 e), rfl⟩
      · have v6 : decide ((1 : Int) < (U.size : Int)) = false := decide_eq_false (by omega)
        have v7 : ¬ (1 : Int) < (U.size : Int) := by omega
        go_enter Tryd.func27, Tryd.ntmps27
        go_wp2
        go_ret2
        exact ⟨0, false, rfl, by omega, by omega, fun i h0 h1 e => absurd e (fun e => hnd i h0 h1 e), rfl⟩
    have v5 : (bt U 0 == 48) = false := beq_eq_false_iff_ne.2 uz
    go_enter Tryd.func27, Tryd.ntmps27
    go_wp2
    have h17 : U.size ≤ 17 := by omega
    clear u17 v3 v4 uz v5
    go_loop [5, 6] (fun n i => ∃ k m : Nat, k ≤ U.size ∧ i = .int .i64 k ∧ n = .int .i64 m ∧ m < 10 ^ k ∧ Hid (Lib.parseUint10 0 (U.data.toList.take k) = .ok m)) (fun _ i => U.size - (intOf i).toNat)
    case atStart => exact ⟨0, 0, Nat.zero_le _, rfl, rfl, by decide, rfl⟩
    case round =>
      obtain ⟨k, m, hk, rfl, rfl, hm, hin⟩ := hrel
      have hk17 : k ≤ 17 := by omega
      have hp := p10 k hk17
      by_cases hlt : k < U.size
      · have hb1 := bt_le U k
        have hb0 := bt_nonneg U k
        have hu := hbtU k hlt
        by_cases hd0 : bt U k < 48
        · go_wp2
          go_ret2
          exact ⟨0, false, rfl, by omega, by omega, fun i h0 h1 e => absurd (decT_facts h0 h1 e) (fun hh => by have := hh.2.2.1 0 hpos; omega), rfl⟩
        by_cases hd1 : 57 < bt U k
        · go_wp2
          go_ret2
          exact ⟨0, false, rfl, by omega, by omega, fun i h0 h1 e => absurd (decT_facts h0 h1 e) (fun hh => by have := hh.2.2.1 0 hpos; omega), rfl⟩
        have HN : Hid (Lib.parseUint10 0 (U.data.toList.take (k + 1)) = .ok (m * 10 + (bt U k - 48).toNat)) := uint_step hlt hin.out rfl (by omega) (by omega) (by have := p10s k (by omega); omega)
        have hm2 : m * 10 + (bt U k - 48).toNat < 10 ^ (k + 1) := by rw [Nat.pow_succ]; omega
        have hp16 := p10s k (by omega)
        have e1 : ((m * 10 + (bt U k - 48).toNat : Nat) : Int) = (m : Int) * 10 + (bt U k - 48) := by omega
        have w1 : IntKind.u8.wrap (bt U k - 48) = bt U k - 48 := by rw [IntKind.wrap_u8]; omega
        clear hin
        go_wp2
        go_round
        case rel => exact ⟨k + 1, m * 10 + (bt U k - 48).toNat, by omega, by go_num, by rw [e1], hm2, HN⟩
        case measure => simp [intOf]; omega
      · obtain rfl : k = U.size := by omega
        clear hin
        go_wp2
        go_ret2
        exact ⟨-(m : Int), true, rfl, by omega, by omega, fun i h0 h1 e => absurd (decT_facts h0 h1 e) (fun hh => by have := hh.2.2.1 0 hpos; omega), rfl⟩
  have hn1 : (bt s 0 == 45) = false := beq_eq_false_iff_ne.2 hneg
  have v1 : ((s.size : Int) == 0) = false := by rw [beq_eq_false_iff_ne]; omega
  by_cases u17 : 17 < s.size
  · have v3 : decide ((17 : Int) < (s.size : Int)) = true := decide_eq_true (by omega)
    have v4 : (17 : Int) < (s.size : Int) := by omega
    go_enter Tryd.func27, Tryd.ntmps27
    go_wp2
    go_ret2
    exact ⟨0, false, rfl, by omega, by omega, fun i h0 h1 e => absurd (decT_facts h0 h1 e) (fun hh => by omega), rfl⟩
  have v3 : decide ((17 : Int) < (s.size : Int)) = false := decide_eq_false (by omega)
  have v4 : ¬ (17 : Int) < (s.size : Int) := by omega
  by_cases uz : bt s 0 = 48
  · have v5 : (bt s 0 == 48) = true := by rw [beq_iff_eq]; exact uz
    by_cases u1 : 1 < s.size
    · have v6 : decide ((1 : Int) < (s.size : Int)) = true := decide_eq_true (by omega)
      have v7 : (1 : Int) < (s.size : Int) := by omega
      go_enter Tryd.func27, Tryd.ntmps27
      go_wp2
      go_ret2
      exact ⟨0, false, rfl, by omega, by omega, fun i h0 h1 e => absurd (decT_facts h0 h1 e) (fun hh => by exact hh.2.2.2 uz), rfl⟩
    · have v6 : decide ((1 : Int) < (s.size : Int)) = false := decide_eq_false (by omega)
      have v7 : ¬ (1 : Int) < (s.size : Int) := by omega
      go_enter Tryd.func27, Tryd.ntmps27
      go_wp2
      have h17 : s.size ≤ 17 := by omega
      clear u17 v3 v4 uz v5 u1 v6 v7
      go_loop [5, 6] (fun n i => ∃ k m : Nat, k ≤ s.size ∧ i = .int .i64 k ∧ n = .int .i64 m ∧ m < 10 ^ k ∧ Hid (Lib.parseUint10 0 (s.data.toList.take k) = .ok m)) (fun _ i => s.size - (intOf i).toNat)
      case atStart => exact ⟨0, 0, Nat.zero_le _, rfl, rfl, by decide, rfl⟩
      case round =>
        obtain ⟨k, m, hk, rfl, rfl, hm, hin⟩ := hrel
        have hk17 : k ≤ 17 := by omega
        have hp := p10 k hk17
        by_cases hlt : k < s.size
        · have hb1 := bt_le s k
          have hb0 := bt_nonneg s k
          have hu := hbts k hlt
          by_cases hd0 : bt s k < 48
          · go_wp2
            go_ret2
            exact ⟨0, false, rfl, by omega, by omega, fun i h0 h1 e => absurd (decT_facts h0 h1 e) (fun hh => by have := hh.2.2.1 k hlt; omega), rfl⟩
          by_cases hd1 : 57 < bt s k
          · go_wp2
            go_ret2
            exact ⟨0, false, rfl, by omega, by omega, fun i h0 h1 e => absurd (decT_facts h0 h1 e) (fun hh => by have := hh.2.2.1 k hlt; omega), rfl⟩
          have HN : Hid (Lib.parseUint10 0 (s.data.toList.take (k + 1)) = .ok (m * 10 + (bt s k - 48).toNat)) := uint_step hlt hin.out rfl (by omega) (by omega) (by have := p10s k (by omega); omega)
          have hm2 : m * 10 + (bt s k - 48).toNat < 10 ^ (k + 1) := by rw [Nat.pow_succ]; omega
          have hp16 := p10s k (by omega)
          have e1 : ((m * 10 + (bt s k - 48).toNat : Nat) : Int) = (m : Int) * 10 + (bt s k - 48) := by omega
          have w1 : IntKind.u8.wrap (bt s k - 48) = bt s k - 48 := by rw [IntKind.wrap_u8]; omega
          clear hin
          go_wp2
          go_round
          case rel => exact ⟨k + 1, m * 10 + (bt s k - 48).toNat, by omega, by go_num, by rw [e1], hm2, HN⟩
          case measure => simp [intOf]; omega
        · obtain rfl : k = s.size := by omega
          have HEND : Hid (∀ i : Int, 1 ≤ i → i ≤ 9999 → s = M.decT i → (m : Int) = i) := fun i h0 h1 e => by
            have h2 := hin.out
            rw [List.take_of_length_le (by rw [Array.length_toList]; exact Nat.le_refl _), e] at h2
            have h3 := uint_dec i.toNat (by omega)
            have h4 : Lib.NumEnd.ok i.toNat = Lib.NumEnd.ok m := h3.symm.trans h2
            injection h4 with h4
            omega
          clear hin
          go_wp2
          go_ret2
          exact ⟨(m : Int), true, rfl, by omega, by omega, fun i h0 h1 e => HEND.out i h0 h1 e, rfl⟩
  have v5 : (bt s 0 == 48) = false := beq_eq_false_iff_ne.2 uz
  go_enter Tryd.func27, Tryd.ntmps27
  go_wp2
  have h17 : s.size ≤ 17 := by omega
  clear u17 v3 v4 uz v5
  go_loop [5, 6] (fun n i => ∃ k m : Nat, k ≤ s.size ∧ i = .int .i64 k ∧ n = .int .i64 m ∧ m < 10 ^ k ∧ Hid (Lib.parseUint10 0 (s.data.toList.take k) = .ok m)) (fun _ i => s.size - (intOf i).toNat)
  case atStart => exact ⟨0, 0, Nat.zero_le _, rfl, rfl, by decide, rfl⟩
  case round =>
    obtain ⟨k, m, hk, rfl, rfl, hm, hin⟩ := hrel
    have hk17 : k ≤ 17 := by omega
    have hp := p10 k hk17
    by_cases hlt : k < s.size
    · have hb1 := bt_le s k
      have hb0 := bt_nonneg s k
      have hu := hbts k hlt
      by_cases hd0 : bt s k < 48
      · go_wp2
        go_ret2
        exact ⟨0, false, rfl, by omega, by omega, fun i h0 h1 e => absurd (decT_facts h0 h1 e) (fun hh => by have := hh.2.2.1 k hlt; omega), rfl⟩
      by_cases hd1 : 57 < bt s k
      · go_wp2
        go_ret2
        exact ⟨0, false, rfl, by omega, by omega, fun i h0 h1 e => absurd (decT_facts h0 h1 e) (fun hh => by have := hh.2.2.1 k hlt; omega), rfl⟩
      have HN : Hid (Lib.parseUint10 0 (s.data.toList.take (k + 1)) = .ok (m * 10 + (bt s k - 48).toNat)) := uint_step hlt hin.out rfl (by omega) (by omega) (by have := p10s k (by omega); omega)
      have hm2 : m * 10 + (bt s k - 48).toNat < 10 ^ (k + 1) := by rw [Nat.pow_succ]; omega
      have hp16 := p10s k (by omega)
      have e1 : ((m * 10 + (bt s k - 48).toNat : Nat) : Int) = (m : Int) * 10 + (bt s k - 48) := by omega
      have w1 : IntKind.u8.wrap (bt s k - 48) = bt s k - 48 := by rw [IntKind.wrap_u8]; omega
      clear hin
      go_wp2
      go_round
      case rel => exact ⟨k + 1, m * 10 + (bt s k - 48).toNat, by omega, by go_num, by rw [e1], hm2, HN⟩
      case measure => simp [intOf]; omega
    · obtain rfl : k = s.size := by omega
      have HEND : Hid (∀ i : Int, 1 ≤ i → i ≤ 9999 → s = M.decT i → (m : Int) = i) := fun i h0 h1 e => by
        have h2 := hin.out
        rw [List.take_of_length_le (by rw [Array.length_toList]; exact Nat.le_refl _), e] at h2
        have h3 := uint_dec i.toNat (by omega)
        have h4 : Lib.NumEnd.ok i.toNat = Lib.NumEnd.ok m := h3.symm.trans h2
        injection h4 with h4
        omega
      clear hin
      go_wp2
      go_ret2
      exact ⟨(m : Int), true, rfl, by omega, by omega, fun i h0 h1 e => HEND.out i h0 h1 e, rfl⟩
end Go.Proofs.YtjabpidmfgcamaaDoor
