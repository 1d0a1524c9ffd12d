/-
  Whether names and rules are valid, in the program and in the model of the document.
-/
import Derived.Test.YtkbebpadbdhnhaaRul
import Derived.Test.YtkbebpadbdhnhaaPlan
import Derived.Test.YtkbebpadbdhnhaaSplit
import Derived.Test.YtkbebpadbdhnhaaRulM
import Derived.Test.YtkbebpadbdhnhaaIn
namespace Go.Proofs.Ytkbebpadbdhnhaa
open Go.RowKit
open Go.PlainAid (bt get_bt bt_nonneg bt_le)

set_option maxHeartbeats 400000 in
theorem spec_l6Name (s : ByteArray) (w : World) (hs : s.size ≤ maxLen) :
    Calls Try.prog 31 #[.string s] w fun e w' => e = .returned (.bool (M.name s)) ∧ w = w' := by
  unfold maxLen at hs
  have hbt := get_bt s
  go_enter Try.func31, Try.ntmps31
  go_wp2
  go_loop [3] (fun i => ∃ k : Nat, k ≤ s.size ∧ i = .int .i64 k ∧ Hid (M.lowTo s k = true)) (fun i => s.size - (intOf i).toNat)
  case atStart => exact ⟨0, Nat.zero_le _, rfl, M.lowTo_zero s⟩
  case round =>
    obtain ⟨k, hk, rfl, hd⟩ := hrel
    by_cases hlt : k < s.size
    · by_cases h1 : bt s k < 97
      · have hno := Lib.hid (M.name_no hlt (Or.inl h1))
        go_wp2
        go_ret
        exact ⟨ret_bool hno.out.symm, rfl⟩
      · by_cases h2 : 122 < bt s k
        · have hno := Lib.hid (M.name_no hlt (Or.inr h2))
          go_wp2
          go_ret
          exact ⟨ret_bool hno.out.symm, rfl⟩
        · have hok := Lib.hid (M.lowTo_succ hd.out (by omega) (by omega))
          go_wp2
          go_round
          case rel => exact ⟨k + 1, by omega, by go_num, hok⟩
          case measure => simp [intOf]; omega
    · obtain rfl : k = s.size := by omega
      have he : Hid ((decide ((1 : Int) ≤ (s.size : Int)) && decide ((s.size : Int) ≤ 8)) = M.name s) := by
        rw [Hid, M.name_end hd.out, ← Bool.decide_and]; exact decide_eq_decide.2 ⟨fun h => ⟨by omega, by omega⟩, fun h => ⟨by omega, by omega⟩⟩
      clear hd
      go_wp2_with (go_at_call 41; refine (spec_l1In _ _ _ _).mono ?_; rintro e w1 ⟨rfl, rfl⟩)
      go_ret
      exact ⟨ret_bool he.out, rfl⟩

set_option maxHeartbeats 400000 in
theorem spec_l6Index (w : World) (a : Option Addr) (n c : Nat) (F T : Nat → ByteArray) (h : Fws w a n F T) (hn : n ≤ 1048576) (x : ByteArray) :
    Calls Try.prog 18 #[.slice a n c, .string x] w fun e w' => e = .returned (.int .i64 (M.rankTo F x n)) ∧ w = w' := by
  have HL := Lib.hid h
  clear h
  go_enter Try.func18, Try.ntmps18
  go_wp2
  go_loop [5] (fun i => ∃ k : Nat, k ≤ n ∧ i = .int .i64 k ∧ Hid (∀ j, j < k → F j ≠ x)) (fun i => n - (intOf i).toNat)
  case atStart => exact ⟨0, Nat.zero_le _, rfl, fun j hj => absurd hj (by omega)⟩
  case round =>
    obtain ⟨k, hk, rfl, hno⟩ := hrel
    by_cases hlt : k < n
    · obtain ⟨b, o, rfl, c0, c1⟩ := HL.out k hlt
      by_cases he : F k = x
      · have hd : ((F k).toList == x.toList) = true := by rw [he]; simp
        have hv := Lib.hid (M.rank_hit hlt he hno.out)
        clear he
        go_wp2
        go_ret
        exact ⟨ret_int hv.out.symm, rfl⟩
      · have hd : ((F k).toList == x.toList) = false := neq_list0 he
        have HE := Lib.hid he
        clear he
        go_wp2
        go_round
        case rel => exact ⟨k + 1, by omega, by go_num, fun q hq => by by_cases e : q = k; (subst e; exact HE.out); exact hno.out q (by omega)⟩
        case measure => simp [intOf]; omega
    · obtain rfl : k = n := by omega
      have hv := Lib.hid (M.rank_miss hno.out)
      go_wp2
      go_ret
      exact ⟨ret_int hv.out.symm, rfl⟩

theorem rank_low {F : Nat → ByteArray} {n k : Nat} (hlt : k < n) (hs : ∃ j, j < k ∧ F j = F k) : ∃ r : Nat, M.rankTo F (F k) n = (r : Int) ∧ r < k := by
  obtain ⟨j, hj, e⟩ := hs
  induction j using Nat.strongRecOn with
  | ind j ih =>
    by_cases h2 : ∃ i, i < j ∧ F i = F k
    · obtain ⟨i, hi, e2⟩ := h2
      exact ih i hi (by omega) e2
    · exact ⟨j, M.rank_hit (by omega) e fun i hi e2 => h2 ⟨i, hi, e2⟩, hj⟩

set_option maxHeartbeats 1000000 in
theorem spec_RulesValid (w : World) (a : Option Addr) (n c : Nat) (F T : Nat → ByteArray) (h : Fws w a n F T) (hf : FFits n F T) (hn : n ≤ 1048576) :
    Calls Try.prog 19 #[.slice a n c] w fun e w' => e = .returned (.bool (M.rul n F T)) ∧ w = w' := by
  have HL := Lib.hid h
  have HF := Lib.hid hf
  clear h hf
  go_enter Try.func19, Try.ntmps19
  go_wp2
  go_loop [3] (fun i => ∃ k : Nat, k ≤ n ∧ i = .int .i64 k ∧ Hid (M.rulTo F T k = true)) (fun i => n - (intOf i).toNat)
  case atStart => exact ⟨0, Nat.zero_le _, rfl, rfl⟩
  case round =>
    obtain ⟨k, hk, rfl, hg⟩ := hrel
    by_cases hlt : k < n
    · have HL2 := Lib.hid HL.out
      obtain ⟨b, o, rfl, c0, c1⟩ := HL.out k hlt
      obtain ⟨s0, s1⟩ := HF.out k hlt
      cases hc0 : M.prefixOk (F k)
      · have hv := Lib.hid (M.rul_no (N := T) hlt (Or.inl hc0))
        go_wp2_with fail
        refine (spec_l2Prefix _ _ s0).mono ?_
        rw [hc0]
        rintro e w1 ⟨rfl, rfl⟩
        go_wp2
        go_ret
        exact ⟨ret_bool hv.out.symm, rfl⟩
      cases hc1 : M.name (T k)
      · have hv := Lib.hid (M.rul_no (P := F) hlt (Or.inr (Or.inl hc1)))
        go_wp2_with fail
        refine (spec_l2Prefix _ _ s0).mono ?_
        rw [hc0]
        rintro e w1 ⟨rfl, rfl⟩
        go_wp2_with fail
        refine (spec_l6Name _ _ s1).mono ?_
        rw [hc1]
        rintro e w1 ⟨rfl, rfl⟩
        go_wp2
        go_ret
        exact ⟨ret_bool hv.out.symm, rfl⟩
      have HX := Lib.hid (spec_l6Index w (some ⟨b, o, none⟩) n c F T HL2.out hn (F k))
      by_cases hs : ∃ j, j < k ∧ F j = F k
      · have hv := Lib.hid (M.rul_no (N := T) hlt (Or.inr (Or.inr hs)))
        obtain ⟨r, hr, hrk⟩ := rank_low hlt hs
        rw [hr] at HX
        have hne : ((r : Int) == (k : Int)) = false := by rw [beq_eq_false_iff_ne]; omega
        clear hs hr
        go_wp2_with fail
        refine (spec_l2Prefix _ _ s0).mono ?_
        rw [hc0]
        rintro e w1 ⟨rfl, rfl⟩
        go_wp2_with fail
        refine (spec_l6Name _ _ s1).mono ?_
        rw [hc1]
        rintro e w1 ⟨rfl, rfl⟩
        go_wp2_with fail
        refine HX.out.mono ?_
        rintro e w1 ⟨rfl, rfl⟩
        go_wp2
        go_ret
        exact ⟨ret_bool hv.out.symm, rfl⟩
      · have hno : ∀ j, j < k → F j ≠ F k := fun j hj e => hs ⟨j, hj, e⟩
        rw [M.rank_hit hlt rfl hno] at HX
        have hsu := Lib.hid (M.rulTo_succ hg.out hc0 hc1 hno)
        clear hs hno
        go_wp2_with fail
        refine (spec_l2Prefix _ _ s0).mono ?_
        rw [hc0]
        rintro e w1 ⟨rfl, rfl⟩
        go_wp2_with fail
        refine (spec_l6Name _ _ s1).mono ?_
        rw [hc1]
        rintro e w1 ⟨rfl, rfl⟩
        go_wp2_with fail
        refine HX.out.mono ?_
        rintro e w1 ⟨rfl, rfl⟩
        go_wp2
        go_round
        case rel => exact ⟨k + 1, by omega, by go_num, hsu⟩
        case measure => simp [intOf]; omega
    · obtain rfl : k = n := by omega
      have hv : Hid (decide ((k : Int) ≤ 20) = M.rul k F T) := by rw [M.rul_end hg.out]; exact decide_eq_decide.2 (by omega)
      go_wp2
      go_ret
      exact ⟨ret_bool hv.out, rfl⟩
end Go.Proofs.Ytkbebpadbdhnhaa
