/-
  Whether offices are a network, in the model of the document.
-/
import Derived.Test.YtabmbbnfpfkcaaaNetA
import Derived.Test.YtabmbbnfpfkcaaaNetM
namespace Go.Proofs.Ytabmbbnfpfkcaaa
open Go.RowKit Go.Maps
open Go.PlainAid (bt get_bt bt_nonneg bt_le)
set_option linter.unusedVariables false

theorem here_no {s : ByteArray} (h : s ≠ M.here) : (s.toList == [104, 101, 114, 101]) = false := by
  have e : M.here.toList = [104, 101, 114, 101] := by rw [ByteArray.toList_eq]; rfl
  rw [← e]; exact neq_list0 h
theorem here_yes {s : ByteArray} (h : s = M.here) : (s.toList == [104, 101, 114, 101]) = true := by
  have e : M.here.toList = [104, 101, 114, 101] := by rw [ByteArray.toList_eq]; rfl
  rw [← e, h]; simp
theorem here_no2 {s : ByteArray} (h : s ≠ M.here) : (s.toList != [104, 101, 114, 101]) = true := by unfold bne; rw [here_no h]; rfl
theorem here_yes2 {s : ByteArray} (h : s = M.here) : (s.toList != [104, 101, 114, 101]) = false := by unfold bne; rw [here_yes h]; rfl
theorem eqS {s t : ByteArray} (h : s = t) : (s.toList == t.toList) = true := by rw [h]; simp
set_option maxHeartbeats 400000 in
theorem spec_l6Office (w : World) (a : Option Addr) (n c : Nat) (NM : Nat → ByteArray) (RL : Nat → List (ByteArray × ByteArray)) (h : Nts w a n NM RL) (hn : n ≤ 1048576) (x : ByteArray) :
    Calls Try.prog 55 #[.slice a n c, .string x] w fun e w' => e = .returned (.int .i64 (M.rankTo NM x n)) ∧ w = w' := by
  have HL := Lib.hid h
  clear h
  go_enter Try.func55, Try.ntmps55
  go_wp2
  go_loop [5] (fun i => ∃ k : Nat, k ≤ n ∧ i = .int .i64 k ∧ Hid (∀ j, j < k → NM j ≠ x)) (fun i => n - (intOf i).toNat)
  case atStart => exact ⟨0, Nat.zero_le _, rfl, fun j hj => absurd hj (by omega)⟩
  case round =>
    obtain ⟨k, hk, rfl, hno⟩ := hrel
    by_cases hlt : k < n
    · obtain ⟨b, o, a', c', rfl, c0, c1, _⟩ := HL.out k hlt
      by_cases he : NM k = x
      · have hd : ((NM k).toList == x.toList) = true := eqS he
        have hv := Lib.hid (M.rank_hit hlt he hno.out)
        clear he
        go_wp2
        go_ret
        exact ⟨ret_int hv.out.symm, rfl⟩
      · have hd : ((NM k).toList == x.toList) = false := neq_list0 he
        have HE := Lib.hid he
        clear he
        go_wp2
        go_round
        case rel => exact ⟨k + 1, by omega, by go_num, fun q hq => by by_cases e : q = k; (subst e; exact HE.out); exact hno.out q (by omega)⟩
        case measure => simp [intOf]; omega
    · obtain rfl : k = n := by omega
      have hv := Lib.hid (M.rank_miss hno.out)
      go_wp2
      go_ret
      exact ⟨ret_int hv.out.symm, rfl⟩

set_option maxHeartbeats 2000000 in
set_option maxRecDepth 100000 in
theorem spec_NetworkValid (w : World) (a : Option Addr) (n c : Nat) (NM : Nat → ByteArray) (RL : Nat → List (ByteArray × ByteArray)) (h : Nts w a n NM RL) (hf : NFits n NM RL) (hn : n ≤ 1048576) (hl : ∀ i, i < n → (RL i).length ≤ 1048576) :
    Calls Try.prog 54 #[.slice a n c] w fun e w' => e = .returned (.bool (M.net n NM RL)) ∧ w = w' := by
  have HL := Lib.hid h
  have HF := Lib.hid hf
  have HLN := Lib.hid hl
  clear h hf hl
  go_enter Try.func54, Try.ntmps54
  go_wp2
  go_loop [3, 4] (fun i _ => ∃ k : Nat, k ≤ n ∧ i = .int .i64 k ∧ Hid (M.nameTo NM k = true) ∧ Hid (∀ q, q < k → M.ruleOk NM n (RL q) = true)) (fun i _ => n - (intOf i).toNat)
  case atStart => exact ⟨0, Nat.zero_le _, rfl, rfl, fun q hq => absurd hq (by omega)⟩
  case round =>
    obtain ⟨k, hk, rfl, hg, hru⟩ := hrel
    by_cases hlt : k < n
    · have HX := Lib.hid (spec_l6Office w a n c NM RL HL.out hn)
      have HL2 := Lib.hid HL.out
      obtain ⟨b, o, a', c', rfl, c0, c1, hfw⟩ := HL2.out k hlt
      obtain ⟨s0, f0, m0⟩ := HF.out k hlt
      have hlk := HLN.out k hlt
      have HNM := Lib.hid (spec_l6Name (NM k) w s0)
      have HRV := Lib.hid (spec_RulesValid w a' _ c' _ _ hfw f0 hlk)
      have HFW := Lib.hid hfw
      clear HL2 hfw f0 m0
      cases hc0 : M.name (NM k)
      · have hv := Lib.hid (M.net_name (RL := RL) (M.nameTo_no hlt (Or.inl hc0)))
        rw [hc0] at HNM
        clear hc0
        go_wp2_with (go_at_call 67; refine HNM.out.mono ?_; rintro e w1 ⟨rfl, rfl⟩)
        go_ret
        exact ⟨ret_bool hv.out.symm, rfl⟩
      rw [hc0] at HNM
      have HC0 := Lib.hid hc0
      clear hc0
      by_cases he : NM k = M.here
      · have hv := Lib.hid (M.net_name (RL := RL) (M.nameTo_no hlt (Or.inr (Or.inl he))))
        have hd := here_yes he
        clear he
        go_wp2_with (go_at_call 67; refine HNM.out.mono ?_; rintro e w1 ⟨rfl, rfl⟩)
        go_ret
        exact ⟨ret_bool hv.out.symm, rfl⟩
      have hd := here_no he
      have HE := Lib.hid he
      clear he
      by_cases hs : ∃ j, j < k ∧ NM j = NM k
      · have hv := Lib.hid (M.net_name (RL := RL) (M.nameTo_no hlt (Or.inr (Or.inr hs))))
        obtain ⟨r, hr, hrk⟩ := rank_low hlt hs
        have HX2 := Lib.hid (HX.out (NM k))
        rw [hr] at HX2
        have hne : ((r : Int) == (k : Int)) = false := by rw [beq_eq_false_iff_ne]; omega
        have hne2 : ((r : Int) != (k : Int)) = true := by unfold bne; rw [hne]; rfl
        clear hs hr HX
        go_wp2_with (first
          | (go_at_call 67; refine HNM.out.mono ?_; rintro e w1 ⟨rfl, rfl⟩)
          | (go_at_call 55; refine HX2.out.mono ?_; rintro e w1 ⟨rfl, rfl⟩))
        go_ret
        exact ⟨ret_bool hv.out.symm, rfl⟩
      have hno : ∀ j, j < k → NM j ≠ NM k := fun j hj e => hs ⟨j, hj, e⟩
      have HX2 := Lib.hid (HX.out (NM k))
      rw [M.rank_hit hlt rfl hno] at HX2
      have hsu := Lib.hid (M.nameTo_succ hg.out HC0.out HE.out hno)
      clear hs hno hg
      cases hc1 : M.rul (RL k).length (nF (RL k)) (nT (RL k))
      · have hv := Lib.hid (M.net_rule (NM := NM) hlt (M.ruleOk_no (Or.inl hc1)))
        rw [hc1] at HRV
        clear hc1
        go_wp2_with (first
          | (go_at_call 67; refine HNM.out.mono ?_; rintro e w1 ⟨rfl, rfl⟩)
          | (go_at_call 55; refine HX2.out.mono ?_; rintro e w1 ⟨rfl, rfl⟩)
          | (go_at_call 39; refine HRV.out.mono ?_; rintro e w1 ⟨rfl, rfl⟩))
        go_ret
        exact ⟨ret_bool hv.out.symm, rfl⟩
      rw [hc1] at HRV
      have HC1 := Lib.hid hc1
      clear hc1
      go_wp2_with (first
        | (go_at_call 67; refine HNM.out.mono ?_; rintro e w1 ⟨rfl, rfl⟩)
        | (go_at_call 55; refine HX2.out.mono ?_; rintro e w1 ⟨rfl, rfl⟩)
        | (go_at_call 39; refine HRV.out.mono ?_; rintro e w1 ⟨rfl, rfl⟩))
      go_loop [4] (fun j => ∃ q : Nat, q ≤ (RL k).length ∧ j = .int .i64 q ∧ Hid (∀ p, p < q → M.leads NM n (nT (RL k) p) = true)) (fun j => (RL k).length - (intOf j).toNat)
      case atStart => exact ⟨0, Nat.zero_le _, rfl, fun q hq => absurd hq (by omega)⟩
      case round =>
        obtain ⟨q, hq, rfl, hall⟩ := hrel
        by_cases hltq : q < (RL k).length
        · obtain ⟨b1, o1, rfl, e0, e1⟩ := HFW.out q hltq
          cases hle : M.leads NM n (nT (RL k) q)
          · have hv := Lib.hid (M.net_rule (NM := NM) hlt (M.ruleOk_no (Or.inr ⟨(RL k)[q], List.getElem_mem hltq, by rw [← nT_at hltq]; exact hle⟩)))
            have hnl : ¬ (nT (RL k) q = M.here ∨ ∃ i, i < n ∧ NM i = nT (RL k) q) := fun e => by rw [M.leads_iff.2 e] at hle; cases hle
            have hd2 := here_no (s := nT (RL k) q) fun e => hnl (Or.inl e)
            have hd3 := here_no2 (s := nT (RL k) q) fun e => hnl (Or.inl e)
            have HX3 := Lib.hid (HX.out (nT (RL k) q))
            rw [M.rank_miss fun j hj e => hnl (Or.inr ⟨j, hj, e⟩)] at HX3
            clear hle hnl HX HX2
            go_wp2_with (go_at_call 55; refine HX3.out.mono ?_; rintro e w1 ⟨rfl, rfl⟩)
            go_ret
            exact ⟨ret_bool hv.out.symm, rfl⟩
          · have hst : Hid (∀ p, p < q + 1 → M.leads NM n (nT (RL k) p) = true) := fun p hp => by
              by_cases e : p = q
              · subst e; exact hle
              · exact hall.out p (by omega)
            by_cases hh : nT (RL k) q = M.here
            · have hd2 := here_yes hh
              have hd3 := here_yes2 hh
              clear hle hh HX HX2
              go_wp2
              go_round
              case rel => exact ⟨q + 1, by omega, by go_num, hst⟩
              case measure => simp [intOf]; omega
            · obtain ⟨i, hi, hie⟩ := (M.leads_iff.1 hle).resolve_left hh
              have hd2 := here_no hh
              have hd3 := here_no2 hh
              obtain ⟨r, hr⟩ : ∃ r : Nat, M.rankTo NM (nT (RL k) q) n = (r : Int) := by
                rcases M.rankC NM (nT (RL k) q) n with ⟨_, hno⟩ | ⟨r, _, _, _, hr⟩
                · exact absurd hie (hno i hi)
                · exact ⟨r, hr⟩
              have HX3 := Lib.hid (HX.out (nT (RL k) q))
              rw [hr] at HX3
              clear hle hh hie hr HX HX2
              go_wp2_with (go_at_call 55; refine HX3.out.mono ?_; rintro e w1 ⟨rfl, rfl⟩)
              go_round
              case rel => exact ⟨q + 1, by omega, by go_num, hst⟩
              case measure => simp [intOf]; omega
        · obtain rfl : q = (RL k).length := by omega
          have hok : Hid (∀ p, p < k + 1 → M.ruleOk NM n (RL p) = true) := fun p hp => by
            by_cases e : p = k
            · subst e
              refine M.ruleOk_yes HC1.out fun y hy => ?_
              obtain ⟨i, hi, rfl⟩ := List.getElem_of_mem hy
              rw [← nT_at hi]; exact hall.out i hi
            · exact hru.out p (by omega)
          go_wp2
          go_round
          case rel => exact ⟨k + 1, by omega, by go_num, hsu, hok⟩
          case measure => simp [intOf]; omega
    · obtain rfl : k = n := by omega
      have hv : Hid ((decide ((1 : Int) ≤ (k : Int)) && decide ((k : Int) ≤ 8)) = M.net k NM RL) := by
        rw [Hid, M.net_all hg.out hru.out, ← Bool.decide_and]; exact decide_eq_decide.2 ⟨fun h => ⟨by omega, by omega⟩, fun h => ⟨by omega, by omega⟩⟩
      go_wp2_with (go_at_call 76; refine (spec_l1In _ _ _ _).mono ?_; rintro e w1 ⟨rfl, rfl⟩)
      go_ret
      exact ⟨ret_bool hv.out, rfl⟩
end Go.Proofs.Ytabmbbnfpfkcaaa
