/-
  HomeOf, in the program and in the model of the document.
-/
import Derived.Test.YtiecniogkcgefaaHome
import Derived.IntWalk
namespace Go.Proofs.Ytiecniogkcgefaa
open Go.RowKit Go.Maps
open Go.PlainAid (bt get_bt bt_nonneg bt_le)
set_option linter.unusedVariables false

/-- The last office of a path. -/
def M.lastS (P : List ByteArray) : ByteArray := P.getD (P.length - 1) ⟨#[]⟩
def M.homeOf (n : Nat) (NM : Nat → ByteArray) (RL : Nat → List (ByteArray × ByteArray)) (start c : ByteArray) : Option ByteArray :=
  if (M.routeP n NM RL start c).2 = 0 then some (M.lastS (M.routeP n NM RL start c).1) else none
theorem M.routeP_len (n : Nat) (NM : Nat → ByteArray) (RL : Nat → List (ByteArray × ByteArray)) (start c : ByteArray) : ((M.routeP n NM RL start c).2 = 0 → 1 ≤ (M.routeP n NM RL start c).1.length) ∧ (M.routeP n NM RL start c).1.length ≤ n + 2 := by
  unfold M.routeP
  split
  · have := M.path_len NM RL n start c
    exact ⟨fun _ => this.1, this.2⟩
  · exact ⟨fun h => absurd h (by decide), Nat.zero_le _⟩
theorem home_end {w : World} {f : Nat} {R : List ByteArray × Int} {v : Value} (hv : SRow w f v R.1) (h1 : 1 ≤ R.1.length) : ∃ b k, v = .slice (some ⟨b, 0, none⟩) R.1.length k ∧ w.cell? ⟨b, R.1.length - 1, none⟩ = some (.string (M.lastS R.1)) := by
  rcases hv.cases with ⟨_, hn⟩ | ⟨g, c, rfl, _, _⟩
  · rw [hn] at h1; exact absurd h1 (by decide)
  · refine ⟨g, c, rfl, ?_⟩
    rw [(hv.cellAt (R.1.length - 1) (by omega)).1]
    unfold M.lastS
    rw [List.getD_eq_getElem?_getD, List.getElem?_eq_getElem (by omega : R.1.length - 1 < R.1.length)]
    rfl
set_option maxHeartbeats 2000000 in
set_option maxRecDepth 100000 in
theorem spec_HomeOf (w : World) (a : Option Addr) (n cp : Nat) (NM : Nat → ByteArray) (RL : Nat → List (ByteArray × ByteArray)) (h : Nts w a n NM RL) (hf : NFits n NM RL) (hn : n ≤ 1048576) (hl : ∀ i, i < n → (RL i).length ≤ 1048576) (start c : ByteArray) (hc : c.size ≤ maxLen) :
    Calls Try.prog 38 #[.slice a n cp, .string start, .string c] w fun e w' => e = .returned (lkV (M.homeOf n NM RL start c)) ∧ Below w.heap.size w w' := by
  have HX := Lib.hid (spec_RoutePath w a n cp NM RL h hf hn hl start c hc)
  obtain ⟨hl1, hl2⟩ := M.routeP_len n NM RL start c
  have HD := Lib.hid (show M.homeOf n NM RL start c = if (M.routeP n NM RL start c).2 = 0 then some (M.lastS (M.routeP n NM RL start c).1) else none from rfl)
  obtain ⟨R, hR⟩ : ∃ R, M.routeP n NM RL start c = R := ⟨_, rfl⟩
  rw [hR] at HX hl1 hl2 HD
  clear h hf hl hc hR
  go_enter Try.func38, Try.ntmps38
  go_wp2_with fail
  refine HX.out.mono ?_
  rintro e w1 ⟨v, rfl, r1, hb1⟩
  by_cases h0 : R.2 = 0
  · obtain ⟨b, k, rfl, hc⟩ := home_end r1 (hl1 h0)
    have hlen := hl1 h0
    have HV : Hid (M.homeOf n NM RL start c = some (M.lastS R.1)) := by rw [Hid, HD.out, if_pos h0]
    obtain ⟨m, hm⟩ : ∃ m, R.1.length = m + 1 := ⟨R.1.length - 1, by omega⟩
    rw [hm, Nat.add_sub_cancel] at hc
    rw [hm] at hl2
    have h2 : (0 : Int) ≤ ((m + 1 : Nat) : Int) - 1 := by omega
    have h3 : (((m + 1 : Nat) : Int) - 1).toNat = m := by omega
    have h4 : ((m + 1 : Nat) : Int) - 1 = (m : Int) := by omega
    rw [h0, hm]
    have HH := Lib.hid hm
    clear h0 hm hl1 hlen r1 h4 HX
    go_wp2
    go_ret2
    exact ⟨by rw [HV.out]; rfl, hb1⟩
  · have HV : Hid (M.homeOf n NM RL start c = none) := by rw [Hid, HD.out, if_neg h0]
    have h1 : (R.2 != 0) = true := by unfold bne; rw [beq_eq_false_iff_ne.2 h0]; rfl
    have h2 : (R.2 == 0) = false := beq_eq_false_iff_ne.2 h0
    obtain ⟨x, hx⟩ : ∃ x, R.2 = x := ⟨_, rfl⟩
    rw [hx] at h1 h2 ⊢
    clear h0 hl1 hl2 hx
    go_wp2
    go_ret2
    exact ⟨by rw [HV.out]; rfl, hb1⟩
set_option maxHeartbeats 2000000 in
set_option maxRecDepth 100000 in
theorem impl_HomeOf (w : World) (a : Option Addr) (n cp : Nat) (NM : Nat → ByteArray) (RL : Nat → List (ByteArray × ByteArray)) (h : Nts w a n NM RL) (hf : NFits n NM RL) (hn : n ≤ 1048576) (start c : ByteArray) (hs : start.size ≤ maxLen) (hc : c.size ≤ maxLen) :
    Calls Try.prog 39 #[.slice a n cp, .string start, .string c] w fun e w' => e = .returned (lkV (M.homeOf n NM RL start c)) ∧ Below w.heap.size w w' := by
  have HX := Lib.hid (impl_RoutePath w a n cp NM RL h hf hn start c hs hc)
  obtain ⟨hl1, hl2⟩ := M.routeP_len n NM RL start c
  have HD := Lib.hid (show M.homeOf n NM RL start c = if (M.routeP n NM RL start c).2 = 0 then some (M.lastS (M.routeP n NM RL start c).1) else none from rfl)
  obtain ⟨R, hR⟩ : ∃ R, M.routeP n NM RL start c = R := ⟨_, rfl⟩
  rw [hR] at HX hl1 hl2 HD
  clear h hf hs hc hR
  go_enter Try.func39, Try.ntmps39
  go_wp2_with fail
  refine HX.out.mono ?_
  rintro e w1 ⟨v, rfl, r1, hb1⟩
  by_cases h0 : R.2 = 0
  · obtain ⟨b, k, rfl, hc⟩ := home_end r1 (hl1 h0)
    have hlen := hl1 h0
    have HV : Hid (M.homeOf n NM RL start c = some (M.lastS R.1)) := by rw [Hid, HD.out, if_pos h0]
    obtain ⟨m, hm⟩ : ∃ m, R.1.length = m + 1 := ⟨R.1.length - 1, by omega⟩
    rw [hm, Nat.add_sub_cancel] at hc
    rw [hm] at hl2
    have h2 : (0 : Int) ≤ ((m + 1 : Nat) : Int) - 1 := by omega
    have h3 : (((m + 1 : Nat) : Int) - 1).toNat = m := by omega
    have h4 : ((m + 1 : Nat) : Int) - 1 = (m : Int) := by omega
    rw [h0, hm]
    have HH := Lib.hid hm
    clear h0 hm hl1 hlen r1 h4 HX
    go_wp2
    go_ret2
    exact ⟨by rw [HV.out]; rfl, hb1⟩
  · have HV : Hid (M.homeOf n NM RL start c = none) := by rw [Hid, HD.out, if_neg h0]
    have h1 : (R.2 != 0) = true := by unfold bne; rw [beq_eq_false_iff_ne.2 h0]; rfl
    have h2 : (R.2 == 0) = false := beq_eq_false_iff_ne.2 h0
    obtain ⟨x, hx⟩ : ∃ x, R.2 = x := ⟨_, rfl⟩
    rw [hx] at h1 h2 ⊢
    clear h0 hl1 hl2 hx
    go_wp2
    go_ret2
    exact ⟨by rw [HV.out]; rfl, hb1⟩
end Go.Proofs.Ytiecniogkcgefaa
