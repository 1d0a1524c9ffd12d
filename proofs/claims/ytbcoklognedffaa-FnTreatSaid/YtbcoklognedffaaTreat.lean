/-
  What TreatCount returns, in the program and in the model of the document.
-/
import Derived.Test.YtbcoklognedffaaPPass3
namespace Go.Proofs.Ytbcoklognedffaa
open Go.RowKit
open Go.PlainAid (bt get_bt bt_nonneg bt_le)

/-- Each letter with a rank counts in each pass, each other one once. -/
def M.treatTo (S C : Nat → ByteArray) (n : Nat) (p : Int) : Nat → Int
  | 0 => 0
  | k + 1 => M.treatTo S C n p k + (if M.rankTo S (C k) n < 0 then 1 else p)
theorem M.treat_no {S C : Nat → ByteArray} {n k : Nat} {p : Int} (h : M.rankTo S (C k) n < 0) : M.treatTo S C n p (k + 1) = M.treatTo S C n p k + 1 := by
  show _ + (if _ then _ else _) = _
  rw [if_pos h]
theorem M.treat_yes {S C : Nat → ByteArray} {n k : Nat} {p : Int} (h : ¬ M.rankTo S (C k) n < 0) : M.treatTo S C n p (k + 1) = M.treatTo S C n p k + p := by
  show _ + (if _ then _ else _) = _
  rw [if_neg h]
theorem M.treat_bd (S C : Nat → ByteArray) (n : Nat) (p : Int) (p1 : 1 ≤ p) (p4 : p ≤ 4) : ∀ k : Nat, 0 ≤ M.treatTo S C n p k ∧ M.treatTo S C n p k ≤ 4 * k
  | 0 => ⟨Int.le_refl 0, Int.le_refl 0⟩
  | k + 1 => by
    have ih := M.treat_bd S C n p p1 p4 k
    by_cases h : M.rankTo S (C k) n < 0
    · rw [M.treat_no h]; omega
    · rw [M.treat_yes h]; omega
theorem M.treat_rest (b : Int) (S C : Nat → ByteArray) (n : Nat) (p : Int) (I : Nat → Int) : ∀ k : Nat, M.treatTo S C n p k = ((k : Int) - ((M.restTo (M.planKey b n S C 0) I C k).length : Int)) * p + ((M.restTo (M.planKey b n S C 0) I C k).length : Int)
  | 0 => by simp [M.treatTo, M.restTo]
  | k + 1 => by
    have ih := M.treat_rest b S C n p I k
    by_cases h : M.rankTo S (C k) n < 0
    · rw [M.treat_no h, M.restTo_none (M.planKey_none h), ih, List.length_append]
      have e : ((k + 1 : Nat) : Int) - (((M.restTo (M.planKey b n S C 0) I C k).length + [(I k, C k)].length : Nat) : Int) = (k : Int) - ((M.restTo (M.planKey b n S C 0) I C k).length : Int) := by simp; omega
      rw [e]
      simp
      omega
    · rw [M.treat_yes h, M.restTo_some (M.planKey_some (by omega)), ih]
      have e : ((k + 1 : Nat) : Int) - ((M.restTo (M.planKey b n S C 0) I C k).length : Int) = ((k : Int) - ((M.restTo (M.planKey b n S C 0) I C k).length : Int)) + 1 := by omega
      rw [e, Int.add_mul]
      omega
def M.treat (b p : Int) (n : Nat) (S : Nat → ByteArray) (m : Nat) (C : Nat → ByteArray) (I : Nat → Int) : Int := if (M.plan b p n S && M.batch m I C) = true then M.treatTo S C n p m else -1

set_option maxHeartbeats 1000000 in
theorem spec_TreatCount (w : World) (b p : Int) (a : Option Addr) (n c : Nat) (S : Nat → ByteArray) (h : Strs w a n S) (hf : SFits n S) (hn : n ≤ 1048576) (a2 : Option Addr) (m c2 : Nat) (I : Nat → Int) (C : Nat → ByteArray) (h2 : Lts w a2 m I C) (hf2 : Fits m I C) (hm : m ≤ 1048576) :
    Calls Try.prog 30 #[.agg #[.int .i64 b, .int .i64 p, .slice a n c], .slice a2 m c2] w fun e w' => e = .returned (.int .i64 (M.treat b p n S m C I)) ∧ Below w.heap.size w w' := by
  have HL := Lib.hid (h.on ((Below.refl _ _).alloc (Nat.le_refl _) (.cells #[.int .i64 b, .int .i64 p, .slice a n c] 25)))
  have HL2 := Lib.hid (h2.on ((Below.refl _ _).alloc (Nat.le_refl _) (.cells #[.int .i64 b, .int .i64 p, .slice a n c] 25)))
  have bx := Lib.hid (tri_made w (.int .i64 b) (.int .i64 p) (.slice a n c) 25)
  have HF := Lib.hid hf
  have HF2 := Lib.hid hf2
  have b0 := below_alloc0 w (.cells #[.int .i64 b, .int .i64 p, .slice a n c] 25)
  have B0 := Lib.hid b0
  clear h hf h2 hf2 b0
  cases hr : (M.plan b p n S && M.batch m I C)
  · have hv : Hid (M.treat b p n S m C I = -1) := by unfold Hid M.treat; rw [hr]; rfl
    go_enter Try.func30, Try.ntmps30
    go_wp2_with fail
    refine (spec_l3Ready _ b p a n c S HL.out HF.out hn a2 m c2 I C HL2.out HF2.out hm).mono ?_
    rw [hr]
    rintro e w1 ⟨rfl, hb1⟩
    go_wp2
    go_ret
    exact ⟨ret_int hv.out.symm, sstep B0.out hb1⟩
  have hv : Hid (M.treat b p n S m C I = M.treatTo S C n p m) := by unfold Hid M.treat; rw [hr]; rfl
  obtain ⟨s1, s2, s3, s4⟩ := M.plan_shape ((Bool.and_eq_true _ _).mp hr).1
  have HR := Lib.hid hr
  clear hr
  go_enter Try.func30, Try.ntmps30
  go_wp2_with fail
  refine (spec_l3Ready _ b p a n c S HL.out HF.out hn a2 m c2 I C HL2.out HF2.out hm).mono ?_
  rw [HR.out]
  rintro e w1 ⟨rfl, hb1⟩
  have HS := Lib.hid (HL.out.on hb1)
  have HT := Lib.hid (HL2.out.on hb1)
  have BX := Lib.hid (bx.out.on hb1)
  have BL : Hid (Below w.heap.size w w1) := sstep B0.out hb1
  clear hb1 HL HL2 bx
  go_wp2
  go_loopw [5, 6] (fun r i wr => ∃ k : Nat, k ≤ m ∧ i = .int .i64 k ∧ r = .int .i64 (M.treatTo S C n p k) ∧ Hid (Strs wr a n S) ∧ Hid (Lts wr a2 m I C) ∧ Hid (Tri wr w.heap.size (.int .i64 b) (.int .i64 p) (.slice a n c)) ∧ Hid (Below w.heap.size w wr)) (fun _ i _ => m - (intOf i).toNat)
  case atStart => exact ⟨0, Nat.zero_le _, rfl, rfl, HS, HT, BX, BL⟩
  case round =>
    obtain ⟨k, hk, rfl, rfl, hs0, ht0, hx0, hb0⟩ := hrel
    by_cases hlt : k < m
    · obtain ⟨⟨t0, t1, t2⟩, _⟩ := hx0.out
      have yes := Lib.hid (M.treat_yes (S := S) (C := C) (n := n) (k := k) (p := p))
      have no := Lib.hid (M.treat_no (S := S) (C := C) (n := n) (k := k) (p := p))
      have hbt := M.treat_bd S C n p s3 s4 k
      have hbd := M.rank_bd S (C k) n
      have hSI := Lib.hid (fun W h => spec_l3Rank W a n c S h hn (C k))
      obtain ⟨r, hr⟩ : ∃ r, M.rankTo S (C k) n = r := ⟨_, rfl⟩
      obtain ⟨q, hq⟩ : ∃ q, M.treatTo S C n p k = q := ⟨_, rfl⟩
      rw [hr, hq] at yes no
      rw [hr] at hbd hSI
      rw [hq] at hbt ⊢
      clear hr hq
      obtain ⟨b1, o1, rfl, c0, c1⟩ := ht0.out k hlt
      have hki : (k : Int) < (m : Int) := by omega
      have hk0 : (0 : Int) ≤ (k : Int) := by omega
      by_cases hrq : r < 0
      · have E := Lib.hid (no.out hrq)
        go_wp2
        go_quiet ((go_at_call 67; exact Calls.quiet_of_same (quiet_flip (hSI.out _ hs0.out))))
        go_wp2
        go_roundw
        case rel => exact ⟨k + 1, by omega, by go_num, by rw [E.out], hs0.out, ht0.out, hx0.out, below_drewN0 hb0.out _⟩
        case measure => simp [intOf]; omega
      · have E := Lib.hid (yes.out hrq)
        go_wp2
        go_quiet ((go_at_call 67; exact Calls.quiet_of_same (quiet_flip (hSI.out _ hs0.out))))
        go_wp2
        go_roundw
        case rel => exact ⟨k + 1, by omega, by go_num, by rw [E.out], hs0.out, ht0.out, hx0.out, below_drewN0 hb0.out _⟩
        case measure => simp [intOf]; omega
    · obtain rfl : k = m := by omega
      go_wp2
      go_ret
      exact ⟨ret_int hv.out.symm, hb0.out⟩

set_option maxHeartbeats 1000000 in
theorem impl_TreatCount (w : World) (b p : Int) (a : Option Addr) (n c : Nat) (S : Nat → ByteArray) (h : Strs w a n S) (hf : SFits n S) (hn : n ≤ 1048576) (a2 : Option Addr) (m c2 : Nat) (I : Nat → Int) (C : Nat → ByteArray) (h2 : Lts w a2 m I C) (hf2 : Fits m I C) :
    Calls Try.prog 29 #[.agg #[.int .i64 b, .int .i64 p, .slice a n c], .slice a2 m c2] w fun e w' => e = .returned (.int .i64 (M.treat b p n S m C I)) ∧ Below w.heap.size w w' := by
  have HL := Lib.hid (h.on ((Below.refl _ _).alloc (Nat.le_refl _) (.cells #[.int .i64 b, .int .i64 p, .slice a n c] 25)))
  have HL2 := Lib.hid (h2.on ((Below.refl _ _).alloc (Nat.le_refl _) (.cells #[.int .i64 b, .int .i64 p, .slice a n c] 25)))
  have bx := Lib.hid (tri_made w (.int .i64 b) (.int .i64 p) (.slice a n c) 25)
  have HF := Lib.hid hf
  have HF2 := Lib.hid hf2
  have B0 := Lib.hid (below_alloc0 w (.cells #[.int .i64 b, .int .i64 p, .slice a n c] 25))
  have HC := Lib.hid (fun W h h2 => impl_PlanPass_any W b p a n c S h HF.out hn a2 m c2 I C h2 HF2.out 0)
  clear h hf h2 hf2
  unfold PassRet at HC
  cases hr : (M.plan b p n S && M.batch m I C)
  · have hv : Hid (M.treat b p n S m C I = -1) := by unfold Hid M.treat; rw [hr]; rfl
    have hk : M.passOk b p n S m I C 0 = false := by unfold M.passOk; rw [hr]; rfl
    rw [hk] at HC
    clear hr hk
    go_enter Try.func29, Try.ntmps29
    go_wp2_with fail
    refine (HC.out _ HL.out HL2.out).mono ?_
    rintro e w1 ⟨v, V, u, rfl, _, _, _, hb1⟩
    go_wp2
    go_ret
    exact ⟨ret_int hv.out.symm, sstep B0.out hb1⟩
  obtain ⟨hp, hb⟩ := (Bool.and_eq_true _ _).mp hr
  obtain ⟨s1, s2, s3, s4⟩ := M.plan_shape hp
  have hm60 := (M.batch_yes hb).1
  have hk : M.passOk b p n S m I C 0 = true := by unfold M.passOk; rw [hr]; exact decide_eq_true (by omega)
  have hv : M.treat b p n S m C I = ((m : Int) - ((M.restTo (M.planKey b n S C 0) I C m).length : Int)) * p + ((M.restTo (M.planKey b n S C 0) I C m).length : Int) := by unfold M.treat; rw [hr, if_pos rfl]; exact M.treat_rest b S C n p I m
  rw [hk, if_pos rfl, if_pos rfl] at HC
  have hl := M.restTo_len (M.planKey b n S C 0) I C m
  obtain ⟨LL, hLL⟩ : ∃ LL, M.restTo (M.planKey b n S C 0) I C m = LL := ⟨_, rfl⟩
  have HC2 : Hid (∀ W, Strs W a n S → Lts W a2 m I C → Calls Try.prog 12 #[.agg #[.int .i64 b, .int .i64 p, .slice a n c], .slice a2 m c2, .int .i64 0] W (PassRes W true b.toNat (M.binTo (M.planKey b n S C 0) I C m) LL)) := fun W h h2 => hLL ▸ HC.out W h h2
  rw [hLL] at hv hl
  have HV := Lib.hid hv
  clear hr hk hv hLL hp hb HC
  have hp4 : p = 1 ∨ p = 2 ∨ p = 3 ∨ p = 4 := by omega
  rcases hp4 with rfl | rfl | rfl | rfl
  all_goals
    go_enter Try.func29, Try.ntmps29
    go_wp2_with fail
    refine (HC2.out _ HL.out HL2.out).mono ?_
    rintro e w1 ⟨v, V, u, rfl, _, hrow, _, hb1⟩
    obtain ⟨a3, c3, rfl, hlc, _⟩ := hrow.form
    have BL : Hid (Below w.heap.size w w1) := sstep B0.out hb1
    obtain ⟨⟨t0, t1, t2⟩, _⟩ := bx.out.on hb1
    clear hrow hb1
    go_wp2
    go_ret
    exact ⟨ret_int (by have := HV.out; omega), BL.out⟩
end Go.Proofs.Ytbcoklognedffaa
