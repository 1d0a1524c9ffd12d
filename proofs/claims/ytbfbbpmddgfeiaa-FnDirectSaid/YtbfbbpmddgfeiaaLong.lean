/-
  The longest chain: program and model.
-/
import Derived.Test.YtbfbbpmddgfeiaaNext
namespace Go.Proofs.Ytbfbbpmddgfeiaa
open Go.RowKit Go.Maps
open Go.PlainAid (bt get_bt bt_nonneg bt_le)
set_option linter.unusedVariables false

def M.endS : Option (ByteArray × Nat) → ByteArray
  | none => ⟨#[]⟩
  | some p => p.1
def M.cntOf : Option (ByteArray × Nat) → Nat
  | none => 0
  | some p => p.2
theorem resV_eq : ∀ r : Option (ByteArray × Nat), resV r = .tuple #[.string (M.endS r), .int .i64 (M.cntOf r), .bool r.isSome]
  | none => rfl
  | some (_, _) => rfl
/-- Answers of two and of three values. -/
def Form2 (v : Value) : Prop := ∃ s y, v = .tuple #[.string s, .bool y]
def Form3 (v : Value) : Prop := ∃ (s : ByteArray) (t : Nat) (y : Bool), v = .tuple #[.string s, .int .i64 t, .bool y]
theorem nx_form : ∀ r, Form2 (nxV r)
  | none => ⟨_, _, rfl⟩
  | some _ => ⟨_, _, rfl⟩
theorem res_form : ∀ r, Form3 (resV r)
  | none => ⟨_, 0, _, rfl⟩
  | some (_, _) => ⟨_, _, _, rfl⟩
def M.longTo (F T : Nat → ByteArray) (n : Nat) : Nat → Nat
  | 0 => 0
  | k + 1 => if M.longTo F T n k < M.cntOf (M.res F T n (F k)) then M.cntOf (M.res F T n (F k)) else M.longTo F T n k
def M.longest (F T : Nat → ByteArray) (n : Nat) : Int := if M.fwd n F T then (M.longTo F T n n : Int) else -1
theorem M.longest_no {F T : Nat → ByteArray} {n : Nat} (h : M.fwd n F T = false) : M.longest F T n = -1 := by unfold M.longest; rw [h]; rfl
theorem M.longest_yes {F T : Nat → ByteArray} {n : Nat} (h : M.fwd n F T = true) : M.longest F T n = (M.longTo F T n n : Int) := by unfold M.longest; rw [h]; rfl
theorem M.cnt_le (F T : Nat → ByteArray) (n : Nat) (c : ByteArray) : M.cntOf (M.res F T n c) ≤ n := by
  cases h : M.res F T n c with
  | none => exact Nat.zero_le _
  | some p => exact (M.res_some h).1
theorem M.long_le (F T : Nat → ByteArray) (n : Nat) : ∀ k, M.longTo F T n k ≤ n
  | 0 => Nat.zero_le _
  | k + 1 => by
    unfold M.longTo
    split
    · exact M.cnt_le F T n _
    · exact M.long_le F T n k
theorem M.long_up {F T : Nat → ByteArray} {n k x c : Nat} (h : M.longTo F T n k = x) (hc : M.cntOf (M.res F T n (F k)) = c) (hlt : x < c) : M.longTo F T n (k + 1) = c := by
  subst h hc
  exact if_pos hlt
theorem M.long_on {F T : Nat → ByteArray} {n k x c : Nat} (h : M.longTo F T n k = x) (hc : M.cntOf (M.res F T n (F k)) = c) (hlt : ¬ x < c) : M.longTo F T n (k + 1) = x := by
  subst h hc
  exact if_neg hlt

set_option maxHeartbeats 1000000 in
theorem spec_LongestChain (w : World) (a : Option Addr) (n cap : Nat) (F T : Nat → ByteArray) (h : Fws w a n F T) (hf : FFits n F T) (hn : n ≤ 1048576) :
    Calls Try.prog 44 #[.slice a n cap] w fun e w' => e = .returned (.int .i64 (M.longest F T n)) ∧ w = w' := by
  have HL := Lib.hid h
  have HV := Lib.hid (spec_ForwardsValid w a n cap F T h hf hn)
  clear h hf
  go_enter Try.func44, Try.ntmps44
  cases hok : M.fwd n F T
  · have hv := Lib.hid (M.longest_no hok)
    rw [hok] at HV
    clear hok
    go_wp2_with fail
    refine HV.out.mono ?_
    rintro e w1 ⟨rfl, rfl⟩
    go_wp2
    go_ret
    exact ⟨by rw [hv.out]; rfl, rfl⟩
  · have hv := Lib.hid (M.longest_yes hok)
    rw [hok] at HV
    clear hok
    go_wp2_with fail
    refine HV.out.mono ?_
    rintro e w1 ⟨rfl, rfl⟩
    go_wp2
    go_loop [3, 4] (fun v i => ∃ (k x : Nat), k ≤ n ∧ i = .int .i64 k ∧ v = .int .i64 x ∧ x ≤ n ∧ Hid (M.longTo F T n k = x)) (fun _ i => n - (intOf i).toNat)
    case atStart => exact ⟨0, 0, Nat.zero_le _, rfl, rfl, Nat.zero_le _, rfl⟩
    case round =>
      obtain ⟨k, x, hk, rfl, rfl, hx, hx2⟩ := hrel
      by_cases hlt : k < n
      · obtain ⟨b, o, rfl, c0, c1⟩ := HL.out k hlt
        have HX := Lib.hid (spec_l4Resolve w _ n cap F T HL.out hn (F k))
        rw [resV_eq] at HX
        obtain ⟨c, hc⟩ : ∃ c, M.cntOf (M.res F T n (F k)) = c := ⟨_, rfl⟩
        have hcn := M.cnt_le F T n (F k)
        rw [hc] at HX hcn
        obtain ⟨s, hs⟩ : ∃ s, M.endS (M.res F T n (F k)) = s := ⟨_, rfl⟩
        obtain ⟨y, hy⟩ : ∃ y, (M.res F T n (F k)).isSome = y := ⟨_, rfl⟩
        rw [hs, hy] at HX
        clear hs hy
        by_cases hxc : x < c
        · have hup := Lib.hid (M.long_up hx2.out hc hxc)
          clear hc
          go_wp2_with fail
          refine HX.out.mono ?_
          rintro e w1 ⟨rfl, rfl⟩
          go_wp2
          go_round
          case rel => exact ⟨k + 1, c, by omega, by go_num, rfl, hcn, hup⟩
          case measure => simp [intOf]; omega
        · have hup := Lib.hid (M.long_on hx2.out hc hxc)
          clear hc
          go_wp2_with fail
          refine HX.out.mono ?_
          rintro e w1 ⟨rfl, rfl⟩
          go_wp2
          go_round
          case rel => exact ⟨k + 1, x, by omega, by go_num, rfl, hx, hup⟩
          case measure => simp [intOf]; omega
      · obtain rfl : k = n := by omega
        go_wp2
        go_ret
        exact ⟨by rw [hv.out, hx2.out]; rfl, rfl⟩

set_option maxHeartbeats 2000000 in
set_option maxRecDepth 100000 in
theorem impl_LongestChain (w : World) (a : Option Addr) (n cap : Nat) (F T : Nat → ByteArray) (h : Fws w a n F T) (hf : FFits n F T) :
    Calls Try.prog 39 #[.slice a n cap] w fun e w' => e = .returned (.int .i64 (M.longest F T n)) ∧ Below w.heap.size w w' := by
  have HL := Lib.hid h
  have HF := Lib.hid hf
  clear h hf
  go_enter Try.func39, Try.ntmps39
  cases hok : M.fwd n F T
  · have hv := Lib.hid (M.longest_no hok)
    go_wp2_with fail
    refine (bookOf_no _ _ _ _ _ _ HL.out HF.out hok).mono ?_
    rintro e w1 ⟨rfl, hb1⟩
    have hq := eql_nobook w1
    go_wp2
    go_ret
    exact ⟨by rw [hv.out]; rfl, hb1⟩
  · have hv := Lib.hid (M.longest_yes hok)
    have hn := (M.fwd_yes hok).1
    go_wp2_with fail
    refine (bookOf_yes _ _ _ _ _ _ HL.out HF.out hok).mono ?_
    rintro e w1 ⟨g, m, f, rfl, hm, hB, hb1⟩
    have hq := eql_book g w1
    have HB := Lib.hid hB
    have hbase := hB.1
    clear hB hok
    go_wp2
    go_loopw [4, 16] (fun v i wr => ∃ (k x : Nat) (f : ByteArray → Option Nat), k ≤ n ∧ i = .int .i64 k ∧ v = .int .i64 x ∧ x ≤ n ∧ Hid (M.longTo F T n k = x) ∧ Hid (Book wr w.heap.size g (m + k) f (M.nextOf F T n)) ∧ Below w.heap.size w wr) (fun _ i _ => n - (intOf i).toNat)
    case atStart => exact ⟨0, 0, f, Nat.zero_le _, rfl, rfl, Nat.zero_le _, rfl, HB, hb1⟩
    case round =>
      obtain ⟨k, x, f, hk, rfl, rfl, hx, hx2, hbk, hb⟩ := hrel
      have hz := hb.size
      by_cases hlt : k < n
      · obtain ⟨b, o, rfl, c0, c1⟩ := (HL.out.on hb) k hlt
        have s0 := (HF.out k hlt).1
        obtain ⟨c, hc⟩ : ∃ c, M.cntOf (M.res F T n (F k)) = c := ⟨_, rfl⟩
        have hcn := M.cnt_le F T n (F k)
        rw [hc] at hcn
        obtain ⟨s, hs⟩ : ∃ s, M.endS (M.res F T n (F k)) = s := ⟨_, rfl⟩
        obtain ⟨y, hy⟩ : ∃ y, (M.res F T n (F k)).isSome = y := ⟨_, rfl⟩
        have hR : Hid (resV (M.res F T n (F k)) = .tuple #[.string s, .int .i64 c, .bool y]) := by rw [Hid, resV_eq, hc, hs, hy]
        clear hs hy
        by_cases hxc : x < c
        · have hup := Lib.hid (M.long_up hx2.out hc hxc)
          clear hc
          go_wp2_with (go_at_call 60; refine (resolve_any _ w.heap.size g (m + k) n f F T (hbk.out.on (by go_grown)) (F k) s0 (by omega) hn).mono ?_; rintro e w2 ⟨rfl, ⟨f', hB2⟩, ho⟩; rw [hR.out]; have HB2 := Lib.hid hB2; have hb2 : Below w.heap.size w w2 := Below.trans (by go_grown : Below w.heap.size w _) (ho.below (B := w.heap.size) (fun k hk _ (e : k = g) => by omega) (by simp; omega)); clear hB2 ho)
          go_roundw
          case rel => exact ⟨k + 1, c, f', by omega, by go_num, rfl, hcn, hup, HB2, by first | exact hb2 | go_grown⟩
          case measure => simp [intOf]; omega
        · have hup := Lib.hid (M.long_on hx2.out hc hxc)
          clear hc
          go_wp2_with (go_at_call 60; refine (resolve_any _ w.heap.size g (m + k) n f F T (hbk.out.on (by go_grown)) (F k) s0 (by omega) hn).mono ?_; rintro e w2 ⟨rfl, ⟨f', hB2⟩, ho⟩; rw [hR.out]; have HB2 := Lib.hid hB2; have hb2 : Below w.heap.size w w2 := Below.trans (by go_grown : Below w.heap.size w _) (ho.below (B := w.heap.size) (fun k hk _ (e : k = g) => by omega) (by simp; omega)); clear hB2 ho)
          go_roundw
          case rel => exact ⟨k + 1, x, f', by omega, by go_num, rfl, hx, hup, HB2, by first | exact hb2 | go_grown⟩
          case measure => simp [intOf]; omega
      · obtain rfl : k = n := by omega
        go_wp2
        go_ret
        exact ⟨by rw [hv.out, hx2.out]; rfl, hb⟩
end Go.Proofs.Ytbfbbpmddgfeiaa
