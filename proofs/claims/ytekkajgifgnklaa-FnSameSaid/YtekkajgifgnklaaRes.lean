/-
  Where letters for a code arrive: the program's walk over its book, and the model's over the orders.
-/
import Derived.Test.YtekkajgifgnklaaEnd
namespace Go.Proofs.Ytekkajgifgnklaa
open Go.RowKit Go.Maps
open Go.PlainAid (bt get_bt bt_nonneg bt_le)
set_option linter.unusedVariables false

/-- A book compared with nil. -/
theorem eql_map (x : Option Nat) (w : World) : (binOp .eql 52 (.map x) (.map none)).run Try.prog w = .ok (.bool x.isNone) w := by
  have hu := Try.underlying52
  have h1 : ∀ dd, (Op.equalIn (dd + 1) 52 (.map x) (.map none)).run Try.prog w = .ok x.isNone w := fun dd => by
    cases x <;> simp [Op.equalIn, run_underlying hu]
  have h : (Op.equal 52 (.map x) (.map none)).run Try.prog w = .ok x.isNone w := h1 9999
  simp only [binOp]
  simp [h]
theorem eql_book (g : Nat) (w : World) : (binOp .eql 52 (.map (some g)) (.map none)).run Try.prog w = .ok (.bool false) w := eql_map (some g) w
theorem eql_nobook (w : World) : (binOp .eql 52 (.map none) (.map none)).run Try.prog w = .ok (.bool true) w := eql_map none w

/-- What is answered: the end, the number of orders, and whether there is an end. -/
def resV : Option (ByteArray × Nat) → Value
  | none => .tuple #[.string ⟨#[]⟩, .int .i64 0, .bool false]
  | some (d, t) => .tuple #[.string d, .int .i64 t, .bool true]
theorem Book.along {w : World} {base g n : Nat} {f : ByteArray → Option Nat} {nx : ByteArray → Option ByteArray} (h : Book w base g n f nx) {c : ByteArray} (hc : (f c).isSome = true) : ∀ {t : Nat} {d : ByteArray}, M.iter nx t c = some d → (f d).isSome = true
  | 0, d, e => by
    have : c = d := Option.some.inj e
    rw [← this]; exact hc
  | t + 1, d, e => by
    have e2 : (M.iter nx t c).bind nx = some d := e
    cases h2 : M.iter nx t c with
    | none => rw [h2] at e2; cases e2
    | some x =>
      rw [h2] at e2
      exact (h.2.2.2 x d e2).2
/-- What 'resolve' leaves: a book that has one code more. -/
def ResRes (w : World) (base g n : Nat) (f : ByteArray → Option Nat) (nx : ByteArray → Option ByteArray) (r : Option (ByteArray × Nat)) (e : Ending) (w' : World) : Prop :=
  e = .returned (resV r) ∧ (∃ f' : ByteArray → Option Nat, Book w' base g (n + 1) f' nx) ∧ Only w w' (fun k => k = g)

set_option maxHeartbeats 1000000 in
theorem resolve_any (w : World) (base g n N : Nat) (f : ByteArray → Option Nat) (F T : Nat → ByteArray) (h : Book w base g n f (M.nextOf F T N)) (c : ByteArray) (hc : c.size ≤ maxLen) (hn : n ≤ 900) (hN : N ≤ 30) :
    Calls Try.prog 24 #[.map (some g), .string c] w (ResRes w base g n f (M.nextOf F T N) (M.res F T N c)) := by
  have HK := Lib.hid h
  clear h
  go_enter Try.func24, Try.ntmps24
  cases hr : M.res F T N c with
  | some p =>
    obtain ⟨d, t⟩ := p
    obtain ⟨ht, hit, hd⟩ := M.res_some hr
    have HI := Lib.hid hit
    have HD := Lib.hid hd
    clear hr hit hd
    go_wp2_with fail
    refine (at_any _ base g n f _ HK.out c hc (by omega)).mono ?_
    rintro e w1 ⟨f', b, rfl, hB, hf, hm, ho⟩
    obtain ⟨bd, hbd⟩ := Option.isSome_iff_exists.1 (hB.along (c := c) (by rw [hf]; rfl) HI.out)
    obtain ⟨_, cd, _⟩ := hB.node hbd
    have HB := Lib.hid hB
    have HF := Lib.hid hf
    have HO := Lib.hid ho
    clear hB hf hm ho
    go_wp2_with fail
    refine (end_yes _ base g _ f' _ HB.out c b HF.out t d HI.out HD.out (by omega)).mono ?_
    rw [hbd]
    simp only [ptrOf]
    rintro e w2 ⟨rfl, rfl⟩
    clear hbd
    go_wp2
    go_ret3
    exact ⟨rfl, ⟨f', HB.out⟩, HO.out⟩
  | none =>
    obtain ⟨m, hm, hmeet, hall⟩ := M.res_none hr
    have HM := Lib.hid hmeet
    have HA := Lib.hid hall
    have hm5 : m ≤ 5000 := Nat.le_trans hm (Nat.le_trans (Nat.mul_le_mul (show N + 1 ≤ 31 by omega) (show N + 1 ≤ 31 by omega)) (by omega))
    clear hr hmeet hall hm
    go_wp2_with fail
    refine (at_any _ base g n f _ HK.out c hc (by omega)).mono ?_
    rintro e w1 ⟨f', b, rfl, hB, hf, hm, ho⟩
    have HB := Lib.hid hB
    have HF := Lib.hid hf
    have HO := Lib.hid ho
    clear hB hf hm ho
    go_wp2_with fail
    refine (end_no _ base g _ f' _ HB.out c b HF.out m HM.out HA.out hm5).mono ?_
    rintro e w2 ⟨rfl, rfl⟩
    go_wp2
    go_ret3
    exact ⟨rfl, ⟨f', HB.out⟩, HO.out⟩

set_option maxHeartbeats 1000000 in
theorem spec_l4Resolve (w : World) (a : Option Addr) (n cap : Nat) (F T : Nat → ByteArray) (h : Fws w a n F T) (hn : n ≤ 1048576) (c : ByteArray) :
    Calls Try.prog 27 #[.slice a n cap, .string c] w fun e w' => e = .returned (resV (M.res F T n c)) ∧ w = w' := by
  have HL := Lib.hid h
  clear h
  go_enter Try.func27, Try.ntmps27
  go_wp2
  go_loop [1, 7] (fun v i => ∃ (k : Nat) (x : ByteArray), k ≤ n + 1 ∧ i = .int .i64 k ∧ v = .string x ∧ Hid (M.resFrom (M.nextOf F T n) (n + 1 - k) x k = M.res F T n c)) (fun _ i => n + 1 - (intOf i).toNat)
  case atStart => exact ⟨0, c, Nat.zero_le _, rfl, rfl, rfl⟩
  case round =>
    obtain ⟨k, x, hk, rfl, rfl, hres⟩ := hrel
    by_cases hlt : k ≤ n
    · have hsub : n + 1 - k = (n - k) + 1 := by omega
      have HX := Lib.hid (spec_l4Index w a n cap F T HL.out hn x)
      rcases M.rank_cases F x n with ⟨hr, _⟩ | ⟨j, hj, hFj, hno, hr⟩
      · have hv : Hid (M.res F T n c = some (x, k)) := by
          have := hres.out
          rw [hsub, M.resFrom_end (M.nextOf_none (by omega))] at this
          exact this.symm
        rw [hr] at HX
        clear hr hsub
        go_wp2_with fail
        refine HX.out.mono ?_
        rintro e w1 ⟨rfl, rfl⟩
        go_wp2
        go_ret3
        exact ⟨by rw [hv.out]; rfl, rfl⟩
      · have hv : Hid (M.resFrom (M.nextOf F T n) (n + 1 - (k + 1)) (T j) (k + 1) = M.res F T n c) := by
          have := hres.out
          rw [hsub, M.resFrom_step (M.nextOf_some hr)] at this
          rw [show n + 1 - (k + 1) = n - k by omega]
          exact this
        rw [hr] at HX
        obtain ⟨b, o, rfl, c0, c1⟩ := HL.out j hj
        clear hr hsub hFj hno
        go_wp2_with fail
        refine HX.out.mono ?_
        rintro e w1 ⟨rfl, rfl⟩
        go_wp2
        go_round
        case rel => exact ⟨k + 1, T j, by omega, by go_num, rfl, hv⟩
        case measure => simp [intOf]; omega
    · obtain rfl : k = n + 1 := by omega
      have hv : Hid (M.res F T n c = none) := by
        have := hres.out
        rw [show n + 1 - (n + 1) = 0 by omega] at this
        exact this.symm
      go_wp2
      go_ret3
      exact ⟨by rw [hv.out]; rfl, rfl⟩
end Go.Proofs.Ytekkajgifgnklaa
