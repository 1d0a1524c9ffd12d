/-
  What VaryingDigits returns, in the program and in the model of the document.
-/
import Derived.Test.YtakjgajkalmleaaVaryM
import Derived.Test.YtakjgajkalmleaaBatch
import Derived.Test.YtakjgajkalmleaaIntS
import Derived.WalkLawsBesides
import Derived.BigQuiet
namespace Go.Proofs.Ytakjgajkalmleaa
open Go.RowKit
open Go.PlainAid (bt get_bt bt_nonneg bt_le)

/-- A slice of numbers that the call has made. -/
def IntsOut (w : World) (L : List Int) (e : Ending) (w' : World) : Prop := ∃ v, e = .returned v ∧ IRow w' w.heap.size v L ∧ Below w.heap.size w w'

set_option maxHeartbeats 1000000 in
theorem differs_it (w : World) (B1 B2 : Nat) (i : Int) (s : ByteArray) (x : Nat) (a : Option Addr) (n c : Nat) (I : Nat → Int) (C : Nat → ByteArray) (h1 : w.cell? ⟨B1, 0, none⟩ = some (.int .i64 (x : Int))) (h2 : w.cell? ⟨B2, 0, none⟩ = some (.slice a n c)) (h : Lts w a n I C) (hn : 0 < n) (hx : x < s.size) (hx0 : x < (C 0).size) :
    Calls Try.prog 59 #[.agg #[.int .i64 i, .string s], .pointer (some ⟨B1, 0, none⟩), .pointer (some ⟨B2, 0, none⟩)] w fun e w' => e = .returned (.bool (decide (bt s x ≠ bt (C 0) x))) ∧ Below w.heap.size w w' := by
  obtain ⟨b, o, rfl, c0, c1⟩ := h 0 hn
  rw [Nat.zero_mul, Nat.add_zero] at c0 c1
  have g1 := get_bt s x hx
  have g2 := get_bt (C 0) x hx0
  have l0 := World.block_lt_of_cell? _ _ c1
  have l1 := World.block_lt_of_cell? _ _ h1
  have l2 := World.block_lt_of_cell? _ _ h2
  have hni : (0 : Int) < (n : Int) := by omega
  generalize C 0 = t at *
  have hv : Hid (((((s[x]'hx).toNat : Int)) != ((t[x]'hx0).toNat : Int)) = decide (bt s x ≠ bt t x)) := by
    unfold Hid
    rw [g1, g2]
    by_cases e : bt s x = bt t x <;> simp [e]
  clear g1 g2 h
  go_enter Try.func59, Try.ntmps59
  go_wp2
  go_region
  all_goals
    go_wp2
    go_ret
    exact ⟨ret_bool hv.out, by go_grown⟩

set_option maxHeartbeats 1000000 in
theorem index_differs (w : World) (a : Option Addr) (n c : Nat) (I : Nat → Int) (C : Nat → ByteArray) (h : Lts w a n I C) (hn : n ≤ 60) (hs : ∀ i, i < n → (C i).size = 7) (B1 B2 x : Nat) (hx : x < 7) (h1 : w.cell? ⟨B1, 0, none⟩ = some (.int .i64 (x : Int))) (h2 : w.cell? ⟨B2, 0, none⟩ = some (.slice a n c)) :
    Calls Try.prog 87 #[.slice a n c, .func (.func 59) #[] #[.pointer (some ⟨B1, 0, none⟩), .pointer (some ⟨B2, 0, none⟩)]] w fun e w' => ∃ r : Int, e = .returned (.int .i64 r) ∧ Hid (decide (0 ≤ r) = M.varyTo C x n) ∧ Below w.heap.size w w' := by
  have HL := Lib.hid h
  have HS := Lib.hid hs
  have l1 := World.block_lt_of_cell? _ _ h1
  have l2 := World.block_lt_of_cell? _ _ h2
  have HC := Lib.hid (fun W (hW : Below w.heap.size w W) (i : Int) (s : ByteArray) (h0 : 0 < n) (hxs : x < s.size) => differs_it W B1 B2 i s x a n c I C ((hW.cell (p := ⟨B1, 0, none⟩) l1).trans h1) ((hW.cell (p := ⟨B2, 0, none⟩) l2).trans h2) (h.on hW) h0 hxs (by rw [hs 0 h0]; exact hx))
  clear h h1 h2 hs l1 l2
  go_enter Try.func87, Try.ntmps87
  go_wp2
  go_loopw [8] (fun i wr => ∃ k : Nat, k ≤ n ∧ i = .int .i64 k ∧ Hid (∀ j, j < k → ¬ bt (C j) x ≠ bt (C 0) x) ∧ Below w.heap.size w wr) (fun i _ => n - (intOf i).toNat)
  case atStart => exact ⟨0, Nat.zero_le _, rfl, fun j hj => absurd hj (by omega), Below.refl _ _⟩
  case round =>
    obtain ⟨k, hk, rfl, hno, hb⟩ := hrel
    have hz := hb.size
    by_cases hlt : k < n
    · obtain ⟨b, o, rfl, c0, c1⟩ := (HL.out.on hb) k hlt
      have hcs := HS.out k hlt
      by_cases he : bt (C k) x ≠ bt (C 0) x
      · have hd := Lib.hid (decide_eq_true he)
        have HE := Lib.hid he
        clear he
        go_wp2_with (go_at_call 59; refine (HC.out _ hb _ _ (by omega) (by omega)).mono ?_; rw [hd.out]; rintro e w1 ⟨rfl, hb1⟩)
        go_ret
        exact ⟨_, rfl, by rw [M.varyTo_yes hlt HE.out]; exact decide_eq_true (by omega), step hb hb1⟩
      · have hd := Lib.hid (decide_eq_false he)
        have HE := Lib.hid he
        clear he
        go_wp2_with (go_at_call 59; refine (HC.out _ hb _ _ (by omega) (by omega)).mono ?_; rw [hd.out]; rintro e w1 ⟨rfl, hb1⟩)
        go_roundw
        case rel => exact ⟨k + 1, by omega, by go_num, fun j hj => by by_cases e : j = k; (subst e; exact HE.out); exact hno.out j (by omega), step hb hb1⟩
        case measure => simp [intOf]; omega
    · obtain rfl : k = n := by omega
      go_wp2
      go_ret
      exact ⟨_, rfl, by rw [M.varyTo_no hno.out]; rfl, hb⟩
set_option maxHeartbeats 400000 in
theorem any_differs (w : World) (a : Option Addr) (n c : Nat) (I : Nat → Int) (C : Nat → ByteArray) (h : Lts w a n I C) (hn : n ≤ 60) (hs : ∀ i, i < n → (C i).size = 7) (B1 B2 x : Nat) (hx : x < 7) (h1 : w.cell? ⟨B1, 0, none⟩ = some (.int .i64 (x : Int))) (h2 : w.cell? ⟨B2, 0, none⟩ = some (.slice a n c)) :
    Calls Try.prog 60 #[.slice a n c, .func (.func 59) #[] #[.pointer (some ⟨B1, 0, none⟩), .pointer (some ⟨B2, 0, none⟩)]] w fun e w' => e = .returned (.bool (M.varyTo C x n)) ∧ Below w.heap.size w w' := by
  have HC := Lib.hid (index_differs w a n c I C h hn hs B1 B2 x hx h1 h2)
  clear h hs h1 h2
  go_enter Try.func60, Try.ntmps60
  go_wp2_with (go_at_call 87; refine HC.out.mono ?_; rintro e w1 ⟨r, rfl, hr, hb1⟩)
  go_ret
  exact ⟨ret_bool hr.out, hb1⟩

set_option maxHeartbeats 2000000 in
set_option maxRecDepth 100000 in
theorem impl_VaryingDigits (w : World) (a : Option Addr) (n c : Nat) (I : Nat → Int) (C : Nat → ByteArray) (h : Lts w a n I C) (hf : Fits n I C) :
    Calls Try.prog 23 #[.slice a n c] w (IntsOut w (M.varying n I C)) := by
  have HF := Lib.hid hf
  have hb0 := below_alloc0 w (.cells #[.slice a n c] 24)
  have HL := Lib.hid (h.on hb0)
  have HB0 := Lib.hid hb0
  have hmf : ∀ (fn : Fn) (first cap : Array Value) (w : World), (Instr.makeFunc fn first cap).run Try.prog w = .ok (.func fn first cap) w := fun _ _ _ _ => rfl
  clear h hf hb0
  unfold M.varying
  cases hb : M.batch n I C
  · rw [if_neg (by decide)]
    have HB := Lib.hid hb
    clear hb
    go_enter Try.func23, Try.ntmps23
    go_wp2_with fail
    refine (impl_BatchValid _ _ _ _ _ _ HL.out HF.out).mono ?_
    rw [HB.out]
    rintro e w1 ⟨rfl, hb1⟩
    go_wp2
    go_ret
    exact ⟨_, rfl, IRow.nil _ _, step HB0.out hb1⟩
  · rw [if_pos rfl]
    obtain ⟨hn, hcode⟩ := M.batch_yes hb
    have HS := Lib.hid (fun i (hi : i < n) => (M.code_yes (hcode i hi).1).2)
    have HB := Lib.hid hb
    clear hb hcode
    go_enter Try.func23, Try.ntmps23
    go_wp2_with fail
    refine (impl_BatchValid _ _ _ _ _ _ HL.out HF.out).mono ?_
    rw [HB.out]
    rintro e w1 ⟨rfl, hb1⟩
    have hc1 : w1.cell? ⟨w.heap.size, 0, none⟩ = some (.slice a n c) := by
      rw [hb1.cell (p := ⟨w.heap.size, 0, none⟩) (by simp)]
      simp
    have l1 := World.block_lt_of_cell? _ _ hc1
    have HC1 := Lib.hid hc1
    have HL1 := Lib.hid (HL.out.on hb1)
    have BL := Lib.hid (step HB0.out hb1)
    have zz := BL.out.size
    clear hb1 HL HB0
    go_wp2
    go_loopw [3, 9] (fun q i wr => ∃ k : Nat, k ≤ 7 ∧ i = .int .i64 k ∧ Hid (IRow wr w1.heap.size q (M.vary C n k)) ∧ Below w1.heap.size w1 wr) (fun _ i _ => 7 - (intOf i).toNat)
    case atStart => exact ⟨0, Nat.zero_le _, rfl, IRow.nil _ _, Below.refl _ _⟩
    case round =>
      obtain ⟨k, hk, rfl, hrow, hb⟩ := hrel
      have hz := hb.size
      have hcr := (hb.cell (p := ⟨w.heap.size, 0, none⟩) l1).trans HC1.out
      by_cases hlt : k < 7
      · have hlen := M.vary_len C n k
        have HLr := Lib.hid ((HL1.out.on hb).on (below_alloc0 wr (.cells #[.int .i64 (k : Int)] 3)))
        have hcr2 : Hid ((wr.alloc (.cells #[.int .i64 (k : Int)] 3)).cell? ⟨w.heap.size, 0, none⟩ = some (.slice a n c)) := ((below_alloc0 wr _).cell (p := ⟨w.heap.size, 0, none⟩) (by show w.heap.size < wr.heap.size; omega)).trans hcr
        have hcr3 := hcr2.out
        cases hv : M.varyTo C k n
        · have HV := Lib.hid hv
          have HN := Lib.hid (M.vary_no hv)
          clear hv
          go_wp2_with (go_at_call 60; refine (any_differs _ a n c I C HLr.out hn HS.out wr.heap.size w.heap.size k hlt (by simp) hcr2.out).mono ?_; rw [HV.out]; rintro e w2 ⟨rfl, kk⟩; have k2 : Below wr.heap.size wr w2 := Below.trans (by go_grown) (kk.mono (by simp)); clear kk)
          go_roundw
          case rel => exact ⟨k + 1, by omega, by go_num, by rw [HN.out]; exact hrow.out.on k2, step hb k2⟩
          case measure => simp [intOf]; omega
        · have HV := Lib.hid hv
          have HN := Lib.hid (M.vary_yes hv)
          clear hv
          go_wp2_with (first
            | (go_at_call 60; refine (any_differs _ a n c I C HLr.out hn HS.out wr.heap.size w.heap.size k hlt (by simp) hcr2.out).mono ?_; rw [HV.out]; rintro e w2 ⟨rfl, kk⟩; have q0 : w2.cell? ⟨wr.heap.size, 0, none⟩ = some (.int .i64 (k : Int)) := (by rw [kk.cell (by simp)]; simp); have k2 : Below wr.heap.size wr w2 := Below.trans (by go_grown) (kk.mono (by simp)); have hb2 := step hb k2; have hz2 := hb2.size; have R2 := Lib.hid (hrow.out.on k2); have lq := World.block_lt_of_cell? _ _ q0; clear kk k2)
            | (at_builtin; refine wpList_append_int _ rfl _ _ rfl w1.heap.size u3 (M.vary C n k) rfl (R2.out.alloc _) _ (k : Int) rfl ?_ (by omega) (by simp; omega) ?_))
          · simp [go_sem]
          · intro v1 w3 r1 gr1 ho1
            have R1 : Hid (IRow w3 w1.heap.size v1 (M.vary C n (k + 1))) := by rw [HN.out]; exact r1
            have B3 : Below w1.heap.size w1 w3 := (hb2.alloc hz2 _).grown gr1 (by simp; omega) (fun q e => (R2.out.lt q e).1)
            clear r1 gr1 ho1
            go_wp2
            go_roundw
            case rel => exact ⟨k + 1, by omega, by go_num, R1, B3⟩
            case measure => simp [intOf]; omega
      · obtain rfl : k = 7 := by omega
        go_wp2
        go_ret
        exact ⟨_, rfl, hrow.out.lower zz, step BL.out hb⟩

set_option maxHeartbeats 2000000 in
set_option maxRecDepth 100000 in
theorem spec_VaryingDigits (w : World) (a : Option Addr) (n c : Nat) (I : Nat → Int) (C : Nat → ByteArray) (h : Lts w a n I C) (hf : Fits n I C) (hn : n ≤ 1048576) :
    Calls Try.prog 21 #[.slice a n c] w (IntsOut w (M.varying n I C)) := by
  have HF := Lib.hid hf
  have hb0 := below_alloc0 w (.cells #[] 3)
  have HL := Lib.hid (h.on hb0)
  have HL0 := Lib.hid h
  have HB0 := Lib.hid hb0
  have HE := Lib.hid (one_irow w)
  clear h hf hb0
  unfold M.varying
  cases hb : M.batch n I C
  · rw [if_neg (by decide)]
    have HB := Lib.hid hb
    clear hb
    go_enter Try.func21, Try.ntmps21
    go_wp2
    refine wp_loop_rounds 1 ?_
    rw [rounds_succ]
    go_wp2_with fail
    refine (spec_BatchValid _ _ _ _ _ _ HL.out HF.out hn).mono ?_
    rw [HB.out]
    rintro e w1 ⟨rfl, hb1⟩
    go_wp2
    go_ret
    exact ⟨_, rfl, HE.out.on hb1, step HB0.out hb1⟩
  · rw [if_pos rfl]
    obtain ⟨hn6, hcode⟩ := M.batch_yes hb
    have HS := Lib.hid (fun i (hi : i < n) => (M.code_yes (hcode i hi).1).2)
    have HB := Lib.hid hb
    clear hb hcode
    go_enter Try.func21, Try.ntmps21
    go_wp2
    go_loopw [3, 4] (fun q i wr => ∃ k : Nat, k ≤ 7 ∧ i = .int .i64 k ∧ Hid (IRow wr w.heap.size q (M.vary C n k)) ∧ Hid (Below w.heap.size w wr)) (fun _ i _ => 7 - (intOf i).toNat)
    case atStart => exact ⟨0, Nat.zero_le _, rfl, HE.out, HB0.out⟩
    case round =>
      obtain ⟨k, hk, rfl, hrow, hb⟩ := hrel
      by_cases hlt : k < 7
      · have hlen := M.vary_len C n k
        go_wp2_with fail
        refine (spec_BatchValid _ _ _ _ _ _ (HL0.out.on hb.out) HF.out hn).mono ?_
        rw [HB.out]
        rintro e w1 ⟨rfl, hb1⟩
        have HL1 := Lib.hid ((HL0.out.on hb.out).on hb1)
        have R1 := Lib.hid (hrow.out.on hb1)
        have B1 := Lib.hid (step hb.out hb1)
        clear hb1 hrow hb
        go_wp2
        go_loopw [5, 6] (fun f i wr => ∃ (j m : Nat), 1 ≤ j ∧ (j ≤ n ∨ j = 1) ∧ i = .int .i64 j ∧ f = .bool (M.varyTo C k j) ∧ wr = w1.drewN m) (fun _ i _ => n - (intOf i).toNat)
        case atStart => exact ⟨1, 0, by omega, Or.inr rfl, rfl, by rw [M.varyTo_one], rfl⟩
        case round =>
          obtain ⟨j, m, j1, j2, rfl, rfl, rfl⟩ := hrel
          by_cases hjn : j < n
          · obtain ⟨b, o, rfl, c0, c1⟩ := HL1.out j hjn
            obtain ⟨b', o', e, d0, d1⟩ := HL1.out 0 (by omega)
            cases e
            rw [Nat.zero_mul, Nat.add_zero] at d0 d1
            have hs1 := HS.out j hjn
            have hs2 := HS.out 0 (by omega)
            have HSU := Lib.hid (M.varyTo_succ C k j)
            have g1 := get_bt (C j) k (by omega)
            have g2 := get_bt (C 0) k (by omega)
            have hni : (0 : Int) < (n : Int) := by omega
            cases hv : M.varyTo C k j
            · rw [hv] at HSU
              clear hv
              by_cases he : bt (C j) k = bt (C 0) k
              · have hd : (((((C j)[k]'(by omega)).toNat : Int)) != (((C 0)[k]'(by omega)).toNat : Int)) = false := by rw [g1, g2]; simpa using he
                have hq : Hid (M.varyTo C k (j + 1) = false) := by rw [HSU.out, decide_eq_false (by simpa using he)]; rfl
                clear he g1 g2 HSU
                go_wp2
                go_quiet (fail)
                go_wp2
                go_roundw
                case rel => exact ⟨j + 1, _, by omega, Or.inl (by omega), by go_num, by rw [hq.out], rfl⟩
                case measure => simp [intOf]; omega
              · have hd : (((((C j)[k]'(by omega)).toNat : Int)) != (((C 0)[k]'(by omega)).toNat : Int)) = true := by rw [g1, g2]; simpa using he
                have hq : Hid (M.varyTo C k (j + 1) = true) := by rw [HSU.out, decide_eq_true he]; rfl
                clear he g1 g2 HSU
                go_wp2
                go_quiet (fail)
                go_wp2
                go_roundw
                case rel => exact ⟨j + 1, _, by omega, Or.inl (by omega), by go_num, by rw [hq.out], rfl⟩
                case measure => simp [intOf]; omega
            · rw [hv] at HSU
              have hq : Hid (M.varyTo C k (j + 1) = true) := by rw [HSU.out]; rfl
              clear hv g1 g2 HSU
              go_wp2
              go_quiet (fail)
              go_wp2
              go_roundw
              case rel => exact ⟨j + 1, _, by omega, Or.inl (by omega), by go_num, by rw [hq.out], rfl⟩
              case measure => simp [intOf]; omega
          · have hve : Hid (M.varyTo C k j = M.varyTo C k n) := by
              by_cases e : j = n
              · rw [e]; exact rfl
              · have e1 : j = 1 := by omega
                have e2 : n = 0 := by omega
                rw [e1, e2, M.varyTo_one]; rfl
            have kd : Below w1.heap.size w1 (w1.drewN m) := ⟨rfl, rfl, rfl, Nat.le_refl _, fun _ _ => rfl⟩
            have R2 := Lib.hid (R1.out.on kd)
            have B2 := Lib.hid (step B1.out kd)
            have hz2 := B2.out.size
            clear kd
            obtain ⟨w2, hw2⟩ : ∃ w2, w1.drewN m = w2 := ⟨_, rfl⟩
            rw [hw2] at R2 B2 hz2 ⊢
            clear hw2
            cases hv : M.varyTo C k n
            · have HN := Lib.hid (M.vary_no hv)
              rw [hve.out, hv]
              clear hv
              go_wp2
              go_roundw
              case rel => exact ⟨k + 1, by omega, by go_num, by rw [HN.out]; exact R2.out, B2.out⟩
              case measure => simp [intOf]; omega
            · have HN := Lib.hid (M.vary_yes hv)
              rw [hve.out, hv]
              clear hv
              go_wp2_with (at_builtin; refine wpList_append_int _ rfl _ _ rfl w.heap.size u3 (M.vary C n k) rfl (R2.out.alloc _) _ (k : Int) rfl ?_ (by omega) (by simp; omega) ?_)
              · simp [go_sem]
              · intro v1 w3 r1 gr1 ho1
                have R3 : Hid (IRow w3 w.heap.size v1 (M.vary C n (k + 1))) := by rw [HN.out]; exact r1
                have B3 : Hid (Below w.heap.size w w3) := (B2.out.alloc hz2 _).grown gr1 (by simp; omega) (fun q e => (R2.out.lt q e).1)
                clear r1 gr1 ho1
                go_wp2
                go_roundw
                case rel => exact ⟨k + 1, by omega, by go_num, R3, B3⟩
                case measure => simp [intOf]; omega
      · obtain rfl : k = 7 := by omega
        go_wp2
        go_ret
        exact ⟨_, rfl, hrow.out, hb.out⟩
end Go.Proofs.Ytakjgajkalmleaa
