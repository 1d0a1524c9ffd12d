/-
  symMerge in general: both runs are cut, the middle is turned round, each half is merged in turn.
-/
import Derived.Test.YtekfjheaffkakaaStbB
import Derived.Deep.CutRange
namespace Go.Proofs.Ytekfjheaffkakaa
open Go.RowKit
set_option linter.unusedVariables false

theorem srt_kept {pos : Int × ByteArray → Nat} {F G : Nat → Int × ByteArray} {a b c d : Nat} (h : Sy.Srt ltL pos F c d) (m : Sy.Mix F G a b) (ho : d ≤ a ∨ b ≤ c) : Sy.Srt ltL pos G c d := Sy.srt_same h fun k k1 k2 => m.1 k (by omega)
theorem par_kept {pos : Int × ByteArray → Nat} {F G : Nat → Int × ByteArray} {a b c d e : Nat} (h : Sy.Par pos F c d e) (m : Sy.Mix F G a b) (ho : b ≤ c) : Sy.Par pos G c d e := fun i j i1 i2 j1 j2 => by
  rw [m.1 i (by omega), m.1 j (by omega)]; exact h i j i1 i2 j1 j2
set_option maxHeartbeats 2000000 in
set_option maxRecDepth 100000 in
theorem symMerge_gen (base g n c : Nat) (sf : Nat) (sb : Array Value) (HS : SwapOk base g n c sf sb) (pos : Int × ByteArray → Nat) (W : World) (F : Nat → Int × ByteArray) (a m b : Nat) (h : RF W base g n c F) (h1 : a < m) (h2 : m < b) (h3 : b ≤ n) (hl : Sy.Srt ltL pos F a m) (hr : Sy.Srt ltL pos F m b) (hp : Sy.Par pos F a m b) (hn : n ≤ 1048576) (hone : m ≠ a + 1) (htwo : b ≠ m + 1) (HIH : ∀ a' m' b', a' < m' → m' < b' → b' ≤ n → b' - a' < b - a → ∀ W F, RF W base g n c F → Sy.Srt ltL pos F a' m' → Sy.Srt ltL pos F m' b' → Sy.Par pos F a' m' b' → Calls Try.prog 67 #[DAT (.slice (some ⟨g, 0, none⟩) n c) sf sb, .int .i64 (a' : Nat), .int .i64 (m' : Nat), .int .i64 (b' : Nat)] W (Merged W base g n c pos F a' b')) :
    Calls Try.prog 67 #[DAT (.slice (some ⟨g, 0, none⟩) n c) sf sb, .int .i64 a, .int .i64 m, .int .i64 b] W (Merged W base g n c pos F a b) := by
  have HROT := Lib.hid (fun W F a m b h h1 h2 h3 => rotate_any base g n c (.slice (some ⟨g, 0, none⟩) n c) sf sb HS W F a m b h h1 h2 h3 hn)
  have HIH' := Lib.hid HIH
  clear HIH
  have HSW := Lib.hid HS
  have HBF := Lib.hid (fun (W : World) F h i j hi hj => before_rows W base g n c F h i j hi hj hn)
  have hg := h.lt
  unfold DAT at HROT HIH' ⊢
  obtain ⟨W1, hW1⟩ : ∃ W1, W.alloc (.cells #[.func (.func 35) #[.slice (some ⟨g, 0, none⟩) n c] #[], .func (.func sf) #[] sb] 90) = W1 := ⟨_, rfl⟩
  have R0 : Hid (RF W1 base g n c F) := hW1 ▸ h.on (below_alloc0 W _)
  have BX : Hid (W1.cell? ⟨W.heap.size, 0, none⟩ = some (.func (.func 35) #[.slice (some ⟨g, 0, none⟩) n c] #[]) ∧ W1.cell? ⟨W.heap.size, 1, none⟩ = some (.func (.func sf) #[] sb)) := by rw [Hid, ← hW1]; simp [go_sem]
  have HO1 : Hid (∀ W', Only W1 W' (fun k => k = g) → Only W W' (fun k => k = g)) := fun W' ho => by rw [← hW1] at ho; exact only_new ho
  have hne : W.heap.size ≠ g := by omega
  have HSL := Lib.hid hl
  have HSR := Lib.hid hr
  have HPR := Lib.hid hp
  have q1 : ((m : Int) - a == 1) = false := by rw [beq_eq_false_iff_ne]; omega
  have q2 : ((b : Int) - m == 1) = false := by rw [beq_eq_false_iff_ne]; omega
  have hh : ∃ mid : Nat, mid = (a + b) / 2 ∧ a < mid ∧ mid < b := ⟨_, rfl, by omega, by omega⟩
  obtain ⟨mid, hm0, hm1, hm2⟩ := hh
  have u1 : IntKind.u64.wrap ((a : Int) + b) = (a : Int) + b := IntWalk.u64_in _ (by omega)
  have u2 : ((a : Int) + b) / 2 = (mid : Int) := by omega
  have u3 : IntKind.i64.wrap (mid : Int) = (mid : Int) := IntWalk.i64_in _ (by omega)
  have u4 : IntKind.u64.wrap (mid : Int) = (mid : Int) := IntWalk.u64_in _ (by omega)
  have HM0 := Lib.hid hm0
  have v1 : a + b ≤ 2 * mid + 1 := by omega
  have v2 : 2 * mid ≤ a + b := by omega
  clear h HS hl hr hp hm0 hone htwo
  go_enter Try.func67, Try.ntmps67
  go_upto_if 106 with fail
  clear hW1
  go_cut [18, 19] from 104 to 112 (fun v18 v19 wx => ∃ s0 r0 : Nat, v18 = .int .i64 s0 ∧ v19 = .int .i64 r0 ∧ Hid ((mid < m ∧ s0 = mid + m - b ∧ r0 = mid) ∨ (m ≤ mid ∧ s0 = a ∧ r0 = m)) ∧ W1 = wx)
  case first =>
    by_cases hmid : mid < m
    · have : (mid : Int) < m := by omega
      go_wp2_with fail
      go_meet
      exact ⟨mid + m - b, mid, by go_num, rfl, Or.inl ⟨hmid, rfl, rfl⟩, rfl⟩
    · have : ¬ (mid : Int) < m := by omega
      go_wp2_with fail
      go_meet
      exact ⟨a, m, rfl, rfl, Or.inr ⟨by omega, rfl, rfl⟩, rfl⟩
  case rest =>
    obtain ⟨s0, r0, rfl, rfl, hc0, rfl⟩ := hcut
    have w1 : a ≤ s0 ∧ s0 ≤ r0 ∧ r0 ≤ mid ∧ r0 ≤ m ∧ (∀ k, s0 ≤ k → k < r0 → m ≤ mid + m - 1 - k ∧ mid + m - 1 - k < b) := by
      rcases hc0.out with ⟨e1, e2, e3⟩ | ⟨e1, e2, e3⟩
      · subst e2 e3; exact ⟨by omega, by omega, by omega, by omega, fun k k1 k2 => ⟨by omega, by omega⟩⟩
      · subst e2 e3; exact ⟨by omega, by omega, by omega, by omega, fun k k1 k2 => ⟨by omega, by omega⟩⟩
    obtain ⟨w1, w2, w3, w4, w5⟩ := w1
    have HW5 := Lib.hid w5
    clear w5
    go_wp2_with fail
    go_loopw [18, 19] (fun vi vj wr => ∃ (i j : Nat), vi = .int .i64 i ∧ vj = .int .i64 j ∧ s0 ≤ i ∧ i ≤ j ∧ j ≤ r0 ∧ Hid (i = s0 ∨ ltL (F (mid + m - i)) (F (i - 1)) = false) ∧ Hid (j = r0 ∨ ltL (F (mid + m - 1 - j)) (F j) = true) ∧ Hid (RF wr base g n c F) ∧ Hid (Only W1 wr (fun k => k = g))) (fun vi vj _ => (intOf vj).toNat - (intOf vi).toNat)
    case atStart => exact ⟨s0, r0, rfl, rfl, Nat.le_refl _, w2, Nat.le_refl _, Or.inl rfl, Or.inl rfl, R0, Lib.hid (Only.refl _ _)⟩
    case round =>
      obtain ⟨i, j, rfl, rfl, hai, hij, hjb, hlo, hhi, hrw, how⟩ := hrel
      by_cases hlt : i < j
      · have c0 := only_box (W := W) how.out BX.out.1 hne
        have hh : ∃ h : Nat, (i + j) / 2 = h ∧ i ≤ h ∧ h < j := ⟨_, rfl, by omega, by omega⟩
        obtain ⟨h, hh0, hh1, hh2⟩ := hh
        have t1 : IntKind.u64.wrap ((i : Int) + j) = (i : Int) + j := IntWalk.u64_in _ (by omega)
        have t2 : ((i : Int) + j) / 2 = (h : Int) := by omega
        have t3 : IntKind.i64.wrap (h : Int) = (h : Int) := IntWalk.i64_in _ (by omega)
        have t4 : IntKind.u64.wrap (h : Int) = (h : Int) := IntWalk.u64_in _ (by omega)
        clear hh0
        obtain ⟨p1, p2⟩ := HW5.out h (by omega) (by omega)
        have hb := HBF.out wr _ hrw.out (mid + m - 1 - h) h (by omega) (by omega)
        rw [show ((mid + m - 1 - h : Nat) : Int) = (mid : Int) + m - 1 - h by omega] at hb
        have HB := Lib.hid hb
        clear hb
        cases hlv : ltL (F (mid + m - 1 - h)) (F h) with
        | true =>
          rw [hlv] at HB
          have HLV := Lib.hid hlv
          clear hlv
          go_wp2_with fail
          refine HB.out.mono ?_
          rintro e w2 ⟨rfl, q, rfl⟩
          have hbq : Below wr.heap.size wr (wr.drewN q) := ⟨rfl, rfl, rfl, Nat.le_refl _, fun _ _ => rfl⟩
          have R2 := Lib.hid (hrw.out.on hbq)
          have O2 := Lib.hid (how.out.trans (Only.new (S := fun k => k = g) hbq) fun _ _ h => h)
          clear hbq
          clear hrw how c0
          go_wp2
          go_roundw
          case rel => exact ⟨i, h, rfl, by go_num, hai, by omega, by omega, hlo, Or.inr HLV.out, R2, O2⟩
          case measure => simp [intOf]; omega
        | false =>
          rw [hlv] at HB
          have HLV : Hid (ltL (F (mid + m - (h + 1))) (F (h + 1 - 1)) = false) := by
            rw [Hid, show mid + m - (h + 1) = mid + m - 1 - h by omega, Nat.add_sub_cancel]; exact hlv
          clear hlv
          go_wp2_with fail
          refine HB.out.mono ?_
          rintro e w2 ⟨rfl, q, rfl⟩
          have hbq : Below wr.heap.size wr (wr.drewN q) := ⟨rfl, rfl, rfl, Nat.le_refl _, fun _ _ => rfl⟩
          have R2 := Lib.hid (hrw.out.on hbq)
          have O2 := Lib.hid (how.out.trans (Only.new (S := fun k => k = g) hbq) fun _ _ h => h)
          clear hbq
          clear hrw how c0
          go_wp2
          go_roundw
          case rel => exact ⟨h + 1, j, by go_num, rfl, by omega, by omega, hjb, Or.inr HLV.out, hhi, R2, O2⟩
          case measure => simp [intOf]; omega
      · obtain rfl : i = j := by omega
        obtain ⟨k1, k2, k3, k4, H1, H2⟩ := Sy.cut_found (ltL_ord pos) h1 h2 HM0.out HSL.out HSR.out s0 r0 hc0.out hai hjb hlo.out hhi.out
        obtain ⟨t, ht⟩ : ∃ t, mid + m - i = t := ⟨_, rfl⟩
        rw [ht] at k3 k4 H1 H2
        have HT : Hid ((t : Int) = (mid : Int) + m - i) := by rw [Hid]; omega
        obtain ⟨F1, hF1⟩ : ∃ F1, Sy.rot F i m t = F1 := ⟨_, rfl⟩
        have HV := Sy.cut_halves (mid := mid) (t := t) k1 k2 k3 k4 (by omega) HSL.out HSR.out HPR.out H1 H2
        rw [hF1] at HV
        obtain ⟨V1, V2, V3, V4, V5, V6, V7⟩ := HV
        have HX : Hid (Sy.Mix F F1 a b) := by rw [Hid, ← hF1]; exact Sy.mix_rot F k1 k2 k3 k4
        have HF1 := Lib.hid hF1
        have V1 := Lib.hid V1
        have V2 := Lib.hid V2
        have V3 := Lib.hid V3
        have V4 := Lib.hid V4
        have V5 := Lib.hid V5
        have V6 := Lib.hid V6
        have V7 := Lib.hid V7
        have m1 : i ≤ mid := by omega
        have m2 : mid ≤ t := by omega
        clear H1 H2 ht hF1 hlo hhi u1 u2 u3 u4 q1 q2
        have e0 : ((mid : Int) + m - i) ≤ 3000000 := by omega
        go_upto_region 40 with fail
        go_cut [145] from 138 to 144 (fun v wx => ∃ bC : Bool, v = .bool bC ∧ Hid (bC = decide (i < m ∧ m < t)) ∧ wr = wx)
        case first =>
          by_cases d1 : i < m
          · have d1' : (i : Int) < m := by omega
            by_cases d2 : m < t
            · have d2' : (m : Int) < (mid : Int) + m - i := by have := HT.out; omega
              go_wp2_with fail
              go_meet
              exact ⟨true, rfl, by rw [Hid, decide_eq_true ⟨d1, d2⟩], rfl⟩
            · have d2' : ¬ (m : Int) < (mid : Int) + m - i := by have := HT.out; omega
              go_wp2_with fail
              go_meet
              exact ⟨false, rfl, by rw [Hid, decide_eq_false fun e => d2 e.2], rfl⟩
          · have d1' : ¬ (i : Int) < m := by omega
            go_wp2_with fail
            go_meet
            exact ⟨false, rfl, by rw [Hid, decide_eq_false fun e => d1 e.1], rfl⟩
        case rest =>
          obtain ⟨bC, rfl, hbC, rfl⟩ := hcut
          go_upto_if 145 with fail
          go_cut [] from 138 to 150 (fun wx => Hid (RF wx base g n c F1) ∧ Hid (Only W1 wx (fun k => k = g)))
          case first =>
            have c0 := only_box (W := W) how.out BX.out.1 hne
            have c1 := only_box (W := W) how.out BX.out.2 hne
            cases bC
            case true =>
              have hC : i < m ∧ m < t := of_decide_eq_true hbC.out.symm
              have hc := HROT.out _ F i m t hrw.out hC.1 hC.2 (by omega)
              rw [HT.out, HF1.out] at hc
              have HC := Lib.hid hc
              clear hc hC
              go_wp2_with fail
              refine HC.out.mono ?_
              rintro e w2 ⟨rfl, r2, o2⟩
              go_wp2_with fail
              go_meet
              exact ⟨r2, how.out.trans o2 fun _ _ h => h⟩
            case false =>
              have hC : ¬ (i < m ∧ m < t) := of_decide_eq_false hbC.out.symm
              have e1 : F = F1 := by
                rw [← HF1.out]
                by_cases d1 : i = m
                · subst d1; exact (Sy.rot_none F i t).symm
                · have : t = m := by omega
                  subst this; exact (Sy.rot_none' F i t).symm
              have r2 := hrw.out
              rw [e1] at r2
              have R2 := Lib.hid r2
              clear r2 e1 hC
              go_wp2_with fail
              go_meet
              exact ⟨R2, how⟩
          case rest =>
            obtain ⟨R1, O1⟩ := hcut
            clear hrw how
            go_upto_region 42 with fail
            go_cut [158] from 151 to 157 (fun v wx => ∃ bC : Bool, v = .bool bC ∧ Hid (bC = decide (a < i ∧ i < mid)) ∧ Hid (RF wx base g n c F1) ∧ Hid (Only W1 wx (fun k => k = g)))
            case first =>
              by_cases d1 : a < i
              · have d1' : (a : Int) < i := by omega
                by_cases d2 : i < mid
                · have d2' : (i : Int) < mid := by omega
                  go_wp2_with fail
                  go_meet
                  exact ⟨true, rfl, by rw [Hid, decide_eq_true ⟨d1, d2⟩], R1, O1⟩
                · have d2' : ¬ (i : Int) < mid := by omega
                  go_wp2_with fail
                  go_meet
                  exact ⟨false, rfl, by rw [Hid, decide_eq_false fun e => d2 e.2], R1, O1⟩
              · have d1' : ¬ (a : Int) < i := by omega
                go_wp2_with fail
                go_meet
                exact ⟨false, rfl, by rw [Hid, decide_eq_false fun e => d1 e.1], R1, O1⟩
            case rest =>
              clear R1 O1
              obtain ⟨bC, rfl, hbC, R1, O1⟩ := hcut
              go_upto_if 158 with fail
              go_cut [] from 151 to 163 (fun wx => ∃ G1, Hid (Sy.Mix F1 G1 a mid) ∧ Hid (Sy.Srt ltL pos G1 a mid) ∧ Hid (RF wx base g n c G1) ∧ Hid (Only W1 wx (fun k => k = g)))
              case first =>
                have c0 := only_box (W := W) O1.out BX.out.1 hne
                have c1 := only_box (W := W) O1.out BX.out.2 hne
                cases bC
                case true =>
                  have hC : a < i ∧ i < mid := of_decide_eq_true hbC.out.symm
                  have HC := Lib.hid (HIH'.out a i mid hC.1 hC.2 (by omega) (by omega) _ F1 R1.out V2.out V3.out V4.out)
                  clear hC
                  go_wp2_with fail
                  refine HC.out.mono ?_
                  rintro e w2 ⟨G1, ⟨rfl, r2, o2⟩, mx, sr⟩
                  go_wp2_with fail
                  go_meet
                  exact ⟨G1, mx, sr, r2, O1.out.trans o2 fun _ _ h => h⟩
                case false =>
                  have hC : ¬ (a < i ∧ i < mid) := of_decide_eq_false hbC.out.symm
                  have sr : Hid (Sy.Srt ltL pos F1 a mid) := by
                    by_cases d1 : i = a
                    · subst d1; exact V3.out
                    · have : mid = i := by omega
                      subst this; exact V2.out
                  clear hC
                  go_wp2_with fail
                  go_meet
                  exact ⟨F1, Sy.Mix.refl _ _ _, sr, R1, O1⟩
              case rest =>
                clear R1 O1
                obtain ⟨G1, MX, SR, R1, O1⟩ := hcut
                have K5 := Lib.hid (srt_kept V5.out MX.out (by omega))
                have K6 := Lib.hid (srt_kept V6.out MX.out (by omega))
                have K7 := Lib.hid (par_kept V7.out MX.out (by omega))
                have HFIN : Hid (∀ G2, Sy.Mix G1 G2 mid b → Sy.Srt ltL pos G2 mid b → Sy.Mix F G2 a b ∧ Sy.Srt ltL pos G2 a b) := fun G2 mx sr =>
                  ⟨(HX.out.trans (MX.out.wide (Nat.le_refl _) (by omega))).trans (mx.wide (by omega) (Nat.le_refl _)), Sy.halves V1.out MX.out SR.out mx sr⟩
                clear V1 V2 V3 V4 V5 V6 V7 MX SR HX
                go_upto_region 44 with fail
                have c0 := only_box (W := W) O1.out BX.out.1 hne
                have c1 := only_box (W := W) O1.out BX.out.2 hne
                have e3 : mid < t ↔ (mid : Int) < (mid : Int) + m - i := by have := HT.out; omega
                have e4 : t < b ↔ ((mid : Int) + m - i) < b := by have := HT.out; omega
                by_cases d1 : mid < t
                · have d1' := e3.1 d1
                  by_cases d2 : t < b
                  · have d2' := e4.1 d2
                    have hc := HIH'.out mid t b d1 d2 h3 (by omega) _ G1 R1.out K5.out K6.out K7.out
                    rw [HT.out] at hc
                    have HC := Lib.hid hc
                    clear hc d1 d2 e3 e4
                    go_wp2_with fail
                    refine HC.out.mono ?_
                    rintro e w2 ⟨G2, ⟨rfl, r2, o2⟩, mx, sr⟩
                    go_wp2
                    go_end0
                    exact ⟨G2, ⟨rfl, r2, HO1.out _ (O1.out.trans o2 fun _ _ h => h)⟩, HFIN.out G2 mx sr⟩
                  · have d2' : ¬ ((mid : Int) + m - i) < b := fun e => d2 (e4.2 e)
                    have htb : t = b := by omega
                    have K5' := K5.out
                    rw [htb] at K5'
                    have HE := Lib.hid (HFIN.out G1 (Sy.Mix.refl _ _ _) K5')
                    clear K5' htb d1 d2 e3 e4
                    go_wp2
                    go_end0
                    exact ⟨G1, ⟨rfl, R1.out, HO1.out _ O1.out⟩, HE.out⟩
                · have d1' : ¬ (mid : Int) < (mid : Int) + m - i := fun e => d1 (e3.2 e)
                  have htb : t = mid := by omega
                  have K6' := K6.out
                  rw [htb] at K6'
                  have HE := Lib.hid (HFIN.out G1 (Sy.Mix.refl _ _ _) K6')
                  clear K6' htb d1 e3 e4
                  go_wp2
                  go_end0
                  exact ⟨G1, ⟨rfl, R1.out, HO1.out _ O1.out⟩, HE.out⟩
/-- symMerge merges two runs that ascend. -/
theorem symMerge_any (base g n c : Nat) (sf : Nat) (sb : Array Value) (HS : SwapOk base g n c sf sb) (pos : Int × ByteArray → Nat) (hn : n ≤ 1048576) : ∀ d a m b, b - a ≤ d → a < m → m < b → b ≤ n → ∀ W F, RF W base g n c F → Sy.Srt ltL pos F a m → Sy.Srt ltL pos F m b → Sy.Par pos F a m b →
    Calls Try.prog 67 #[DAT (.slice (some ⟨g, 0, none⟩) n c) sf sb, .int .i64 (a : Nat), .int .i64 (m : Nat), .int .i64 (b : Nat)] W (Merged W base g n c pos F a b)
  | 0, a, m, b, h0, h1, h2, _, _, _, _, _, _, _ => absurd h0 (by omega)
  | d + 1, a, m, b, h0, h1, h2, h3, W, F, hr, s1, s2, hp => by
    by_cases e1 : m = a + 1
    · exact symMerge_one base g n c sf sb HS pos W F a m b hr h1 h2 h3 s1 s2 hp hn e1
    · by_cases e2 : b = m + 1
      · exact symMerge_last base g n c sf sb HS pos W F a m b hr h1 h2 h3 s1 s2 hp hn e2 e1
      · exact symMerge_gen base g n c sf sb HS pos W F a m b hr h1 h2 h3 s1 s2 hp hn e1 e2 fun a' m' b' k1 k2 k3 k4 W F q1 q2 q3 q4 => symMerge_any base g n c sf sb HS pos hn d a' m' b' (by omega) k1 k2 k3 W F q1 q2 q3 q4
end Go.Proofs.Ytekfjheaffkakaa
