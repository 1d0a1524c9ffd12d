/-
  Direct orders and sources, in the model.
-/
import Derived.Test.YtbfbbpmddgfeiaaDirM
import Derived.Test.YtbfbbpmddgfeiaaDel
namespace Go.Proofs.Ytbfbbpmddgfeiaa
open Go.RowKit Go.Maps
open Go.PlainAid (bt get_bt bt_nonneg bt_le)
set_option linter.unusedVariables false

/-- Strings and orders lie in two blocks. -/
theorem apart_rows {w : World} {b1 b2 : Nat} {u v : Value} {L : List ByteArray} {L' : List (ByteArray × ByteArray)} (h : SRow w b1 u L) (h' : FRow w b2 v L') : ∀ b, u.ownBlock = some b → v.ownBlock ≠ some b := by
  intro b hb hv
  rcases h.2 with ⟨rfl, _⟩ | ⟨g, cap, cur, rfl, _, hg, _⟩
  · simp [Value.ownBlock] at hb
  · rcases h'.2 with ⟨rfl, _⟩ | ⟨g', cap', cur', rfl, _, hg', _⟩
    · simp [Value.ownBlock] at hv
    · have e1 : g = b := Option.some.inj hb
      have e2 : g' = b := Option.some.inj hv
      subst e1 e2
      rw [hg] at hg'
      have h2 := Option.some.inj hg'
      injection h2 with _ h3
      exact absurd h3 (by decide)
theorem two_rows (w : World) : SRow ((w.alloc (.cells #[] 9)).alloc (.cells #[] 30)) w.heap.size (.slice (some ⟨w.heap.size, 0, none⟩) 0 0) [] ∧ FRow ((w.alloc (.cells #[] 9)).alloc (.cells #[] 30)) w.heap.size (.slice (some ⟨w.heap.size + 1, 0, none⟩) 0 0) [] := by
  refine ⟨(sone_empty w).alloc _, ?_⟩
  have := (one_frow (w.alloc (.cells #[] 9))).lower (base' := w.heap.size) (by simp)
  simpa using this

set_option maxHeartbeats 4000000 in
set_option maxRecDepth 100000 in
theorem spec_DirectForwards (w : World) (a : Option Addr) (n cap : Nat) (F T : Nat → ByteArray) (h : Fws w a n F T) (hf : FFits n F T) (hn : n ≤ 1048576) :
    Calls Try.prog 38 #[.slice a n cap] w (FRowOut w (M.direct F T n)) := by
  have HL := Lib.hid h
  have HF := Lib.hid hf
  have E0 := Lib.hid (two_rows w).1
  have F0 := Lib.hid (two_rows w).2
  have B0 : Hid (Below w.heap.size w ((w.alloc (.cells #[] 9)).alloc (.cells #[] 30))) := by unfold Hid; go_grown
  clear h hf
  go_enter Try.func38, Try.ntmps38
  cases hok : M.fwd n F T
  · have hv := Lib.hid (M.direct_no hok)
    have HO := Lib.hid hok
    clear hok
    go_wp2
    go_loop [3, 5] (fun q i => i = .int .i64 0 ∧ q = .slice (some ⟨w.heap.size, 0, none⟩) 0 0) (fun _ _ => 0)
    case atStart => exact ⟨rfl, rfl⟩
    case round =>
      obtain ⟨rfl, rfl⟩ := hrel
      by_cases hlt : 0 < n
      · go_wp2_with (go_at_call 58; refine (spec_ForwardsValid _ a n cap F T (HL.out.on B0.out) HF.out hn).mono ?_; rw [HO.out]; rintro e w1 ⟨rfl, rfl⟩)
        go_rounds 1
        go_ret
        exact ⟨_, rfl, by rw [hv.out]; exact F0.out, B0.out⟩
      · go_wp2
        go_rounds 1
        go_ret
        exact ⟨_, rfl, by rw [hv.out]; exact F0.out, B0.out⟩
  · have hv := Lib.hid (M.direct_yes hok)
    have HO := Lib.hid hok
    have hN := (M.fwd_yes hok).1
    clear hok
    go_wp2
    go_loopw [3, 5] (fun q i wr => ∃ k : Nat, k ≤ n ∧ i = .int .i64 k ∧ Hid (SRow wr w.heap.size q (M.insAll (sst F k))) ∧ Hid (FRow wr w.heap.size (.slice (some ⟨w.heap.size + 1, 0, none⟩) 0 0) []) ∧ Hid (Below w.heap.size w wr)) (fun _ i _ => n - (intOf i).toNat)
    case atStart => exact ⟨0, Nat.zero_le _, rfl, E0, F0, B0⟩
    case round =>
      obtain ⟨k, hk, rfl, hrow, hfr, hb⟩ := hrel
      have hz := hb.out.size
      have HLr := Lib.hid (HL.out.on hb.out)
      by_cases hlt : k < n
      · obtain ⟨b, o, rfl, c0, c1⟩ := HLr.out k hlt
        have E1 := Lib.hid (sst_succ F k)
        have H31 : Hid ((M.insAll (sst F k)).length ≤ 1048575) := by
          rw [Hid, M.insAll_len, sst_length]
          omega
        obtain ⟨a1, cc, hv1, _, hst⟩ := hrow.out.form
        subst hv1
        have HS := Lib.hid hst
        have hss := Lib.hid (sst_sC (M.insAll (sst F k)))
        have hmore := Lib.hid (M.insAll_more (sst F k) (F k))
        clear hst
        go_wp2_with (first
          | (go_at_call 58; refine (spec_ForwardsValid _ _ n cap F T HLr.out HF.out hn).mono ?_; rw [HO.out]; rintro e w1 ⟨rfl, rfl⟩)
          | (go_at_call 65; refine (spec_l4Insert _ a1 _ cc _ HS.out H31.out (F k)).mono ?_; rw [hss.out, ← hmore.out]; rintro e w2 ⟨v2, rfl, r2, hb2⟩; have R2 := Lib.hid (r2.lower hz); have F2 := Lib.hid (hfr.out.on hb2); have K2 := Lib.hid (step hb.out hb2); clear r2 hb2))
        go_roundw
        case rel => exact ⟨k + 1, by omega, by go_num, by rw [E1.out]; exact R2, F2, K2⟩
        case measure => simp [intOf]; omega
      · obtain rfl : k = n := by omega
        obtain ⟨CL, hCL⟩ : ∃ CL, M.insAll (sst F k) = CL := ⟨_, rfl⟩
        have hlen : CL.length = k := by rw [← hCL, M.insAll_len, sst_length]
        have hfin : Hid (M.direct F T k = M.dirS F T k (sst (sC CL) k)) := by
          have := sst_sC CL
          rw [hlen] at this
          rw [Hid, hv.out, hCL, this]
        rw [hCL] at hrow
        obtain ⟨a1, cc, hv1, _, hst⟩ := hrow.out.form
        rw [hlen] at hv1 hst
        subst hv1
        clear hst hCL
        go_wp2
        go_loopw [4, 6] (fun q i wr => ∃ j : Nat, j ≤ k ∧ i = .int .i64 j ∧ Hid (FRow wr w.heap.size q (M.dirS F T k (sst (sC CL) j))) ∧ Hid (SRow wr w.heap.size (.slice a1 k cc) CL) ∧ Hid (Below w.heap.size w wr)) (fun _ i _ => k - (intOf i).toNat)
        case atStart => exact ⟨0, Nat.zero_le _, rfl, hfr, hrow, hb⟩
        case round =>
          obtain ⟨j, hj, rfl, hfr, hrow, hb⟩ := hrel
          have hz := hb.out.size
          have HLr := Lib.hid (HL.out.on hb.out)
          by_cases hlt : j < k
          · obtain ⟨a2, c2, hv2, _, hst⟩ := hrow.out.form
            rw [hlen] at hv2 hst
            injection hv2 with e1 e2 e3
            subst e1 e3
            obtain ⟨b, o, rfl, c0⟩ := hst j hlt
            have hss := Lib.hid (sst_succ (sC CL) j)
            have hle := M.dirS_le F T k (sst (sC CL) j)
            rw [sst_length] at hle
            obtain ⟨C, hC⟩ : ∃ C, sC CL j = C := ⟨_, rfl⟩
            rw [hC] at c0 hss
            have HAP := Lib.hid (apart_rows hrow.out hfr.out)
            clear hst hC
            cases hr : M.res F T k C with
            | none =>
              have HR : Hid (resV (M.res F T k C) = .tuple #[.string ⟨#[]⟩, .int .i64 0, .bool false]) := by rw [Hid, hr]; rfl
              have E1 := Lib.hid (M.dirS_no (L := sst (sC CL) j) (M.endOf_no hr))
              clear hr
              go_wp2_with (go_at_call 62; refine (spec_l4Resolve _ a k cap F T HLr.out hn C).mono ?_; rw [HR.out]; rintro e w3 ⟨rfl, rfl⟩)
              go_roundw
              case rel => exact ⟨j + 1, by omega, by go_num, by rw [hss.out, E1.out]; exact hfr, hrow, hb⟩
              case measure => simp [intOf]; omega
            | some p =>
              obtain ⟨d, t⟩ := p
              have HR : Hid (resV (M.res F T k C) = .tuple #[.string d, .int .i64 t, .bool true]) := by rw [Hid, hr]; rfl
              have E1 := Lib.hid (M.dirS_yes (L := sst (sC CL) j) (M.endOf_yes hr))
              clear hr
              go_wp2_with (first
                | (go_at_call 62; refine (spec_l4Resolve _ a k cap F T HLr.out hn C).mono ?_; rw [HR.out]; rintro e w3 ⟨rfl, rfl⟩)
                | (at_builtin; refine wpList_append_forward _ rfl _ _ rfl w.heap.size _ _ rfl (hfr.out.alloc _) _ C d rfl ?_ (by omega) (by simp; omega) ?_))
              · simp [go_sem]
              · intro v' w3 hr3 hg3 ho3
                have q3 := Lib.hid (fbelow_grown (W := w) (hb.out.alloc hz _) (hfr.out.alloc _) (Nat.le_refl _) hg3)
                have S3 := Lib.hid ((hrow.out.alloc (.cells #[.string C, .string d] 30)).kept hg3 (fun q hq e => HAP.out q hq e.symm))
                have R3 := Lib.hid hr3
                clear hr3 hg3 ho3
                go_wp2
                go_roundw
                case rel => exact ⟨j + 1, by omega, by go_num, by rw [hss.out, E1.out]; exact R3, S3, q3⟩
                case measure => simp [intOf]; omega
          · obtain rfl : j = k := by omega
            go_wp2
            go_ret
            exact ⟨_, rfl, by rw [hfin.out]; exact hfr.out, hb.out⟩

set_option maxHeartbeats 4000000 in
set_option maxRecDepth 100000 in
theorem spec_SourcesOf (w : World) (a : Option Addr) (n cap : Nat) (F T : Nat → ByteArray) (h : Fws w a n F T) (hf : FFits n F T) (hn : n ≤ 1048576) (c : ByteArray) :
    Calls Try.prog 42 #[.slice a n cap, .string c] w (SRowOut w (M.srcs F T n c)) := by
  have HL := Lib.hid h
  have HF := Lib.hid hf
  have E0 := Lib.hid (sone_empty w)
  have B0 := Lib.hid (below_alloc0 w (.cells #[] 9))
  clear h hf
  go_enter Try.func42, Try.ntmps42
  cases hok : M.fwd n F T
  · have hv := Lib.hid (M.srcs_no c hok)
    have HO := Lib.hid hok
    clear hok
    go_wp2
    go_loop [5, 6] (fun q i => i = .int .i64 0 ∧ q = .slice (some ⟨w.heap.size, 0, none⟩) 0 0) (fun _ _ => 0)
    case atStart => exact ⟨rfl, rfl⟩
    case round =>
      obtain ⟨rfl, rfl⟩ := hrel
      by_cases hlt : 0 < n
      · go_wp2_with (go_at_call 58; refine (spec_ForwardsValid _ a n cap F T (HL.out.on B0.out) HF.out hn).mono ?_; rw [HO.out]; rintro e w1 ⟨rfl, rfl⟩)
        go_ret
        exact ⟨_, rfl, by rw [hv.out]; exact E0.out, B0.out⟩
      · go_wp2
        go_ret
        exact ⟨_, rfl, by rw [hv.out]; exact E0.out, B0.out⟩
  · have hv := Lib.hid (M.srcs_yes c hok)
    have HO := Lib.hid hok
    have hN := (M.fwd_yes hok).1
    clear hok
    go_wp2
    go_loopw [5, 6] (fun q i wr => ∃ k : Nat, k ≤ n ∧ i = .int .i64 k ∧ Hid (SRow wr w.heap.size q (M.insAll (M.srcIx F T n c k))) ∧ Hid (Below w.heap.size w wr)) (fun _ i _ => n - (intOf i).toNat)
    case atStart => exact ⟨0, Nat.zero_le _, rfl, E0, B0⟩
    case round =>
      obtain ⟨k, hk, rfl, hrow, hb⟩ := hrel
      have hz := hb.out.size
      have HLr := Lib.hid (HL.out.on hb.out)
      by_cases hlt : k < n
      · obtain ⟨b, o, rfl, c0, c1⟩ := HLr.out k hlt
        cases hr : M.res F T n (F k) with
        | none =>
          have HR : Hid (resV (M.res F T n (F k)) = .tuple #[.string ⟨#[]⟩, .int .i64 0, .bool false]) := by rw [Hid, hr]; rfl
          have E1 : Hid (M.srcIx F T n c (k + 1) = M.srcIx F T n c k) := if_neg (by rw [M.endOf_no hr]; intro e; cases e)
          clear hr
          go_wp2_with (first
            | (go_at_call 58; refine (spec_ForwardsValid _ _ n cap F T HLr.out HF.out hn).mono ?_; rw [HO.out]; rintro e w1 ⟨rfl, rfl⟩)
            | (go_at_call 62; refine (spec_l4Resolve _ _ n cap F T HLr.out hn (F k)).mono ?_; rw [HR.out]; rintro e w1 ⟨rfl, rfl⟩))
          go_roundw
          case rel => exact ⟨k + 1, by omega, by go_num, by rw [E1.out]; exact hrow, hb⟩
          case measure => simp [intOf]; omega
        | some p =>
          obtain ⟨d, t⟩ := p
          have HR : Hid (resV (M.res F T n (F k)) = .tuple #[.string d, .int .i64 t, .bool true]) := by rw [Hid, hr]; rfl
          by_cases he : d = c
          · have E1 : Hid (M.srcIx F T n c (k + 1) = M.srcIx F T n c k ++ [F k]) := if_pos (by rw [M.endOf_yes hr, he])
            have hd : (d.toList == c.toList) = true := by rw [he]; simp
            have H31 : Hid ((M.insAll (M.srcIx F T n c k)).length ≤ 1048575) := by
              have hle := M.srcIx_le F T n c k
              rw [Hid, M.insAll_len]
              generalize (M.srcIx F T n c k).length = q at hle ⊢
              omega
            obtain ⟨a1, cc, hv1, _, hst⟩ := hrow.out.form
            subst hv1
            have HS := Lib.hid hst
            have hss := Lib.hid (sst_sC (M.insAll (M.srcIx F T n c k)))
            have hmore := Lib.hid (M.insAll_more (M.srcIx F T n c k) (F k))
            clear hst hr he
            go_wp2_with (first
              | (go_at_call 58; refine (spec_ForwardsValid _ _ n cap F T HLr.out HF.out hn).mono ?_; rw [HO.out]; rintro e w1 ⟨rfl, rfl⟩)
              | (go_at_call 62; refine (spec_l4Resolve _ _ n cap F T HLr.out hn (F k)).mono ?_; rw [HR.out]; rintro e w1 ⟨rfl, rfl⟩)
              | (go_at_call 65; refine (spec_l4Insert _ a1 _ cc _ HS.out H31.out (F k)).mono ?_; rw [hss.out, ← hmore.out]; rintro e w2 ⟨v2, rfl, r2, hb2⟩; have R2 := Lib.hid (r2.lower hz); have K2 := Lib.hid (step hb.out hb2); clear r2 hb2))
            go_roundw
            case rel => exact ⟨k + 1, by omega, by go_num, by rw [E1.out]; exact R2, K2⟩
            case measure => simp [intOf]; omega
          · have E1 : Hid (M.srcIx F T n c (k + 1) = M.srcIx F T n c k) := if_neg (by rw [M.endOf_yes hr]; exact fun e => he (Option.some.inj e))
            have hd : (d.toList == c.toList) = false := neq_list0 he
            clear hr he
            go_wp2_with (first
              | (go_at_call 58; refine (spec_ForwardsValid _ _ n cap F T HLr.out HF.out hn).mono ?_; rw [HO.out]; rintro e w1 ⟨rfl, rfl⟩)
              | (go_at_call 62; refine (spec_l4Resolve _ _ n cap F T HLr.out hn (F k)).mono ?_; rw [HR.out]; rintro e w1 ⟨rfl, rfl⟩))
            go_roundw
            case rel => exact ⟨k + 1, by omega, by go_num, by rw [E1.out]; exact hrow, hb⟩
            case measure => simp [intOf]; omega
      · obtain rfl : k = n := by omega
        go_wp2
        go_ret
        exact ⟨_, rfl, by rw [hv.out]; exact hrow.out, hb.out⟩
end Go.Proofs.Ytbfbbpmddgfeiaa
