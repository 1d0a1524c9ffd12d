/-
  The numbers of letters that are gone: MissingIds, in the program and in the model of the document.
-/
import Derived.Test.YtlamckdnnnifcaaSortI
import Derived.Test.YtlamckdnnnifcaaFind
namespace Go.Proofs.Ytlamckdnnnifcaa
open Go.RowKit Go.Maps
open Go.PlainAid (bt get_bt bt_nonneg bt_le)

/-- Whether a number is among the first n. -/
def M.among (J : Nat → Int) (n : Nat) (x : Int) : Bool := (List.range n).any fun j => decide (J j = x)
theorem M.among_yes {J : Nat → Int} {n : Nat} {x : Int} (h : M.among J n x = true) : ∃ j, j < n ∧ J j = x := by
  obtain ⟨j, hj, e⟩ := List.any_eq_true.1 h
  exact ⟨j, List.mem_range.1 hj, of_decide_eq_true e⟩
theorem M.among_no {J : Nat → Int} {n : Nat} {x : Int} (h : M.among J n x = false) : ∀ j, j < n → J j ≠ x := fun j hj e => by
  have := List.any_eq_false.1 h j (List.mem_range.2 hj)
  exact this (decide_eq_true e)
theorem M.find_among {J : Nat → Int} {n : Nat} {x : Int} : (M.find J n x < 0) = (M.among J n x = false) := by
  apply propext
  unfold M.find
  cases e : (List.range n).find? (fun i => decide (J i = x)) with
  | none =>
    rw [List.find?_eq_none] at e
    refine ⟨fun _ => List.any_eq_false.2 e, fun _ => by decide⟩
  | some i =>
    have h1 := List.find?_some e
    have h2 := List.mem_of_find?_eq_some e
    refine ⟨fun h => absurd h (by simp only; omega), fun h => absurd (List.any_eq_true.2 ⟨i, h2, h1⟩) (by show M.among J n x ≠ true; rw [h]; decide)⟩
/-- The numbers of the first k letters that are not among others. -/
def M.gone (I J : Nat → Int) (m : Nat) : Nat → List Int
  | 0 => []
  | k + 1 => if M.among J m (I k) then M.gone I J m k else M.gone I J m k ++ [I k]
theorem M.gone_in {I J : Nat → Int} {m k : Nat} (h : M.among J m (I k) = true) : M.gone I J m (k + 1) = M.gone I J m k := by
  show (if M.among J m (I k) then _ else _) = _
  rw [if_pos h]
theorem M.gone_out {I J : Nat → Int} {m k : Nat} (h : M.among J m (I k) = false) : M.gone I J m (k + 1) = M.gone I J m k ++ [I k] := by
  show (if M.among J m (I k) then _ else _) = _
  rw [h, if_neg (by decide)]
theorem M.gone_len (I J : Nat → Int) (m : Nat) : ∀ k, (M.gone I J m k).length ≤ k
  | 0 => Nat.le_refl _
  | k + 1 => by
    have := M.gone_len I J m k
    cases h : M.among J m (I k)
    · rw [M.gone_out h, List.length_append, List.length_singleton]; omega
    · rw [M.gone_in h]; omega
def M.missing (n : Nat) (I : Nat → Int) (C : Nat → ByteArray) (m : Nat) (J : Nat → Int) (D : Nat → ByteArray) : List Int := if M.batch n I C && M.batch m J D then M.insAlli (M.gone I J m n) else []
theorem M.missing_no {n : Nat} {I : Nat → Int} {C : Nat → ByteArray} {m : Nat} {J : Nat → Int} {D : Nat → ByteArray} (h : (M.batch n I C && M.batch m J D) = false) : M.missing n I C m J D = [] := by unfold M.missing; rw [h]; rfl
theorem M.missing_yes {n : Nat} {I : Nat → Int} {C : Nat → ByteArray} {m : Nat} {J : Nat → Int} {D : Nat → ByteArray} (h : (M.batch n I C && M.batch m J D) = true) : M.missing n I C m J D = M.insAlli (M.gone I J m n) := by unfold M.missing; rw [h]; rfl
theorem M.missing_len (n : Nat) (I : Nat → Int) (C : Nat → ByteArray) (m : Nat) (J : Nat → Int) (D : Nat → ByteArray) : (M.missing n I C m J D).length ≤ 60 := by
  cases h : (M.batch n I C && M.batch m J D)
  · rw [M.missing_no h]; exact Nat.zero_le _
  · rw [M.missing_yes h, M.insAlli_len]
    rw [Bool.and_eq_true] at h
    have := M.gone_len I J m n
    have := (M.batch_yes h.1).1
    omega

set_option maxRecDepth 100000 in
set_option maxHeartbeats 2000000 in
theorem impl_MissingIds (w : World) (a : Option Addr) (n c : Nat) (I : Nat → Int) (C : Nat → ByteArray) (h : Lts w a n I C) (hf : Fits n I C) (a2 : Option Addr) (m c2 : Nat) (J : Nat → Int) (D : Nat → ByteArray) (h2 : Lts w a2 m J D) (hf2 : Fits m J D) :
    Calls Try.prog 13 #[.slice a n c, .slice a2 m c2] w (NRowOut w (M.missing n I C m J D)) := by
  have HF := Lib.hid hf
  have HL := Lib.hid h
  have HF2 := Lib.hid hf2
  have HL2 := Lib.hid h2
  clear h hf h2 hf2
  have hmm := @run_makeMap Try.prog
  cases hb : M.batch n I C
  · have hv := Lib.hid (M.missing_no (m := m) (J := J) (D := D) (show (M.batch n I C && M.batch m J D) = false by rw [hb]; rfl))
    have HB := Lib.hid hb
    clear hb
    go_enter Try.func13, Try.ntmps13
    go_wp2_with fail
    refine (impl_BatchValid _ _ _ _ _ _ HL.out HF.out).mono ?_
    rw [HB.out]
    rintro e w1 ⟨rfl, hb1⟩
    go_wp2
    go_ret
    exact ⟨_, rfl, by rw [hv.out]; exact IRow.nil _ _, hb1⟩
  cases hb2 : M.batch m J D
  · have hv := Lib.hid (M.missing_no (show (M.batch n I C && M.batch m J D) = false by rw [hb, hb2]; rfl))
    have HB := Lib.hid hb
    have HB2 := Lib.hid hb2
    clear hb hb2
    go_enter Try.func13, Try.ntmps13
    go_wp2_with fail
    refine (impl_BatchValid _ _ _ _ _ _ HL.out HF.out).mono ?_
    rw [HB.out]
    rintro e w1 ⟨rfl, hb1⟩
    go_wp2_with fail
    refine (impl_BatchValid _ _ _ _ _ _ (HL2.out.on hb1) HF2.out).mono ?_
    rw [HB2.out]
    rintro e w2 ⟨rfl, hb2⟩
    go_wp2
    go_ret
    exact ⟨_, rfl, by rw [hv.out]; exact IRow.nil _ _, step hb1 hb2⟩
  have hv := Lib.hid (M.missing_yes (show (M.batch n I C && M.batch m J D) = true by rw [hb, hb2]; rfl))
  have hn := (M.batch_yes hb).1
  have hm := (M.batch_yes hb2).1
  have HG2 := Lib.hid (M.batch_yes hb2).2
  have HB := Lib.hid hb
  have HB2 := Lib.hid hb2
  clear hb hb2
  go_enter Try.func13, Try.ntmps13
  go_wp2_with fail
  refine (impl_BatchValid _ _ _ _ _ _ HL.out HF.out).mono ?_
  rw [HB.out]
  rintro e w1 ⟨rfl, hb1⟩
  go_wp2_with fail
  refine (impl_BatchValid _ _ _ _ _ _ (HL2.out.on hb1) HF2.out).mono ?_
  rw [HB2.out]
  rintro e w2 ⟨rfl, hb2⟩
  have BL := Lib.hid (step hb1 hb2)
  clear hb1 hb2
  go_wp2
  go_loopw [22] (fun i wr => ∃ k : Nat, k ≤ m ∧ i = .int .i64 k ∧ OwnSeen wr w2.heap.size J k ∧ Below w2.heap.size w2 wr) (fun i _ => m - (intOf i).toNat)
  case atStart => exact ⟨0, Nat.zero_le _, rfl, World.ownsMap_made _ _ _ _, (Below.refl _ _).alloc (Nat.le_refl _) _⟩
  case round =>
    obtain ⟨k, hk, rfl, hown, hb⟩ := hrel
    have hz := hb.size
    have HO := Lib.hid hown
    clear hown
    by_cases hlt : k < m
    · obtain ⟨b1, o1, rfl, c0, c1⟩ := (HL2.out.on (step BL.out hb)) k hlt
      obtain ⟨i0, i1⟩ := (HF2.out k hlt).1
      have hkey : keyOf Try.prog 3 (.int .i64 (J k)) = some (.int .i64 (J k)) := keyOf_int_mk Try.underlying3 (WalkArith.wf_i64 ⟨i0, i1⟩)
      have hkm : k < maxLen := by unfold maxLen; omega
      go_wp2_with (at_mapUpdate; refine wpList_mapUpdate_own _ rfl _ _ _ 65 rfl 3 4 lawInt Try.underlying65 _ w2.heap.size k _ rfl (World.ownsMap.alloc HO.out _) hkm _ _ _ rfl rfl hkey _ [] (plainElem_bool Try.underlying4 true) ?_; intro w3 hown1 hgrow1)
      go_roundw
      case rel => exact ⟨k + 1, by omega, by go_num, hown1, (hb.alloc hz _).grown hgrow1 (by simp; omega) (fun j hj => by cases hj; exact Nat.le_refl _)⟩
      case measure => simp [intOf]; omega
    · obtain rfl : k = m := by omega
      obtain ⟨w3, rfl⟩ : ∃ w3 : World, w3 = wr := ⟨_, rfl⟩
      have BL3 := Lib.hid (step BL.out hb)
      have K3 := Lib.hid hb
      clear hb hz
      go_wp2
      go_loopw [8, 32] (fun u i wr => ∃ j : Nat, j ≤ n ∧ i = .int .i64 j ∧ Hid (IRow wr w3.heap.size u (M.gone I J k j)) ∧ Below w3.heap.size w3 wr) (fun _ i _ => n - (intOf i).toNat)
      case atStart => exact ⟨0, Nat.zero_le _, rfl, IRow.nil _ _, Below.refl _ _⟩
      case round =>
        obtain ⟨j, hj, rfl, hrow, hb⟩ := hrel
        have hz := hb.size
        by_cases hlt : j < n
        · obtain ⟨b1, o1, rfl, c0, c1⟩ := (HL.out.on (step BL3.out hb)) j hlt
          obtain ⟨i0, i1⟩ := (HF.out j hlt).1
          have HO2 : Hid (OwnSeen (wr.alloc (.cells #[.int .i64 (I j), .string (C j)] 33)) w2.heap.size J k) := World.ownsMap.alloc (World.ownsMap.kept HO.out (grown_of_below hb) (by simp)) _
          cases hin : M.among J k (I j)
          · have hlook := OwnSeen.look HO2.out i0 i1 (Seen.miss J (I j) k (M.among_no hin))
            have hs := Lib.hid (M.gone_out hin)
            have hle := M.gone_len I J k j
            clear hin
            go_wp2_with (at_builtin; refine wpList_append_int _ rfl _ _ rfl w3.heap.size u8 (M.gone I J k j) rfl ((hrow.out.alloc _).alloc _) _ (I j) rfl ?_ (by omega) (by simp; omega) ?_)
            · simp [go_sem]
            · intro v1 w4 r1 gr1 ho1
              have R1 : Hid (IRow w4 w3.heap.size v1 (M.gone I J k (j + 1))) := by rw [hs.out]; exact r1
              have B3 : Hid (Below w3.heap.size w3 w4) := ((hb.alloc hz _).alloc (by simp; omega) _).grown gr1 (by simp; omega) (fun q e => (hrow.out.lt q e).1)
              clear r1 gr1 ho1
              go_wp2
              go_roundw
              case rel => exact ⟨j + 1, by omega, by go_num, R1, B3.out⟩
              case measure => simp [intOf]; omega
          · have hlook : (Instr.lookup 65 (.map (some w2.heap.size)) (.int .i64 (I j)) false).run Try.prog (wr.alloc (.cells #[.int .i64 (I j), .string (C j)] 33)) = .ok (.bool true) (wr.alloc (.cells #[.int .i64 (I j), .string (C j)] 33)) := by
              obtain ⟨q, hq, e⟩ := M.among_yes hin
              exact OwnSeen.look HO2.out i0 i1 (by rw [← e]; exact Seen.hit J k q hq)
            have hs := Lib.hid (M.gone_in hin)
            clear hin
            go_wp2
            go_roundw
            case rel => exact ⟨j + 1, by omega, by go_num, by rw [hs.out]; exact hrow.out.alloc _, by go_grown⟩
            case measure => simp [intOf]; omega
        · obtain rfl : j = n := by omega
          have hle := M.gone_len I J k j
          have HC := Lib.hid (sort_ints wr w3.heap.size u8 (M.gone I J k j) hrow.out (by omega))
          go_wp2_with fail
          refine HC.out.mono ?_
          rintro e w4 ⟨rfl, r4, g4⟩
          have R4 := Lib.hid r4
          have B4 : Hid (Below w3.heap.size w3 w4) := hb.grown g4 (by omega) (fun q e => (hrow.out.lt q e).1)
          clear r4 g4
          go_wp2
          go_ret
          exact ⟨_, rfl, by rw [hv.out]; exact R4.out.lower BL3.out.size, BL3.out.trans (B4.out.mono BL3.out.size)⟩

set_option maxRecDepth 100000 in
set_option maxHeartbeats 2000000 in
theorem spec_MissingIds (w : World) (a : Option Addr) (n c : Nat) (I : Nat → Int) (C : Nat → ByteArray) (h : Lts w a n I C) (hf : Fits n I C) (hn0 : n ≤ 1048576) (a2 : Option Addr) (m c2 : Nat) (J : Nat → Int) (D : Nat → ByteArray) (h2 : Lts w a2 m J D) (hf2 : Fits m J D) (hm0 : m ≤ 1048576) :
    Calls Try.prog 15 #[.slice a n c, .slice a2 m c2] w (NRowOut w (M.missing n I C m J D)) := by
  have b0 := below_alloc0 w (.cells #[] 3)
  have B0 := Lib.hid b0
  have R0 := Lib.hid (one_irow w)
  have HF := Lib.hid hf
  have HL := Lib.hid h
  have HF2 := Lib.hid hf2
  have HL2 := Lib.hid h2
  clear h hf h2 hf2 b0
  cases hb : M.batch n I C
  · have hv := Lib.hid (M.missing_no (m := m) (J := J) (D := D) (show (M.batch n I C && M.batch m J D) = false by rw [hb]; rfl))
    have hpos := M.batch_pos hb
    have HB := Lib.hid hb
    clear hb
    go_enter Try.func15, Try.ntmps15
    go_wp2
    refine wp_loop_rounds 1 ?_
    rw [rounds_succ]
    go_wp2_with fail
    refine (spec_BatchValid _ _ _ _ _ _ (HL.out.on B0.out) HF.out hn0).mono ?_
    rw [HB.out]
    rintro e w1 ⟨rfl, hb1⟩
    go_wp2
    go_ret
    exact ⟨_, rfl, by rw [hv.out]; exact R0.out.on hb1, step B0.out hb1⟩
  have hn := (M.batch_yes hb).1
  have HB := Lib.hid hb
  cases hb2 : M.batch m J D
  · have hv := Lib.hid (M.missing_no (show (M.batch n I C && M.batch m J D) = false by rw [hb, hb2]; rfl))
    have HB2 := Lib.hid hb2
    clear hb hb2
    by_cases hpos : 0 < n
    · go_enter Try.func15, Try.ntmps15
      go_wp2
      refine wp_loop_rounds 1 ?_
      rw [rounds_succ]
      go_wp2_with fail
      refine (spec_BatchValid _ _ _ _ _ _ (HL.out.on B0.out) HF.out hn0).mono ?_
      rw [HB.out]
      rintro e w1 ⟨rfl, hb1⟩
      go_wp2_with fail
      refine (spec_BatchValid _ _ _ _ _ _ ((HL2.out.on B0.out).on hb1) HF2.out hm0).mono ?_
      rw [HB2.out]
      rintro e w2 ⟨rfl, hb2⟩
      go_wp2
      go_ret
      exact ⟨_, rfl, by rw [hv.out]; exact (R0.out.on hb1).on hb2, step (step B0.out hb1) hb2⟩
    · obtain rfl : n = 0 := by omega
      go_enter Try.func15, Try.ntmps15
      go_wp2
      go_rounds 1
      go_ret
      exact ⟨_, rfl, by rw [hv.out]; exact R0.out, B0.out⟩
  have hv := Lib.hid (M.missing_yes (show (M.batch n I C && M.batch m J D) = true by rw [hb, hb2]; rfl))
  have HB2 := Lib.hid hb2
  have hfl : Hid (∀ x, M.findLetter m J D x = M.find J m x) := fun x => M.findLetter_yes hb2
  clear hb hb2
  go_enter Try.func15, Try.ntmps15
  go_wp2
  go_loopw [5, 6] (fun u i wr => ∃ k : Nat, k ≤ n ∧ i = .int .i64 k ∧ Hid (IRow wr w.heap.size u (M.insAlli (M.gone I J m k))) ∧ Below w.heap.size w wr) (fun _ i _ => n - (intOf i).toNat)
  case atStart => exact ⟨0, Nat.zero_le _, rfl, R0.out, B0.out⟩
  case round =>
    obtain ⟨k, hk, rfl, hrow, hb⟩ := hrel
    by_cases hlt : k < n
    · go_wp2_with fail
      refine (spec_BatchValid _ _ _ _ _ _ (HL.out.on hb) HF.out hn0).mono ?_
      rw [HB.out]
      rintro e w1 ⟨rfl, hb1⟩
      go_wp2_with fail
      refine (spec_BatchValid _ _ _ _ _ _ ((HL2.out.on hb).on hb1) HF2.out hm0).mono ?_
      rw [HB2.out]
      rintro e w2 ⟨rfl, hb2⟩
      have hbb := step (step hb hb1) hb2
      have R2 := Lib.hid ((hrow.out.on hb1).on hb2)
      clear hrow hb hb1 hb2
      obtain ⟨b1, o1, rfl, c0, c1⟩ := (HL.out.on hbb) k hlt
      have hFA : Hid (∀ W : World, Lts W a2 m J D → Calls Try.prog 36 #[.slice a2 m c2, .int .i64 (I k)] W fun e w' => e = .returned (.int .i64 (M.find J m (I k))) ∧ Below W.heap.size W w') := fun W hW => by
        rw [← hfl.out]
        exact spec_FindLetter W a2 m c2 J D hW HF2.out hm0 (I k)
      have hfa := Lib.hid (M.find_among (J := J) (n := m) (x := I k))
      obtain ⟨x, hx⟩ : ∃ x, M.find J m (I k) = x := ⟨_, rfl⟩
      rw [hx] at hFA hfa
      clear hx
      by_cases hneg : x < 0
      · have hs := Lib.hid (M.gone_out (I := I) (k := k) (hfa.out.mp hneg))
        have hs2 : Hid (M.insAlli (M.gone I J m (k + 1)) = M.insLi (I k) (M.insAlli (M.gone I J m k))) := by unfold Hid; rw [hs.out, M.insAlli_more]
        have hle := M.gone_len I J m k
        have hll : (M.insAlli (M.gone I J m k)).length ≤ 60 := by rw [M.insAlli_len]; omega
        go_wp2_with fail
        refine (hFA.out _ (HL2.out.on hbb)).mono ?_
        rintro e w3 ⟨rfl, hb3⟩
        have R3 := Lib.hid (R2.out.on hb3)
        have hb4 := step hbb hb3
        obtain ⟨b2, o2, e2, d0, d1⟩ := (HL.out.on hb4) k hlt
        cases e2
        obtain ⟨av, cv, hav, _, hns⟩ := R3.out.form
        have hnn : Nums w3 av (M.insAlli (M.gone I J m k)) := (hav ▸ R3.out).nums
        obtain ⟨LL, hLL⟩ : ∃ LL, M.insAlli (M.gone I J m k) = LL := ⟨_, rfl⟩
        rw [hLL] at hav hnn hll hs2 R3 hns
        subst hav
        clear hLL hns c0 c1
        have HN := Lib.hid hnn
        clear hnn
        go_wp2_with fail
        refine (spec_l7Insert _ _ _ _ LL HN.out rfl (by omega) (I k)).mono ?_
        rintro e w5 ⟨v5, rfl, r5, k5⟩
        have R5 : Hid (IRow w5 w.heap.size v5 (M.insAlli (M.gone I J m (k + 1)))) := by unfold Hid; rw [hs2.out]; exact r5.lower hb4.size
        have B5 := step hb4 k5
        clear r5 k5
        go_wp2
        go_roundw
        case rel => exact ⟨k + 1, by omega, by go_num, R5.out, B5⟩
        case measure => simp [intOf]; omega
      · have hin : M.among J m (I k) = true := by
          cases h : M.among J m (I k)
          · exact absurd (hfa.out.mpr h) hneg
          · rfl
        have hs := Lib.hid (M.gone_in hin)
        clear hin
        go_wp2_with fail
        refine (hFA.out _ (HL2.out.on hbb)).mono ?_
        rintro e w3 ⟨rfl, hb3⟩
        go_wp2
        go_roundw
        case rel => exact ⟨k + 1, by omega, by go_num, by rw [hs.out]; exact R2.out.on hb3, step hbb hb3⟩
        case measure => simp [intOf]; omega
    · obtain rfl : k = n := by omega
      go_wp2
      go_ret
      exact ⟨_, rfl, by rw [hv.out]; exact hrow.out, hb⟩
end Go.Proofs.Ytlamckdnnnifcaa
