/-
  The codes of letters: in the program the codes of the sorted letters without repetition, by the library; in the model one after the other.
-/
import Derived.Test.YtedhenffolfkeaaStbS
import Derived.Test.YtedhenffolfkeaaSCat
import Derived.Test.YtedhenffolfkeaaShelf
import Derived.BigQuiet
namespace Go.Proofs.Ytedhenffolfkeaa
open Go.RowKit
open Go.Sort (grow putRow putCells mapBlock onCells)
open Go.PlainAid (bt get_bt bt_nonneg bt_le)
set_option linter.unusedVariables false

/-- The first k codes, each once where it follows itself. -/
def M.codesTo (C : Nat → ByteArray) : Nat → List ByteArray
  | 0 => []
  | k + 1 => if k = 0 ∨ C k ≠ C (k - 1) then M.codesTo C k ++ [C k] else M.codesTo C k
theorem M.codesTo_le (C : Nat → ByteArray) : ∀ k, (M.codesTo C k).length ≤ k
  | 0 => Nat.le_refl _
  | k + 1 => by
    have := M.codesTo_le C k
    unfold M.codesTo
    split
    · rw [List.length_append]; simp; omega
    · omega
theorem M.codesTo_yes {C : Nat → ByteArray} {k : Nat} (h : k = 0 ∨ C k ≠ C (k - 1)) : M.codesTo C (k + 1) = M.codesTo C k ++ [C k] := if_pos h
theorem M.codesTo_no {C : Nat → ByteArray} {k : Nat} (h : ¬ (k = 0 ∨ C k ≠ C (k - 1))) : M.codesTo C (k + 1) = M.codesTo C k := if_neg h
def M.codesL (n : Nat) (I : Nat → Int) (C : Nat → ByteArray) : List ByteArray := M.codesTo (nC (M.sortL n I C)) (M.sortL n I C).length
theorem M.codesL_le (n : Nat) (I : Nat → Int) (C : Nat → ByteArray) : (M.codesL n I C).length ≤ 60 := Nat.le_trans (M.codesTo_le _ _) (sortL_len n I C)
def bys (s : ByteArray) : List UInt8 := s.data.toList
theorem bys_inj {s t : ByteArray} (h : bys s = bys t) : s = t := WideShapes.bytes_inj h
theorem enc_bys (s : ByteArray) : encStr (bys s) = .string s := by
  unfold bys
  simp only [encStr, Array.toArray_toList]
theorem compact_codes (L : List ByteArray) : ∀ k, k ≤ L.length → Lib.compactUpTo (L.map bys).toArray k = (M.codesTo (sC L) k).map bys
  | 0, _ => rfl
  | k + 1, hk => by
    have hg : ∀ j, j < L.length → (L.map bys).toArray[j]! = bys (sC L j) := fun j hj => by
      rw [sC_at hj]
      simp only [List.getElem!_toArray, List.getElem!_eq_getElem?_getD, List.getElem?_map, List.getElem?_eq_getElem hj, Option.map_some, Option.getD_some]
    rw [Lib.compactUpTo_succ, compact_codes L k (by omega)]
    by_cases h : k = 0 ∨ sC L k ≠ sC L (k - 1)
    · have hk2 : Lib.keeps (L.map bys).toArray k = true := by
        unfold Lib.keeps
        rw [decide_eq_true_eq]
        rcases h with h | h
        · exact Or.inl h
        · refine Or.inr ?_
          rw [hg k (by omega), hg (k - 1) (by omega)]
          exact fun e => h (bys_inj e)
      rw [hk2, if_pos rfl, M.codesTo_yes h, List.map_append, hg k (by omega)]
      rfl
    · have hk2 : Lib.keeps (L.map bys).toArray k = false := by
        unfold Lib.keeps
        rw [decide_eq_false_iff_not]
        intro e
        rcases e with e | e
        · exact h (Or.inl e)
        · rw [hg k (by omega), hg (k - 1) (by omega)] at e
          exact h (Or.inr fun e2 => e (by rw [e2]))
      rw [hk2, M.codesTo_no h]
      simp
def SOutC (w : World) (L : List ByteArray) (e : Ending) (w' : World) : Prop := ∃ v, e = .returned v ∧ SRow w' w.heap.size v L ∧ Below w.heap.size w w'
set_option maxHeartbeats 1000000 in
theorem compact_strings (w : World) (base : Nat) (v : Value) (L : List ByteArray) (h : SRow w base v L) (hn : L.length ≤ 1048576) :
    Calls Try.prog 50 #[v] w fun e w' => ∃ v', e = .returned v' ∧ SRow w' base v' (M.codesTo (sC L) L.length) ∧ w.grownBy w' v.ownBlock := by
  rcases h.cases with ⟨rfl, rfl⟩ | ⟨g, c, rfl, hbg, hgl, hLc⟩
  · refine (Try.slices_Compact_string_empty none 0 w).mono fun e w' he => ?_
    obtain ⟨rfl, rfl⟩ := he
    exact ⟨_, rfl, SRow.nil _ _, World.grownBy.refl _ _⟩
  · have hH : Go.Sort.Holds encStr w g 0 (L.map bys).toArray := fun j hj => by
      have hj' : j < L.length := by simpa using hj
      have := h.cellAt j hj'
      rw [Nat.zero_add]
      refine ⟨?_, this.2⟩
      rw [this.1]
      simp only [List.getElem!_toArray, List.getElem!_eq_getElem?_getD, List.getElem?_map, List.getElem?_eq_getElem hj', Option.map_some, Option.getD_some, enc_bys]
    have hc := Try.slices_Compact_string g 0 c (L.map bys) w hH (by rw [List.length_map]; omega) (by rw [List.length_map]; exact hLc)
    have hcmp : Lib.compact (L.map bys) = (M.codesTo (sC L) L.length).map bys := by
      unfold Lib.compact
      rw [List.length_map]
      exact compact_codes L _ (Nat.le_refl _)
    rw [hcmp] at hc
    simp only [List.length_map] at hc
    refine hc.mono fun e w' he => ?_
    obtain ⟨rfl, n, hw⟩ := he
    have hlen := M.codesTo_le (sC L) L.length
    obtain ⟨K, hK⟩ : ∃ K, M.codesTo (sC L) L.length = K := ⟨_, rfl⟩
    rw [hK] at hw hlen ⊢
    obtain ⟨Z, hZ⟩ : ∃ Z : List (List UInt8), K.map bys ++ List.replicate (L.length - K.length) [] = Z := ⟨_, rfl⟩
    have hZl : Z.length = L.length := by rw [← hZ]; simp; omega
    have hZa : ∀ j (hj : j < K.length), Z[j]? = some (bys K[j]) := fun j hj => by
      rw [← hZ, List.getElem?_append_left (by simpa using hj), List.getElem?_map, List.getElem?_eq_getElem hj]; rfl
    rw [hZ] at hw
    obtain ⟨h1, h2⟩ := h
    rcases h2 with ⟨e, _⟩ | ⟨g', cap, cur, e, _, hg, hnc, hcm, hcs, htk⟩
    · cases e
    · injection e with e1 _ e3
      injection e1 with e1
      injection e1 with e1
      subst e1 e3
      have hg' : w'.heap[g]? = some (.cells (putCells encStr 0 Z.toArray cur) 9 (0, 0)) := by
        rw [hw]
        unfold putRow mapBlock Go.Sort.ahead
        simp only [Array.getElem?_modify, if_true, hg, Option.map_some, onCells]
      have hother : ∀ k, k < w.heap.size → k ≠ g → w'.heap[k]? = w.heap[k]? := fun k hk hne => by
        rw [hw]
        unfold putRow mapBlock Go.Sort.ahead
        simp only [Array.getElem?_modify]
        rw [if_neg (fun e => hne e.symm)]
      refine ⟨_, rfl, ⟨by rw [scells_length, Nat.mul_one], Or.inr ⟨g, c, _, rfl, hbg, hg', by omega, hcm, ?_, ?_⟩⟩, ?_⟩
      · unfold putCells
        rw [Array.size_mapIdx]
        exact hcs
      · rw [Nat.mul_one]
        apply List.ext_getElem?
        intro j
        by_cases hj : j < K.length
        · rw [List.getElem?_take_of_lt hj, scells_at _ j hj, Array.getElem?_toList]
          unfold putCells
          rw [Array.getElem?_mapIdx, Array.getElem?_eq_getElem (by omega), Option.map_some, if_pos ⟨Nat.zero_le _, by simp; omega⟩]
          simp only [Nat.sub_zero, List.getElem!_toArray, List.getElem!_eq_getElem?_getD, hZa j hj, Option.getD_some, enc_bys]
        · rw [List.getElem?_eq_none (by rw [List.length_take]; omega), List.getElem?_eq_none (by rw [scells_length]; omega)]
      · refine ⟨by rw [hw]; rfl, by rw [hw]; rfl, by rw [hw]; rfl, ?_, fun k hk hne => hother k hk fun e => hne (by rw [e]; rfl)⟩
        rw [hw]
        unfold putRow mapBlock Go.Sort.ahead
        simp
theorem M.codesTo_congr {C D : Nat → ByteArray} : ∀ {k : Nat}, (∀ i, i < k → C i = D i) → M.codesTo C k = M.codesTo D k
  | 0, _ => rfl
  | k + 1, h => by
    have ih := M.codesTo_congr (C := C) (D := D) (k := k) fun i hi => h i (by omega)
    by_cases h0 : k = 0
    · rw [M.codesTo_yes (Or.inl h0), M.codesTo_yes (Or.inl h0), ih, h k (by omega)]
    · unfold M.codesTo
      rw [ih, h k (by omega), h (k - 1) (by omega)]
theorem sst_more (S : Nat → ByteArray) (n : Nat) : sst S (n + 1) = sst S n ++ [S n] := by
  unfold sst
  rw [List.range_succ, List.map_append]; rfl
set_option maxHeartbeats 2000000 in
set_option maxRecDepth 100000 in
theorem impl_CodesOf (w : World) (a : Option Addr) (n c : Nat) (I : Nat → Int) (C : Nat → ByteArray) (h : Lts w a n I C) (hf : Fits n I C) :
    Calls Try.prog 24 #[.slice a n c] w (SOutC w (M.codesL n I C)) := by
  have HS := Lib.hid (impl_SortBatch w a n c I C h hf)
  have hl60 := sortL_len n I C
  have HCL : Hid (M.codesL n I C = M.codesTo (nC (M.sortL n I C)) (M.sortL n I C).length) := rfl
  generalize M.batch n I C = ok at HS
  generalize M.codesL n I C = CL at HCL ⊢
  generalize M.sortL n I C = R at HS hl60 HCL
  clear h hf
  go_enter Try.func24, Try.ntmps24
  go_wp2_with fail
  refine HS.out.mono ?_
  rintro e w1 ⟨v, rfl, r1, b1⟩
  obtain ⟨a2, c2, rfl, _, hl2⟩ := r1.form
  obtain ⟨m, hm⟩ : ∃ m, R.length = m := ⟨_, rfl⟩
  rw [hm] at hl2 hl60 HCL ⊢
  have HL2 := Lib.hid hl2
  have B1 := Lib.hid b1
  have z1 := b1.size
  clear r1 b1 hl2 hm
  go_wp2
  go_loopw [5, 15] (fun vc vi wr => ∃ (k : Nat), k ≤ m ∧ vi = .int .i64 k ∧ Hid (SRow wr w1.heap.size vc (sst (nC R) k)) ∧ Hid (Below w1.heap.size w1 wr)) (fun _ vi _ => m - (intOf vi).toNat)
  case atStart => exact ⟨0, Nat.zero_le _, rfl, SRow.nil _ _, Below.refl _ _⟩
  case round =>
    obtain ⟨k, hk, rfl, hrow, hbw⟩ := hrel
    have hz := hbw.out.size
    by_cases hlt : k < m
    · obtain ⟨b, o, rfl, c0, c1⟩ := (HL2.out.on hbw.out) k hlt
      have hki : (k : Int) < (m : Int) := by omega
      have hk0 : (0 : Int) ≤ (k : Int) := by omega
      have HN : Hid (sst (nC R) k ++ [nC R k] = sst (nC R) (k + 1)) := (sst_more _ _).symm
      have hln := sst_length (nC R) k
      obtain ⟨a5, c5, ev, _, _⟩ := hrow.out.form
      subst ev
      rw [hln] at hrow ⊢
      obtain ⟨SS, hSS⟩ : ∃ S, sst (nC R) k = S := ⟨_, rfl⟩
      rw [hSS] at hrow HN hln
      have HB2 := Lib.hid hbw.out
      have hl1 : SS.length ≤ 1048576 := by omega
      generalize nC R k = x at c1 HN
      generalize nI R k = y at c0
      clear hln hSS
      go_wp2_with (at_builtin; refine wpList_append_string _ rfl _ _ rfl w1.heap.size (.slice a5 k c5) SS rfl ((hrow.out.alloc _).alloc _) _ x rfl ?_ hl1 (by simp; omega) ?_)
      · simp [go_sem]
      intro v' w' r' g' o'
      rw [HN.out] at r'
      have R' := Lib.hid r'
      have B' : Hid (Below w1.heap.size w1 w') := ((hbw.out.alloc hz _).alloc (by simp; omega) _).grown g' (by simp; omega) (fun q e => (hrow.out.lt q e).1)
      clear r' g' o'
      go_wp2
      go_roundw
      case rel => exact ⟨k + 1, by omega, by go_num, R', B'⟩
      case measure => simp [intOf]; omega
    · obtain rfl : k = m := by omega
      have hln := sst_length (nC R) k
      have hc := compact_strings wr w1.heap.size _ (sst (nC R) k) hrow.out (by omega)
      rw [hln, M.codesTo_congr (fun i hi => sC_sst hi), ← HCL.out] at hc
      have HC := Lib.hid hc
      clear hc hln
      go_wp2_with fail
      refine HC.out.mono ?_
      rintro e w2 ⟨v', rfl, r2, g2⟩
      have B2 : Below w.heap.size w w2 := (B1.out.trans (hbw.out.mono z1)).grown g2 (by omega) (fun q e => by have := (hrow.out.lt q e).1; omega)
      go_wp2
      go_ret
      exact ⟨_, rfl, SRow.base r2 z1, B2⟩
set_option maxHeartbeats 2000000 in
set_option maxRecDepth 100000 in
theorem spec_CodesOf (w : World) (a : Option Addr) (n c : Nat) (I : Nat → Int) (C : Nat → ByteArray) (h : Lts w a n I C) (hf : Fits n I C) (hn : n ≤ 1048576) :
    Calls Try.prog 25 #[.slice a n c] w (SOutC w (M.codesL n I C)) := by
  have HS := Lib.hid (spec_SortBatch_all (w.alloc (.cells #[] 9)) a n c I C (h.on (below_alloc0 w _)) hf hn)
  have E0 := Lib.hid (sone_empty w)
  have hl60 := sortL_len n I C
  have HCL : Hid (M.codesL n I C = M.codesTo (nC (M.sortL n I C)) (M.sortL n I C).length) := rfl
  generalize M.batch n I C = ok at HS
  generalize M.codesL n I C = CL at HCL ⊢
  generalize M.sortL n I C = R at HS hl60 HCL
  clear h hf
  go_enter Try.func25, Try.ntmps25
  go_wp2_with fail
  refine HS.out.mono ?_
  rintro e w1 ⟨v, rfl, r1, b1⟩
  obtain ⟨a2, c2, rfl, _, hl2⟩ := r1.form
  have hsz0 : (w.alloc (.cells #[] 9)).heap.size = w.heap.size + 1 := by simp
  rw [hsz0] at r1
  obtain ⟨m, hm⟩ : ∃ m, R.length = m := ⟨_, rfl⟩
  rw [hm] at hl2 hl60 HCL r1 ⊢
  have HM := Lib.hid hm
  have R1 := Lib.hid r1
  have HRB : Hid (∀ q, (Value.slice a2 m c2).ownBlock = some q → w.heap.size + 1 ≤ q ∧ q < w1.heap.size) := fun q hq => Row.lt r1 q hq
  have B1 := Lib.hid (sstep (below_alloc0 w (.cells #[] 9)) b1)
  have E1 := Lib.hid (E0.out.below b1)
  have z1 := B1.out.size
  have hz1' : w.heap.size + 1 ≤ w1.heap.size := by have := b1.size; simp at this; omega
  have A1 : Hid (∀ q, (Value.slice (some ⟨w.heap.size, 0, none⟩) 0 0).ownBlock = some q → q = w.heap.size ∨ w1.heap.size ≤ q) := fun q hq => by
    simp [Value.ownBlock] at hq
    omega
  clear r1 b1 hl2 hm E0 hsz0
  go_wp2
  go_loopw [3, 6] (fun vc vi wr => ∃ (k : Nat), k ≤ m ∧ vi = .int .i64 k ∧ Hid (SRow wr w.heap.size vc (M.codesTo (nC R) k)) ∧ Hid (Row wr (w.heap.size + 1) (.slice a2 m c2) R) ∧ Hid (∀ q, vc.ownBlock = some q → q = w.heap.size ∨ w1.heap.size ≤ q) ∧ w1.heap.size ≤ wr.heap.size ∧ Hid (Below w.heap.size w wr)) (fun _ vi _ => m - (intOf vi).toNat)
  case atStart => exact ⟨0, Nat.zero_le _, rfl, E1, R1, A1, Nat.le_refl _, B1⟩
  case round =>
    obtain ⟨k, hk, rfl, hrow, hd, hap, hz1, hbw0⟩ := hrel
    have hz := hbw0.out.size
    have hle := M.codesTo_le (nC R) k
    by_cases hlt : k < m
    · have hki : (k : Int) < (m : Int) := by omega
      have hk0 : (0 : Int) ≤ (k : Int) := by omega
      have hl1 : Lts wr a2 m (nI R) (nC R) := by
        obtain ⟨a9, c9, e9, _, l9⟩ := hd.out.form
        rw [HM.out] at e9 l9
        injection e9 with q1 q2 q3
        rw [q1]; exact l9
      obtain ⟨b, o, rfl, c0, c1⟩ := hl1 k hlt
      by_cases h0 : k = 0 ∨ nC R k ≠ nC R (k - 1)
      · have HN : Hid (M.codesTo (nC R) k ++ [nC R k] = M.codesTo (nC R) (k + 1)) := (M.codesTo_yes h0).symm
        obtain ⟨KK, hKK⟩ : ∃ K, M.codesTo (nC R) k = K := ⟨_, rfl⟩
        rw [hKK] at hrow HN hle
        have hkl : KK.length ≤ 1048576 := by omega
        obtain ⟨a5, c5, ev, _, _⟩ := hrow.out.form
        subst ev
        clear hKK c0
        by_cases hk00 : k = 0
        · subst hk00
          generalize nC R 0 = x at c1 HN
          clear hl1 h0
          go_wp2_with fail
          go_quiet (fail)
          have hbq : Below wr.heap.size wr (wr.drewN nq) := ⟨rfl, rfl, rfl, Nat.le_refl _, fun _ _ => rfl⟩
          have HRq := Lib.hid (hrow.out.below hbq)
          have HDq := Lib.hid (hd.out.on hbq)
          have HBq0 := Lib.hid (sstep hbw0.out hbq)
          have q1 : (wr.drewN nq).cell? _ = _ := c1
          have hzq : w1.heap.size ≤ (wr.drewN nq).heap.size := hz1
          clear hbq c1 hrow hd
          generalize wr.drewN nq = wd at HRq HDq HBq0 q1 hzq ⊢
          have hzd := HBq0.out.size
          go_wp2_with (at_builtin; refine wpList_append_string _ rfl _ _ rfl w.heap.size (.slice a5 KK.length c5) KK rfl (HRq.out.alloc _) _ x rfl ?_ (by omega) (by simp; omega) ?_)
          · simp [go_sem]
          intro v' w' r' g' o'
          rw [HN.out] at r'
          have R' := Lib.hid r'
          have B' : Hid (Below w.heap.size w w') := (HBq0.out.alloc hzd _).grown g' (by simp; omega) (fun q e => (HRq.out.lt q e).1)
          have D' : Hid (Row w' (w.heap.size + 1) (.slice (some ⟨b, o, none⟩) m c2) R) := Row.kept (HDq.out.alloc _) g' (fun q hq e => by have h1 := HRB.out q hq; have h2 := hap.out q e; omega)
          have A' : Hid (∀ q, v'.ownBlock = some q → q = w.heap.size ∨ w1.heap.size ≤ q) := fun q hq => by
            rcases o' with e | e
            · rw [e] at hq; exact hap.out q hq
            · rw [e] at hq; injection hq with hq; first | omega | (simp at hq; omega)
          have z' : w1.heap.size ≤ w'.heap.size := by have := (Only.of_grown g').size; simp at this; omega
          clear r' g' o' q1
          go_wp2
          go_roundw
          case rel => exact ⟨0 + 1, by omega, by go_num, R', D', A', z', B'⟩
          case measure => first | (simp [intOf]; done) | (simp [intOf]; omega)
        · have hne : nC R k ≠ nC R (k - 1) := h0.resolve_left hk00
          obtain ⟨j, hj⟩ : ∃ j, k - 1 = j := ⟨_, rfl⟩
          have hjm : j < m := by omega
          obtain ⟨b', o', e', _, c3⟩ := hl1 j hjm
          cases e'
          rw [hj] at hne
          have hkw : IntKind.i64.wrap ((k : Int) - 1) = (j : Int) := (IntWalk.i64_in _ (by omega)).trans (by omega)
          have hj0 : (0 : Int) ≤ (j : Int) := by omega
          have hj1 : (j : Int) < (m : Int) := by omega
          have hkz : ((k : Int) == 0) = false := by rw [beq_eq_false_iff_ne]; omega
          generalize nC R k = x at c1 HN hne
          generalize nC R j = y at c3 hne
          have hb1 : (x.toList == y.toList) = false := by
            rw [beq_eq_false_iff_ne]
            intro e
            rw [ByteArray.toList_eq, ByteArray.toList_eq] at e
            exact hne (WideShapes.bytes_inj e)
          have hb2 : (x.toList != y.toList) = true := by rw [bne, hb1]; rfl
          clear hl1 h0 hj hne
          go_wp2_with fail
          go_quiet (fail)
          have hbq : Below wr.heap.size wr (wr.drewN nq) := ⟨rfl, rfl, rfl, Nat.le_refl _, fun _ _ => rfl⟩
          have HRq := Lib.hid (hrow.out.below hbq)
          have HDq := Lib.hid (hd.out.on hbq)
          have HBq0 := Lib.hid (sstep hbw0.out hbq)
          have q1 : (wr.drewN nq).cell? _ = _ := c1
          have hzq : w1.heap.size ≤ (wr.drewN nq).heap.size := hz1
          clear hbq c1 c3 hrow hd
          generalize wr.drewN nq = wd at HRq HDq HBq0 q1 hzq ⊢
          have hzd := HBq0.out.size
          go_wp2_with (at_builtin; refine wpList_append_string _ rfl _ _ rfl w.heap.size (.slice a5 KK.length c5) KK rfl (HRq.out.alloc _) _ x rfl ?_ (by omega) (by simp; omega) ?_)
          · simp [go_sem]
          intro v' w' r' g' o'
          rw [HN.out] at r'
          have R' := Lib.hid r'
          have B' : Hid (Below w.heap.size w w') := (HBq0.out.alloc hzd _).grown g' (by simp; omega) (fun q e => (HRq.out.lt q e).1)
          have D' : Hid (Row w' (w.heap.size + 1) (.slice (some ⟨b, o, none⟩) m c2) R) := Row.kept (HDq.out.alloc _) g' (fun q hq e => by have h1 := HRB.out q hq; have h2 := hap.out q e; omega)
          have A' : Hid (∀ q, v'.ownBlock = some q → q = w.heap.size ∨ w1.heap.size ≤ q) := fun q hq => by
            rcases o' with e | e
            · rw [e] at hq; exact hap.out q hq
            · rw [e] at hq; injection hq with hq; first | omega | (simp at hq; omega)
          have z' : w1.heap.size ≤ w'.heap.size := by have := (Only.of_grown g').size; simp at this; omega
          clear r' g' o' q1
          go_wp2
          go_roundw
          case rel => exact ⟨k + 1, by omega, by go_num, R', D', A', z', B'⟩
          case measure => first | (simp [intOf]; done) | (simp [intOf]; omega)
      · have hk00 : ¬ k = 0 := fun e => h0 (Or.inl e)
        have hne : nC R k = nC R (k - 1) := Classical.byContradiction fun e => h0 (Or.inr e)
        have HN : Hid (M.codesTo (nC R) k = M.codesTo (nC R) (k + 1)) := (M.codesTo_no h0).symm
        obtain ⟨j, hj⟩ : ∃ j, k - 1 = j := ⟨_, rfl⟩
        have hjm : j < m := by omega
        obtain ⟨b', o', e', _, c3⟩ := hl1 j hjm
        cases e'
        rw [hj] at hne
        have hkw : IntKind.i64.wrap ((k : Int) - 1) = (j : Int) := (IntWalk.i64_in _ (by omega)).trans (by omega)
        have hj0 : (0 : Int) ≤ (j : Int) := by omega
        have hj1 : (j : Int) < (m : Int) := by omega
        have hkz : ((k : Int) == 0) = false := by rw [beq_eq_false_iff_ne]; omega
        generalize nC R k = x at c1 hne
        generalize nC R j = y at c3 hne
        subst hne
        have hb1 : (x.toList == x.toList) = true := by simp
        have hb2 : (x.toList != x.toList) = false := by rw [bne, hb1]; rfl
        have hr2 := hrow.out
        rw [HN.out] at hr2
        have HR2 := Lib.hid hr2
        clear hl1 h0 hj c0 hr2 hrow HN hle
        go_wp2_with fail
        go_quiet (fail)
        go_wp2
        go_roundw
        case rel => exact ⟨k + 1, by omega, by go_num, HR2.out.below ⟨rfl, rfl, rfl, Nat.le_refl _, fun _ _ => rfl⟩, hd.out.on ⟨rfl, rfl, rfl, Nat.le_refl _, fun _ _ => rfl⟩, hap, hz1, sstep hbw0.out ⟨rfl, rfl, rfl, Nat.le_refl _, fun _ _ => rfl⟩⟩
        case measure => first | (simp [intOf]; done) | (simp [intOf]; omega)
    · obtain rfl : k = m := by omega
      have hr := hrow.out
      rw [← HCL.out] at hr
      have HR := Lib.hid hr
      clear hr
      go_wp2
      go_ret
      exact ⟨_, rfl, HR.out, hbw0.out⟩
end Go.Proofs.Ytedhenffolfkeaa
