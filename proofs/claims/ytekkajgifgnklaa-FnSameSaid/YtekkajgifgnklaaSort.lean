/-
  A slice of strings, sorted by the program's library, and a string put into an ascending slice by the model.
-/
import Derived.Test.YtekkajgifgnklaaMgA3
import Derived.Test.YtekkajgifgnklaaSCat
import Derived.Test.YtekkajgifgnklaaMarkS
import Derived.Test.YtekkajgifgnklaaShelf
namespace Go.Proofs.Ytekkajgifgnklaa
open Go.RowKit
open Go.Sort (grow putRow putCells mapBlock onCells)
open Go.PlainAid (bt get_bt bt_nonneg bt_le)
set_option linter.unusedVariables false

theorem enc_bl (s : ByteArray) : encStr (M.bl s) = .string s := by
  unfold M.bl
  simp only [encStr, Array.toArray_toList]
theorem SRow.lower {w : World} {base base' : Nat} {v : Value} {L : List ByteArray} (h : SRow w base v L) (hb : base' ≤ base) : SRow w base' v L := h.base hb
set_option maxHeartbeats 1000000 in
theorem sort_strings (w : World) (base : Nat) (v : Value) (L : List ByteArray) (h : SRow w base v L) (hn : L.length ≤ 1048576) :
    Calls Try.prog 40 #[v] w fun e w' => e = .returned (.tuple #[]) ∧ SRow w' base v (M.insAll L) ∧ w.grownBy w' v.ownBlock := by
  rcases h.cases with ⟨rfl, rfl⟩ | ⟨g, c, rfl, hbg, hgl, hLc⟩
  · refine (Try.slices_Sort_string_none none 0 w).mono fun e w' he => ?_
    obtain ⟨rfl, rfl⟩ := he
    exact ⟨rfl, SRow.nil _ _, World.grownBy.refl _ _⟩
  · have hH : Go.Sort.Holds encStr w g 0 (L.map M.bl).toArray := fun j hj => by
      have hj' : j < L.length := by simpa using hj
      have := h.cellAt j hj'
      rw [Nat.zero_add]
      refine ⟨?_, this.2⟩
      rw [this.1]
      simp only [List.getElem!_toArray, List.getElem!_eq_getElem?_getD, List.getElem?_map, List.getElem?_eq_getElem hj', Option.map_some, Option.getD_some, enc_bl]
    have hc := Try.slices_Sort_string g 0 c (L.map M.bl) w hH hgl (by rw [List.length_map]; omega)
    rw [List.length_map] at hc
    refine hc.mono fun e w' he => ?_
    obtain ⟨rfl, n, os, hw⟩ := he
    rw [M.insAll_sort] at hw
    have hlen := M.insAll_len L
    obtain ⟨h1, h2⟩ := h
    rcases h2 with ⟨e, _⟩ | ⟨g', cap, cur, e, _, hg, hnc, hcm, hcs, htk⟩
    · cases e
    · injection e with e1 _ e3
      injection e1 with e1
      injection e1 with e1
      subst e1 e3
      have hg' : w'.heap[g]? = some (.cells (putCells encStr 0 ((M.insAll L).map M.bl).toArray cur) 9 (0, 0)) := by
        rw [hw, Go.Sort.heap_grow_old _ _ (by unfold putRow mapBlock Go.Sort.ahead; simp; exact hgl)]
        unfold putRow mapBlock Go.Sort.ahead
        simp only [Array.getElem?_modify, if_true, hg, Option.map_some, onCells]
      have hother : ∀ k, k < w.heap.size → k ≠ g → w'.heap[k]? = w.heap[k]? := fun k hk hne => by
        rw [hw, Go.Sort.heap_grow_old _ _ (by unfold putRow mapBlock Go.Sort.ahead; simp; exact hk)]
        unfold putRow mapBlock Go.Sort.ahead
        simp only [Array.getElem?_modify]
        rw [if_neg (fun e => hne e.symm)]
      refine ⟨rfl, ⟨by rw [scells_length, Nat.mul_one], Or.inr ⟨g, c, _, ?_, hbg, hg', by rw [hlen]; exact hnc, hcm, ?_, ?_⟩⟩, ?_⟩
      · rw [hlen]
      · unfold putCells
        rw [Array.size_mapIdx]
        exact hcs
      · rw [hlen, Nat.mul_one]
        apply List.ext_getElem?
        intro j
        by_cases hj : j < L.length
        · have hj2 : j < (M.insAll L).length := by rw [hlen]; exact hj
          rw [List.getElem?_take_of_lt hj, scells_at _ j hj2, Array.getElem?_toList]
          unfold putCells
          rw [Array.getElem?_mapIdx, Array.getElem?_eq_getElem (by omega), Option.map_some, if_pos ⟨Nat.zero_le _, by simp; omega⟩]
          simp only [Nat.sub_zero, List.getElem!_toArray, List.getElem!_eq_getElem?_getD, List.getElem?_map, List.getElem?_eq_getElem hj2, Option.map_some, Option.getD_some, enc_bl]
        · rw [List.getElem?_eq_none (by rw [List.length_take]; omega), List.getElem?_eq_none (by rw [scells_length, hlen]; omega)]
      · refine ⟨by rw [hw]; rfl, by rw [hw]; rfl, by rw [hw]; rfl, ?_, fun k hk hne => hother k hk fun e => hne (by rw [e]; rfl)⟩
        rw [hw, Go.Sort.size_grow]
        unfold putRow mapBlock Go.Sort.ahead
        simp

def SRowOut (w : World) (L : List ByteArray) (e : Ending) (w' : World) : Prop := ∃ v, e = .returned v ∧ SRow w' w.heap.size v L ∧ Below w.heap.size w w'
theorem sst_succ (S : Nat → ByteArray) (n : Nat) : sst S (n + 1) = sst S n ++ [S n] := by
  unfold sst
  rw [List.range_succ, List.map_append]; rfl
theorem sbelow_grown {W w w1 : World} {base : Nat} {v : Value} {L : List ByteArray} (hb : Below W.heap.size W w) (h : SRow w base v L) (hbase : W.heap.size ≤ base) (hg : w.grownBy w1 v.ownBlock) : Below W.heap.size W w1 :=
  hb.grown hg hb.size fun k hk => Nat.le_trans hbase (h.lt k hk).1

set_option maxHeartbeats 2000000 in
set_option maxRecDepth 100000 in
theorem spec_l4Insert (w : World) (a : Option Addr) (n c : Nat) (S : Nat → ByteArray) (h : Strs w a n S) (hn : n ≤ 1048575) (s : ByteArray) :
    Calls Try.prog 55 #[.slice a n c, .string s] w (SRowOut w (M.insL s (sst S n))) := by
  have HL := Lib.hid h
  have E0 := Lib.hid (sone_empty w)
  have B0 := Lib.hid (below_alloc0 w (.cells #[] 9))
  clear h
  go_enter Try.func55, Try.ntmps55
  go_wp2
  go_loopw [5, 6, 7] (fun q d i wr => ∃ j : Nat, j ≤ n ∧ i = .int .i64 j ∧ d = .bool (M.insB s (sst S j)) ∧ Hid (SRow wr w.heap.size q (M.insO s (sst S j))) ∧ Hid (Below w.heap.size w wr)) (fun _ _ i _ => n - (intOf i).toNat)
  case atStart => exact ⟨0, Nat.zero_le _, rfl, rfl, E0, B0⟩
  case round =>
    obtain ⟨j, hj, rfl, rfl, hrow, hb⟩ := hrel
    have hz := hb.out.size
    have hle := M.insO_len s (sst S j)
    rw [sst_length] at hle
    by_cases hlt : j < n
    · obtain ⟨b, o, rfl, c0⟩ := (HL.out.on hb.out) j hlt
      have hs := Lib.hid (sst_succ S j)
      cases hd : M.insB s (sst S j)
      · cases hx : M.less s (S j)
        · obtain ⟨e1, e2⟩ := M.insO_on hd hx
          have E1 := Lib.hid e1
          have E2 := Lib.hid e2
          have hx' : Op.bytesLess s.toList (S j).toList = false := hx
          clear hd e1 e2 hx
          go_wp2_with (at_builtin; refine wpList_append_string _ rfl _ _ rfl w.heap.size _ _ rfl (hrow.out.alloc _) _ (S j) rfl ?_ (by omega) (by simp; omega) ?_)
          · simp [go_sem]
          · intro v' w3 hr3 hg3 ho3
            have q3 := Lib.hid (sbelow_grown (W := w) (hb.out.alloc hz _) (hrow.out.alloc _) (Nat.le_refl _) hg3)
            have R3 := Lib.hid hr3
            clear hr3 hg3 ho3
            go_wp2
            go_roundw
            case rel => exact ⟨j + 1, by omega, by go_num, by rw [hs.out, E2.out], by rw [hs.out, E1.out]; exact R3, q3⟩
            case measure => simp [intOf]; omega
        · obtain ⟨e1, e2⟩ := M.insO_here hd hx
          have E1 := Lib.hid e1
          have E2 := Lib.hid e2
          have hx' : Op.bytesLess s.toList (S j).toList = true := hx
          clear hd e1 e2 hx
          go_wp2_with (at_builtin; refine wpList_append_string _ rfl _ _ rfl w.heap.size _ _ rfl (hrow.out.alloc _) _ s rfl ?_ (by omega) (by simp; omega) ?_)
          · simp [go_sem]
          · intro v' w3 hr3 hg3 ho3
            have q3 := Lib.hid (sbelow_grown (W := w) (hb.out.alloc hz _) (hrow.out.alloc _) (Nat.le_refl _) hg3)
            have hz3 := q3.out.size
            have R3 := Lib.hid hr3
            obtain ⟨b', o', e3, c3⟩ := (HL.out.on q3.out) j hlt
            cases e3
            clear hr3 hg3 ho3
            go_wp2_with (at_builtin; refine wpList_append_string _ rfl _ _ rfl w.heap.size _ _ rfl (R3.out.alloc _) _ (S j) rfl ?_ (by simp; omega) (by simp; omega) ?_)
            · simp [go_sem]
            · intro v4 w4 hr4 hg4 ho4
              have q4 := Lib.hid (sbelow_grown (W := w) (q3.out.alloc hz3 _) (R3.out.alloc _) (Nat.le_refl _) hg4)
              have R4 := Lib.hid hr4
              clear hr4 hg4 ho4
              go_wp2
              go_roundw
              case rel => exact ⟨j + 1, by omega, by go_num, by rw [hs.out, E2.out], by rw [hs.out, E1.out, List.append_assoc]; exact R4, q4⟩
              case measure => simp [intOf]; omega
      · obtain ⟨e1, e2⟩ := M.insO_done (x := S j) hd
        have E1 := Lib.hid e1
        have E2 := Lib.hid e2
        clear hd e1 e2
        go_wp2_with (at_builtin; refine wpList_append_string _ rfl _ _ rfl w.heap.size _ _ rfl (hrow.out.alloc _) _ (S j) rfl ?_ (by omega) (by simp; omega) ?_)
        · simp [go_sem]
        · intro v' w3 hr3 hg3 ho3
          have q3 := Lib.hid (sbelow_grown (W := w) (hb.out.alloc hz _) (hrow.out.alloc _) (Nat.le_refl _) hg3)
          have R3 := Lib.hid hr3
          clear hr3 hg3 ho3
          go_wp2
          go_roundw
          case rel => exact ⟨j + 1, by omega, by go_num, by rw [hs.out, E2.out], by rw [hs.out, E1.out]; exact R3, q3⟩
          case measure => simp [intOf]; omega
    · obtain rfl : j = n := by omega
      cases hd : M.insB s (sst S j)
      · have E1 := Lib.hid (M.insO_no hd)
        clear hd
        go_wp2_with (at_builtin; refine wpList_append_string _ rfl _ _ rfl w.heap.size _ _ rfl (hrow.out.alloc _) _ s rfl ?_ (by omega) (by simp; omega) ?_)
        · simp [go_sem]
        · intro v' w3 hr3 hg3 ho3
          have q3 := Lib.hid (sbelow_grown (W := w) (hb.out.alloc hz _) (hrow.out.alloc _) (Nat.le_refl _) hg3)
          have R3 := Lib.hid hr3
          clear hr3 hg3 ho3
          go_wp2
          go_ret
          exact ⟨_, rfl, by rw [E1.out]; exact R3.out, q3.out⟩
      · have E1 := Lib.hid (M.insO_yes hd)
        clear hd
        go_wp2
        go_ret
        exact ⟨_, rfl, by rw [E1.out]; exact hrow.out, hb.out⟩
end Go.Proofs.Ytekkajgifgnklaa
