/-
  A slice of numbers, sorted by the program's library, and a number put into an ascending slice by the model.
-/
import Derived.Test.YtlamckdnnnifcaaInsIM
import Derived.Test.YtlamckdnnnifcaaNumA
import Derived.Test.YtlamckdnnnifcaaShelf
namespace Go.Proofs.Ytlamckdnnnifcaa
open Go.RowKit
open Go.Sort (grow putRow putCells mapBlock onCells)
open Go.PlainAid (bt get_bt bt_nonneg bt_le)
set_option linter.unusedVariables false

/-- A slice of numbers that the call has made. -/
def NRowOut (w : World) (L : List Int) (e : Ending) (w' : World) : Prop := ∃ v, e = .returned v ∧ IRow w' w.heap.size v L ∧ Below w.heap.size w w'
set_option maxHeartbeats 1000000 in
theorem sort_ints (w : World) (base : Nat) (v : Value) (L : List Int) (h : IRow w base v L) (hn : L.length ≤ 1048576) :
    Calls Try.prog 34 #[v] w fun e w' => e = .returned (.tuple #[]) ∧ IRow w' base v (M.insAlli L) ∧ w.grownBy w' v.ownBlock := by
  rcases h.cases with ⟨rfl, rfl⟩ | ⟨g, c, rfl, hbg, hgl, hLc⟩
  · refine (Try.slices_Sort_int_none none 0 w).mono fun e w' he => ?_
    obtain ⟨rfl, rfl⟩ := he
    exact ⟨rfl, IRow.nil _ _, World.grownBy.refl _ _⟩
  · have hH : Go.Sort.Holds (Value.int .i64) w g 0 (L).toArray := fun j hj => by
      have hj' : j < L.length := by simpa using hj
      rw [Nat.zero_add]
      refine ⟨?_, World.ownsRow.frozenAt h j⟩
      rw [World.ownsRow.cellAt h j (by omega), icells_at L j hj']
      simp only [List.getElem!_toArray, List.getElem!_eq_getElem?_getD, List.getElem?_eq_getElem hj', Option.getD_some]
    have hc := Try.slices_Sort_int g 0 c (L) w hH hgl (by omega)
    refine hc.mono fun e w' he => ?_
    obtain ⟨rfl, n, os, hw⟩ := he
    rw [M.insAlli_sort] at hw
    have hlen := M.insAlli_len L
    obtain ⟨h1, h2⟩ := h
    rcases h2 with ⟨e, _⟩ | ⟨g', cap, cur, e, _, hg, hnc, hcm, hcs, htk⟩
    · cases e
    · injection e with e1 _ e3
      injection e1 with e1
      injection e1 with e1
      subst e1 e3
      have hg' : w'.heap[g]? = some (.cells (putCells (Value.int .i64) 0 ((M.insAlli L)).toArray cur) 3 (0, 0)) := by
        rw [hw, Go.Sort.heap_grow_old _ _ (by unfold putRow mapBlock Go.Sort.ahead; simp; exact hgl)]
        unfold putRow mapBlock Go.Sort.ahead
        simp only [Array.getElem?_modify, if_true, hg, Option.map_some, onCells]
      have hother : ∀ k, k < w.heap.size → k ≠ g → w'.heap[k]? = w.heap[k]? := fun k hk hne => by
        rw [hw, Go.Sort.heap_grow_old _ _ (by unfold putRow mapBlock Go.Sort.ahead; simp; exact hk)]
        unfold putRow mapBlock Go.Sort.ahead
        simp only [Array.getElem?_modify]
        rw [if_neg (fun e => hne e.symm)]
      refine ⟨rfl, ⟨by rw [icells_length, Nat.mul_one], Or.inr ⟨g, c, _, ?_, hbg, hg', by rw [hlen]; exact hnc, hcm, ?_, ?_⟩⟩, ?_⟩
      · rw [hlen]
      · unfold putCells
        rw [Array.size_mapIdx]
        exact hcs
      · rw [hlen, Nat.mul_one]
        apply List.ext_getElem?
        intro j
        by_cases hj : j < L.length
        · have hj2 : j < (M.insAlli L).length := by rw [hlen]; exact hj
          rw [List.getElem?_take_of_lt hj, icells_at _ j hj2, Array.getElem?_toList]
          unfold putCells
          rw [Array.getElem?_mapIdx, Array.getElem?_eq_getElem (by omega), Option.map_some, if_pos ⟨Nat.zero_le _, by simp; omega⟩]
          simp only [Nat.sub_zero, List.getElem!_toArray, List.getElem!_eq_getElem?_getD, List.getElem?_eq_getElem hj2, Option.getD_some]
        · rw [List.getElem?_eq_none (by rw [List.length_take]; omega), List.getElem?_eq_none (by rw [icells_length, hlen]; omega)]
      · refine ⟨by rw [hw]; rfl, by rw [hw]; rfl, by rw [hw]; rfl, ?_, fun k hk hne => hother k hk fun e => hne (by rw [e]; rfl)⟩
        rw [hw, Go.Sort.size_grow]
        unfold putRow mapBlock Go.Sort.ahead
        simp

theorem take_gz (L : List Int) (j : Nat) (h : j < L.length) : L.take (j + 1) = L.take j ++ [MW.gz L j] := by
  rw [List.take_succ_eq_append_getElem h, MW.gz_at h]
theorem itake_length {L : List Int} {j : Nat} (h : j ≤ L.length) : (L.take j).length = j := by rw [List.length_take]; omega
theorem ibelow_grown {W w w1 : World} {base : Nat} {v : Value} {L : List Int} (hb : Below W.heap.size W w) (h : IRow w base v L) (hbase : W.heap.size ≤ base) (hg : w.grownBy w1 v.ownBlock) : Below W.heap.size W w1 :=
  hb.grown hg hb.size fun k hk => Nat.le_trans hbase (h.lt k hk).1

set_option maxHeartbeats 2000000 in
set_option maxRecDepth 100000 in
theorem spec_l7Insert (w : World) (a : Option Addr) (n c : Nat) (L : List Int) (h : Nums w a L) (hL : L.length = n) (hn : n ≤ 1048575) (s : Int) :
    Calls Try.prog 37 #[.slice a n c, .int .i64 s] w (NRowOut w (M.insLi s L)) := by
  have HL := Lib.hid h
  have E0 := Lib.hid (one_irow w)
  have B0 := Lib.hid (below_alloc0 w (.cells #[] 3))
  clear h
  go_enter Try.func37, Try.ntmps37
  go_wp2
  go_loopw [5, 6, 7] (fun q d i wr => ∃ j : Nat, j ≤ n ∧ i = .int .i64 j ∧ d = .bool (M.insBi s (L.take j)) ∧ Hid (IRow wr w.heap.size q (M.insOi s (L.take j))) ∧ Hid (Below w.heap.size w wr)) (fun _ _ i _ => n - (intOf i).toNat)
  case atStart => exact ⟨0, Nat.zero_le _, rfl, rfl, E0, B0⟩
  case round =>
    obtain ⟨j, hj, rfl, rfl, hrow, hb⟩ := hrel
    have hz := hb.out.size
    have hle := M.insOi_len s (L.take j)
    rw [itake_length (by omega)] at hle
    by_cases hlt : j < n
    · obtain ⟨b, o, rfl, c0⟩ := (HL.out.on hb.out) j (by omega)
      have hs := Lib.hid (take_gz L j (by omega))
      cases hd : M.insBi s (L.take j)
      · cases hx : M.lti s (MW.gz L j)
        · obtain ⟨e1, e2⟩ := M.insOi_on hd hx
          have E1 := Lib.hid e1
          have E2 := Lib.hid e2
          have hx' : decide (s < MW.gz L j) = false := hx
          clear hd e1 e2 hx
          go_wp2_with (at_builtin; refine wpList_append_int _ rfl _ _ rfl w.heap.size _ _ rfl (hrow.out.alloc _) _ (MW.gz L j) rfl ?_ (by omega) (by simp; omega) ?_)
          · simp [go_sem]
          · intro v' w3 hr3 hg3 ho3
            have q3 := Lib.hid (ibelow_grown (W := w) (hb.out.alloc hz _) (hrow.out.alloc _) (Nat.le_refl _) hg3)
            have R3 := Lib.hid hr3
            clear hr3 hg3 ho3
            go_wp2
            go_roundw
            case rel => exact ⟨j + 1, by omega, by go_num, by rw [hs.out, E2.out], by rw [hs.out, E1.out]; exact R3, q3⟩
            case measure => simp [intOf]; omega
        · obtain ⟨e1, e2⟩ := M.insOi_here hd hx
          have E1 := Lib.hid e1
          have E2 := Lib.hid e2
          have hx' : decide (s < MW.gz L j) = true := hx
          clear hd e1 e2 hx
          go_wp2_with (at_builtin; refine wpList_append_int _ rfl _ _ rfl w.heap.size _ _ rfl (hrow.out.alloc _) _ s rfl ?_ (by omega) (by simp; omega) ?_)
          · simp [go_sem]
          · intro v' w3 hr3 hg3 ho3
            have q3 := Lib.hid (ibelow_grown (W := w) (hb.out.alloc hz _) (hrow.out.alloc _) (Nat.le_refl _) hg3)
            have hz3 := q3.out.size
            have R3 := Lib.hid hr3
            obtain ⟨b', o', e3, c3⟩ := (HL.out.on q3.out) j (by omega)
            cases e3
            clear hr3 hg3 ho3
            go_wp2_with (at_builtin; refine wpList_append_int _ rfl _ _ rfl w.heap.size _ _ rfl (R3.out.alloc _) _ (MW.gz L j) rfl ?_ (by simp; omega) (by simp; omega) ?_)
            · simp [go_sem]
            · intro v4 w4 hr4 hg4 ho4
              have q4 := Lib.hid (ibelow_grown (W := w) (q3.out.alloc hz3 _) (R3.out.alloc _) (Nat.le_refl _) hg4)
              have R4 := Lib.hid hr4
              clear hr4 hg4 ho4
              go_wp2
              go_roundw
              case rel => exact ⟨j + 1, by omega, by go_num, by rw [hs.out, E2.out], by rw [hs.out, E1.out, List.append_assoc]; exact R4, q4⟩
              case measure => simp [intOf]; omega
      · obtain ⟨e1, e2⟩ := M.insOi_done (x := MW.gz L j) hd
        have E1 := Lib.hid e1
        have E2 := Lib.hid e2
        clear hd e1 e2
        go_wp2_with (at_builtin; refine wpList_append_int _ rfl _ _ rfl w.heap.size _ _ rfl (hrow.out.alloc _) _ (MW.gz L j) rfl ?_ (by omega) (by simp; omega) ?_)
        · simp [go_sem]
        · intro v' w3 hr3 hg3 ho3
          have q3 := Lib.hid (ibelow_grown (W := w) (hb.out.alloc hz _) (hrow.out.alloc _) (Nat.le_refl _) hg3)
          have R3 := Lib.hid hr3
          clear hr3 hg3 ho3
          go_wp2
          go_roundw
          case rel => exact ⟨j + 1, by omega, by go_num, by rw [hs.out, E2.out], by rw [hs.out, E1.out]; exact R3, q3⟩
          case measure => simp [intOf]; omega
    · obtain rfl : j = n := by omega
      have ht : L.take j = L := List.take_of_length_le (by omega)
      rw [ht] at hrow hle ⊢
      clear ht
      cases hd : M.insBi s L
      · have E1 := Lib.hid (M.insOi_no hd)
        clear hd
        go_wp2_with (at_builtin; refine wpList_append_int _ rfl _ _ rfl w.heap.size _ _ rfl (hrow.out.alloc _) _ s rfl ?_ (by omega) (by simp; omega) ?_)
        · simp [go_sem]
        · intro v' w3 hr3 hg3 ho3
          have q3 := Lib.hid (ibelow_grown (W := w) (hb.out.alloc hz _) (hrow.out.alloc _) (Nat.le_refl _) hg3)
          have R3 := Lib.hid hr3
          clear hr3 hg3 ho3
          go_wp2
          go_ret
          exact ⟨_, rfl, by rw [E1.out]; exact R3.out, q3.out⟩
      · have E1 := Lib.hid (M.insOi_yes hd)
        clear hd
        go_wp2
        go_ret
        exact ⟨_, rfl, by rw [E1.out]; exact hrow.out, hb.out⟩
end Go.Proofs.Ytlamckdnnnifcaa
