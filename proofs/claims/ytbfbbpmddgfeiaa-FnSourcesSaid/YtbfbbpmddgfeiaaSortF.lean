/-
  Orders sorted by the program's library; direct orders and sources, in the program.
-/
import Derived.Test.YtbfbbpmddgfeiaaDir
import Derived.Test.YtbfbbpmddgfeiaaShelf
namespace Go.Proofs.Ytbfbbpmddgfeiaa
open Go.RowKit Go.Maps
open Go.Sort (grow putRow putCells mapBlock onCells)
open Go.Sort (flatK get_flatK size_flatK HoldsK putRowK)
open Go.PlainAid (bt get_bt bt_nonneg bt_le)
set_option linter.unusedVariables false

set_option maxHeartbeats 1000000 in
set_option maxRecDepth 100000 in
theorem cmp_isNaN (x : ByteArray) (w : World) : Calls Try.prog 91 #[.string x] w fun e w' => e = .returned (.bool false) ∧ w' = w := by
  have hd : (x.toList == x.toList) = true := by simp
  go_enter Try.func91, Try.ntmps91
  go_wp2
  go_ret
  exact ⟨rfl, rfl⟩
def M.cmpB (a b : ByteArray) : Int := if less a b then -1 else if !(less a b || a.toList == b.toList) then 1 else 0
set_option maxHeartbeats 1000000 in
set_option maxRecDepth 100000 in
theorem cmp_Compare (x y : ByteArray) (w : World) : Calls Try.prog 71 #[.string x, .string y] w fun e w' => e = .returned (.int .i64 (M.cmpB x y)) ∧ w' = w := by
  cases h1 : M.less x y
  · cases h2 : (x.toList == y.toList)
    · have hv : Hid (M.cmpB x y = 1) := by unfold Hid M.cmpB; rw [h1, h2]; rfl
      have h1' : Op.bytesLess x.toList y.toList = false := h1
      clear h1
      go_enter Try.func71, Try.ntmps71
      go_wp2_with (go_at_call 91; refine (cmp_isNaN _ _).mono ?_; rintro e w1 ⟨rfl, rfl⟩)
      go_ret
      exact ⟨by rw [hv.out]; rfl, rfl⟩
    · have hv : Hid (M.cmpB x y = 0) := by unfold Hid M.cmpB; rw [h1, h2]; rfl
      have h1' : Op.bytesLess x.toList y.toList = false := h1
      clear h1
      go_enter Try.func71, Try.ntmps71
      go_wp2_with (go_at_call 91; refine (cmp_isNaN _ _).mono ?_; rintro e w1 ⟨rfl, rfl⟩)
      go_ret
      exact ⟨by rw [hv.out]; rfl, rfl⟩
  · have hv : Hid (M.cmpB x y = -1) := by unfold Hid M.cmpB; rw [h1]; rfl
    have h1' : Op.bytesLess x.toList y.toList = true := h1
    clear h1
    go_enter Try.func71, Try.ntmps71
    go_wp2_with (go_at_call 91; refine (cmp_isNaN _ _).mono ?_; rintro e w1 ⟨rfl, rfl⟩)
    go_ret
    exact ⟨by rw [hv.out]; rfl, rfl⟩
def encF (x : ByteArray × ByteArray) : List Value := [.string x.1, .string x.2]
set_option maxHeartbeats 1000000 in
set_option maxRecDepth 100000 in
theorem cmp_forwards (x y : ByteArray × ByteArray) (W : World) : Calls Try.prog 70 #[.agg #[.string x.1, .string x.2], .agg #[.string y.1, .string y.2]] W fun e w' => e = .returned (.int .i64 (M.cmpF x y)) ∧ ∃ q os', w' = grow (W.drewN q) os' := by
  have hv : Hid (M.cmpB x.1 y.1 = M.cmpF x y) := rfl
  have hcon := fun W' => cmp_Compare x.1 y.1 W'
  rw [hv.out] at hcon
  generalize M.cmpF x y = r at hcon ⊢
  go_enter Try.func70, Try.ntmps70
  go_wp2_with (go_at_call 71; refine (hcon _).mono ?_; rintro e w' ⟨rfl, rfl⟩)
  go_ret
  exact ⟨rfl, 0, _, by rw [Go.Sort.alloc_eq_grow, Go.Sort.alloc_eq_grow, Go.Sort.grow_grow]; rfl⟩
theorem cmpLaysF (blk off size : Nat) (w : World) : CmpLays Try.prog 70 #[] encF 2 M.cmpF blk off size w := fun _ _ _ _ x y => cmp_forwards x y _

/-- The flat cells of some orders. -/
theorem flat_fcells (L : List (ByteArray × ByteArray)) (t : Nat) (ht : t < L.length * 2) : (fcells L)[t]? = some ((flatK encF 2 L.toArray)[t]!) := by
  rw [get_flatK encF 2 L.toArray t (by simpa using ht)]
  have hq : t / 2 < L.length := by omega
  have hat := fcells_at L (t / 2) hq
  have hg : L.toArray[t / 2]! = L[t / 2] := by rw [getElem!_pos _ _ (by simpa using hq)]; simp
  rw [hg]
  have hm : t % 2 = 0 ∨ t % 2 = 1 := by omega
  rcases hm with e | e
  · have e2 : t = t / 2 * 2 := by omega
    rw [e]
    rw [← e2] at hat
    exact hat.1
  · have e2 : t = t / 2 * 2 + 1 := by omega
    rw [e]
    rw [← e2] at hat
    exact hat.2

set_option maxHeartbeats 1000000 in
set_option maxRecDepth 100000 in
theorem sort_forwards (w : World) (base : Nat) (v : Value) (L : List (ByteArray × ByteArray)) (h : FRow w base v L) (hn : L.length ≤ 1048576) :
    Calls Try.prog 69 #[v, .func (.func 70) #[] #[]] w fun e w' => e = .returned (.tuple #[]) ∧ ∃ L', L'.Perm L ∧ M.Up2 L' ∧ FRow w' base v L' ∧ w.grownBy w' v.ownBlock := by
  rcases h.cases with ⟨rfl, rfl⟩ | ⟨g, c, rfl, hbg, hgl⟩
  · refine (AnyF.slices_SortFunc_none { Try.sortFwd with } none 0 (.func (.func 70) #[] #[]) w).mono fun e w' he => ?_
    obtain ⟨rfl, rfl⟩ := he
    exact ⟨rfl, [], List.Perm.refl _, List.Pairwise.nil, FRow.nil _ _, World.grownBy.refl _ _⟩
  · have hrow : w.ownsRow base 30 2 (.slice (some ⟨g, 0, none⟩) L.length c) L.length (fcells L) := h
    have hH : HoldsK encF 2 w g 0 L.toArray := fun t ht => by
      have ht' : t < L.length * 2 := by simpa using ht
      rw [Nat.zero_add]
      refine ⟨?_, World.ownsRow.frozenAt hrow t⟩
      rw [World.ownsRow.cellAt hrow t ht', flat_fcells L t ht']
      rfl
    have eg : ∀ args w, (callFunc 70 args).run Try.prog w = .ok (.enter 70 args) w := enters_of Try.func70 (by kernel_rfl) rfl
    have hcon := AnyQ.slices_SortFunc Try.sortFwd 2 Try.isAgg30 Try.sizeOf30 encF (fun _ => rfl) (fun x v hv => by simp [encF] at hv; rcases hv with rfl | rfl <;> rfl) M.cmpF M.cmpF_swo 70 #[] g 0 c L.toArray w eg (cmpLaysF g 0 L.toArray.size w) hH hgl (by simp; omega)
    have hsz0 : L.toArray.size = L.length := by simp
    rw [hsz0] at hcon
    refine hcon.mono fun e w' he => ?_
    obtain ⟨rfl, d', n, os, hp, hs, hw⟩ := he
    have hds : d'.size = L.length := by rw [hp.1]; simp
    have hlen : d'.toList.length = L.length := by rw [Array.length_toList]; exact hds
    have hperm : d'.toList.Perm L := by
      have := hp.2.2
      rw [show d'.extract 0 L.length = d' from by rw [← hds]; exact Array.extract_size, show L.toArray.extract 0 L.length = L.toArray from by rw [← hsz0]; exact Array.extract_size] at this
      simpa using this
    obtain ⟨h1, h2⟩ := h
    rcases h2 with ⟨e, _⟩ | ⟨g', cap, cur, e, _, hg, hnc, hcm, hcs, htk⟩
    · cases e
    · injection e with e1 _ e3
      injection e1 with e1
      injection e1 with e1
      subst e1 e3
      have hg' : w'.heap[g]? = some (.cells (putCells id 0 (flatK encF 2 d') cur) 30 (0, 0)) := by
        rw [hw]
        unfold sortWorldK
        rw [Go.Sort.heap_grow_old _ _ (by unfold putRowK putRow mapBlock Go.Sort.ahead; simp; exact hgl)]
        unfold putRowK putRow mapBlock Go.Sort.ahead
        simp only [Array.getElem?_modify, if_true, hg, Option.map_some, onCells]
      have hother : ∀ k, k < w.heap.size → k ≠ g → w'.heap[k]? = w.heap[k]? := fun k hk hne => by
        rw [hw]
        unfold sortWorldK
        rw [Go.Sort.heap_grow_old _ _ (by unfold putRowK putRow mapBlock Go.Sort.ahead; simp; exact hk)]
        unfold putRowK putRow mapBlock Go.Sort.ahead
        simp only [Array.getElem?_modify]
        rw [if_neg (fun e => hne e.symm)]
      refine ⟨rfl, d'.toList, hperm, M.sorted_up hds hs, ⟨by rw [fcells_length], Or.inr ⟨g, c, _, ?_, hbg, hg', by rw [hlen]; exact hnc, hcm, ?_, ?_⟩⟩, ?_⟩
      · rw [hlen]
      · unfold putCells
        rw [Array.size_mapIdx]
        exact hcs
      · rw [hlen]
        apply List.ext_getElem?
        intro t
        by_cases ht : t < L.length * 2
        · rw [List.getElem?_take_of_lt ht, Array.getElem?_toList, flat_fcells d'.toList t (by rw [hlen]; exact ht)]
          unfold putCells
          rw [Array.getElem?_mapIdx, Array.getElem?_eq_getElem (by omega), Option.map_some, if_pos ⟨Nat.zero_le _, by rw [size_flatK]; omega⟩]
          simp only [Nat.sub_zero, Array.toArray_toList, id]
        · rw [List.getElem?_eq_none (by rw [List.length_take]; omega), List.getElem?_eq_none (by rw [fcells_length, hlen]; omega)]
      · refine ⟨by rw [hw]; rfl, by rw [hw]; rfl, by rw [hw]; rfl, ?_, fun k hk hne => hother k hk fun e => hne (by rw [e]; rfl)⟩
        rw [hw]
        unfold sortWorldK
        rw [Go.Sort.size_grow]
        unfold putRowK putRow mapBlock Go.Sort.ahead
        simp
end Go.Proofs.Ytbfbbpmddgfeiaa
