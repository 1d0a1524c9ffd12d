/-
  Direct orders and sources, in the program.
-/
import Derived.Test.YtekkajgifgnklaaDirM
import Derived.Test.YtekkajgifgnklaaDel
import Derived.Test.YtekkajgifgnklaaShelf
namespace Go.Proofs.Ytekkajgifgnklaa
open Go.RowKit Go.Maps
open Go.PlainAid (bt get_bt bt_nonneg bt_le)
set_option linter.unusedVariables false

/-- Strings and orders lie in two blocks. -/
theorem apart_rows {w : World} {b1 b2 : Nat} {u v : Value} {L : List ByteArray} {L' : List (ByteArray × ByteArray)} (h : SRow w b1 u L) (h' : FRow w b2 v L') : ∀ b, u.ownBlock = some b → v.ownBlock ≠ some b := by
  intro b hb hv
  rcases h.2 with ⟨rfl, _⟩ | ⟨g, cap, cur, rfl, _, hg, _⟩
  · simp [Value.ownBlock] at hb
  · rcases h'.2 with ⟨rfl, _⟩ | ⟨g', cap', cur', rfl, _, hg', _⟩
    · simp [Value.ownBlock] at hv
    · have e1 : g = b := Option.some.inj hb
      have e2 : g' = b := Option.some.inj hv
      subst e1 e2
      rw [hg] at hg'
      have h2 := Option.some.inj hg'
      injection h2 with _ h3
      exact absurd h3 (by decide)
theorem two_rows (w : World) : SRow ((w.alloc (.cells #[] 9)).alloc (.cells #[] 45)) w.heap.size (.slice (some ⟨w.heap.size, 0, none⟩) 0 0) [] ∧ FRow ((w.alloc (.cells #[] 9)).alloc (.cells #[] 45)) w.heap.size (.slice (some ⟨w.heap.size + 1, 0, none⟩) 0 0) [] := by
  refine ⟨(sone_empty w).alloc _, ?_⟩
  have := (one_frow (w.alloc (.cells #[] 9))).lower (base' := w.heap.size) (by simp)
  simpa using this

set_option maxHeartbeats 4000000 in
set_option maxRecDepth 100000 in
theorem spec_DirectForwards (w : World) (a : Option Addr) (n cap : Nat) (F T : Nat → ByteArray) (h : Fws w a n F T) (hf : FFits n F T) (hn : n ≤ 1048576) :
    Calls Try.prog 34 #[.slice a n cap] w (FRowOut w (M.direct F T n)) := by
  have HL := Lib.hid h
  have HF := Lib.hid hf
  have E0 := Lib.hid (two_rows w).1
  have F0 := Lib.hid (two_rows w).2
  have B0 : Hid (Below w.heap.size w ((w.alloc (.cells #[] 9)).alloc (.cells #[] 45))) := by unfold Hid; go_grown
  clear h hf
  go_enter Try.func34, Try.ntmps34
  cases hok : M.fwd n F T
  · have hv := Lib.hid (M.direct_no hok)
    have HO := Lib.hid hok
    clear hok
    go_wp2
    go_loop [3, 5] (fun q i => i = .int .i64 0 ∧ q = .slice (some ⟨w.heap.size, 0, none⟩) 0 0) (fun _ _ => 0)
    case atStart => exact ⟨rfl, rfl⟩
    case round =>
      obtain ⟨rfl, rfl⟩ := hrel
      by_cases hlt : 0 < n
      · go_wp2_with (go_at_call 25; refine (spec_ForwardsValid _ a n cap F T (HL.out.on B0.out) HF.out hn).mono ?_; rw [HO.out]; rintro e w1 ⟨rfl, rfl⟩)
        go_rounds 1
        go_ret
        exact ⟨_, rfl, by rw [hv.out]; exact F0.out, B0.out⟩
      · go_wp2
        go_rounds 1
        go_ret
        exact ⟨_, rfl, by rw [hv.out]; exact F0.out, B0.out⟩
  · have hv := Lib.hid (M.direct_yes hok)
    have HO := Lib.hid hok
    have hN := (M.fwd_yes hok).1
    clear hok
    go_wp2
    go_loopw [3, 5] (fun q i wr => ∃ k : Nat, k ≤ n ∧ i = .int .i64 k ∧ Hid (SRow wr w.heap.size q (M.insAll (sst F k))) ∧ Hid (FRow wr w.heap.size (.slice (some ⟨w.heap.size + 1, 0, none⟩) 0 0) []) ∧ Hid (Below w.heap.size w wr)) (fun _ i _ => n - (intOf i).toNat)
    case atStart => exact ⟨0, Nat.zero_le _, rfl, E0, F0, B0⟩
    case round =>
      obtain ⟨k, hk, rfl, hrow, hfr, hb⟩ := hrel
      have hz := hb.out.size
      have HLr := Lib.hid (HL.out.on hb.out)
      by_cases hlt : k < n
      · obtain ⟨b, o, rfl, c0, c1⟩ := HLr.out k hlt
        have E1 := Lib.hid (sst_succ F k)
        have H31 : Hid ((M.insAll (sst F k)).length ≤ 1048575) := by
          rw [Hid, M.insAll_len, sst_length]
          omega
        obtain ⟨a1, cc, hv1, _, hst⟩ := hrow.out.form
        subst hv1
        have HS := Lib.hid hst
        have hss := Lib.hid (sst_sC (M.insAll (sst F k)))
        have hmore := Lib.hid (M.insAll_more (sst F k) (F k))
        clear hst
        go_wp2_with (first
          | (go_at_call 25; refine (spec_ForwardsValid _ _ n cap F T HLr.out HF.out hn).mono ?_; rw [HO.out]; rintro e w1 ⟨rfl, rfl⟩)
          | (go_at_call 55; refine (spec_l4Insert _ a1 _ cc _ HS.out H31.out (F k)).mono ?_; rw [hss.out, ← hmore.out]; rintro e w2 ⟨v2, rfl, r2, hb2⟩; have R2 := Lib.hid (r2.lower hz); have F2 := Lib.hid (hfr.out.on hb2); have K2 := Lib.hid (step hb.out hb2); clear r2 hb2))
        go_roundw
        case rel => exact ⟨k + 1, by omega, by go_num, by rw [E1.out]; exact R2, F2, K2⟩
        case measure => simp [intOf]; omega
      · obtain rfl : k = n := by omega
        obtain ⟨CL, hCL⟩ : ∃ CL, M.insAll (sst F k) = CL := ⟨_, rfl⟩
        have hlen : CL.length = k := by rw [← hCL, M.insAll_len, sst_length]
        have hfin : Hid (M.direct F T k = M.dirS F T k (sst (sC CL) k)) := by
          have := sst_sC CL
          rw [hlen] at this
          rw [Hid, hv.out, hCL, this]
        rw [hCL] at hrow
        obtain ⟨a1, cc, hv1, _, hst⟩ := hrow.out.form
        rw [hlen] at hv1 hst
        subst hv1
        clear hst hCL
        go_wp2
        go_loopw [4, 6] (fun q i wr => ∃ j : Nat, j ≤ k ∧ i = .int .i64 j ∧ Hid (FRow wr w.heap.size q (M.dirS F T k (sst (sC CL) j))) ∧ Hid (SRow wr w.heap.size (.slice a1 k cc) CL) ∧ Hid (Below w.heap.size w wr)) (fun _ i _ => k - (intOf i).toNat)
        case atStart => exact ⟨0, Nat.zero_le _, rfl, hfr, hrow, hb⟩
        case round =>
          obtain ⟨j, hj, rfl, hfr, hrow, hb⟩ := hrel
          have hz := hb.out.size
          have HLr := Lib.hid (HL.out.on hb.out)
          by_cases hlt : j < k
          · obtain ⟨a2, c2, hv2, _, hst⟩ := hrow.out.form
            rw [hlen] at hv2 hst
            injection hv2 with e1 e2 e3
            subst e1 e3
            obtain ⟨b, o, rfl, c0⟩ := hst j hlt
            have hss := Lib.hid (sst_succ (sC CL) j)
            have hle := M.dirS_le F T k (sst (sC CL) j)
            rw [sst_length] at hle
            obtain ⟨C, hC⟩ : ∃ C, sC CL j = C := ⟨_, rfl⟩
            rw [hC] at c0 hss
            have HAP := Lib.hid (apart_rows hrow.out hfr.out)
            clear hst hC
            cases hr : M.res F T k C with
            | none =>
              have HR : Hid (resV (M.res F T k C) = .tuple #[.string ⟨#[]⟩, .int .i64 0, .bool false]) := by rw [Hid, hr]; rfl
              have E1 := Lib.hid (M.dirS_no (L := sst (sC CL) j) (M.endOf_no hr))
              clear hr
              go_wp2_with (go_at_call 27; refine (spec_l4Resolve _ a k cap F T HLr.out hn C).mono ?_; rw [HR.out]; rintro e w3 ⟨rfl, rfl⟩)
              go_roundw
              case rel => exact ⟨j + 1, by omega, by go_num, by rw [hss.out, E1.out]; exact hfr, hrow, hb⟩
              case measure => simp [intOf]; omega
            | some p =>
              obtain ⟨d, t⟩ := p
              have HR : Hid (resV (M.res F T k C) = .tuple #[.string d, .int .i64 t, .bool true]) := by rw [Hid, hr]; rfl
              have E1 := Lib.hid (M.dirS_yes (L := sst (sC CL) j) (M.endOf_yes hr))
              clear hr
              go_wp2_with (first
                | (go_at_call 27; refine (spec_l4Resolve _ a k cap F T HLr.out hn C).mono ?_; rw [HR.out]; rintro e w3 ⟨rfl, rfl⟩)
                | (at_builtin; refine wpList_append_forward _ rfl _ _ rfl w.heap.size _ _ rfl (hfr.out.alloc _) _ C d rfl ?_ (by omega) (by simp; omega) ?_))
              · simp [go_sem]
              · intro v' w3 hr3 hg3 ho3
                have q3 := Lib.hid (fbelow_grown (W := w) (hb.out.alloc hz _) (hfr.out.alloc _) (Nat.le_refl _) hg3)
                have S3 := Lib.hid ((hrow.out.alloc (.cells #[.string C, .string d] 45)).kept hg3 (fun q hq e => HAP.out q hq e.symm))
                have R3 := Lib.hid hr3
                clear hr3 hg3 ho3
                go_wp2
                go_roundw
                case rel => exact ⟨j + 1, by omega, by go_num, by rw [hss.out, E1.out]; exact R3, S3, q3⟩
                case measure => simp [intOf]; omega
          · obtain rfl : j = k := by omega
            go_wp2
            go_ret
            exact ⟨_, rfl, by rw [hfin.out]; exact hfr.out, hb.out⟩

end Go.Proofs.Ytekkajgifgnklaa
namespace Go.Proofs.Ytekkajgifgnklaa
open Go.RowKit Go.Maps
open Go.Sort (grow putRow putCells mapBlock onCells)
open Go.Sort (flatK get_flatK size_flatK HoldsK putRowK)
open Go.PlainAid (bt get_bt bt_nonneg bt_le)
set_option linter.unusedVariables false

set_option maxHeartbeats 1000000 in
set_option maxRecDepth 100000 in
theorem cmp_isNaN (x : ByteArray) (w : World) : Calls Try.prog 51 #[.string x] w fun e w' => e = .returned (.bool false) ∧ w' = w := by
  have hd : (x.toList == x.toList) = true := by simp
  go_enter Try.func51, Try.ntmps51
  go_wp2
  go_ret
  exact ⟨rfl, rfl⟩
def M.cmpB (a b : ByteArray) : Int := if less a b then -1 else if !(less a b || a.toList == b.toList) then 1 else 0
set_option maxHeartbeats 1000000 in
set_option maxRecDepth 100000 in
theorem cmp_Compare (x y : ByteArray) (w : World) : Calls Try.prog 30 #[.string x, .string y] w fun e w' => e = .returned (.int .i64 (M.cmpB x y)) ∧ w' = w := by
  cases h1 : M.less x y
  · cases h2 : (x.toList == y.toList)
    · have hv : Hid (M.cmpB x y = 1) := by unfold Hid M.cmpB; rw [h1, h2]; rfl
      have h1' : Op.bytesLess x.toList y.toList = false := h1
      clear h1
      go_enter Try.func30, Try.ntmps30
      go_wp2_with (go_at_call 51; refine (cmp_isNaN _ _).mono ?_; rintro e w1 ⟨rfl, rfl⟩)
      go_ret
      exact ⟨by rw [hv.out]; rfl, rfl⟩
    · have hv : Hid (M.cmpB x y = 0) := by unfold Hid M.cmpB; rw [h1, h2]; rfl
      have h1' : Op.bytesLess x.toList y.toList = false := h1
      clear h1
      go_enter Try.func30, Try.ntmps30
      go_wp2_with (go_at_call 51; refine (cmp_isNaN _ _).mono ?_; rintro e w1 ⟨rfl, rfl⟩)
      go_ret
      exact ⟨by rw [hv.out]; rfl, rfl⟩
  · have hv : Hid (M.cmpB x y = -1) := by unfold Hid M.cmpB; rw [h1]; rfl
    have h1' : Op.bytesLess x.toList y.toList = true := h1
    clear h1
    go_enter Try.func30, Try.ntmps30
    go_wp2_with (go_at_call 51; refine (cmp_isNaN _ _).mono ?_; rintro e w1 ⟨rfl, rfl⟩)
    go_ret
    exact ⟨by rw [hv.out]; rfl, rfl⟩
def encF (x : ByteArray × ByteArray) : List Value := [.string x.1, .string x.2]
set_option maxHeartbeats 1000000 in
set_option maxRecDepth 100000 in
theorem cmp_forwards (x y : ByteArray × ByteArray) (W : World) : Calls Try.prog 29 #[.agg #[.string x.1, .string x.2], .agg #[.string y.1, .string y.2]] W fun e w' => e = .returned (.int .i64 (M.cmpF x y)) ∧ ∃ q os', w' = grow (W.drewN q) os' := by
  have hv : Hid (M.cmpB x.1 y.1 = M.cmpF x y) := rfl
  have hcon := fun W' => cmp_Compare x.1 y.1 W'
  rw [hv.out] at hcon
  generalize M.cmpF x y = r at hcon ⊢
  go_enter Try.func29, Try.ntmps29
  go_wp2_with (go_at_call 30; refine (hcon _).mono ?_; rintro e w' ⟨rfl, rfl⟩)
  go_ret
  exact ⟨rfl, 0, _, by rw [Go.Sort.alloc_eq_grow, Go.Sort.alloc_eq_grow, Go.Sort.grow_grow]; rfl⟩
theorem cmpLaysF (blk off size : Nat) (w : World) : CmpLays Try.prog 29 #[] encF 2 M.cmpF blk off size w := fun _ _ _ _ x y => cmp_forwards x y _

/-- The flat cells of some orders. -/
theorem flat_fcells (L : List (ByteArray × ByteArray)) (t : Nat) (ht : t < L.length * 2) : (fcells L)[t]? = some ((flatK encF 2 L.toArray)[t]!) := by
  rw [get_flatK encF 2 L.toArray t (by simpa using ht)]
  have hq : t / 2 < L.length := by omega
  have hat := fcells_at L (t / 2) hq
  have hg : L.toArray[t / 2]! = L[t / 2] := by rw [getElem!_pos _ _ (by simpa using hq)]; simp
  rw [hg]
  have hm : t % 2 = 0 ∨ t % 2 = 1 := by omega
  rcases hm with e | e
  · have e2 : t = t / 2 * 2 := by omega
    rw [e]
    rw [← e2] at hat
    exact hat.1
  · have e2 : t = t / 2 * 2 + 1 := by omega
    rw [e]
    rw [← e2] at hat
    exact hat.2

set_option maxHeartbeats 1000000 in
set_option maxRecDepth 100000 in
theorem sort_forwards (w : World) (base : Nat) (v : Value) (L : List (ByteArray × ByteArray)) (h : FRow w base v L) (hn : L.length ≤ 1048576) :
    Calls Try.prog 28 #[v, .func (.func 29) #[] #[]] w fun e w' => e = .returned (.tuple #[]) ∧ ∃ L', L'.Perm L ∧ M.Up2 L' ∧ FRow w' base v L' ∧ w.grownBy w' v.ownBlock := by
  rcases h.cases with ⟨rfl, rfl⟩ | ⟨g, c, rfl, hbg, hgl⟩
  · refine (AnyF.slices_SortFunc_none { Try.sortFwd with } none 0 (.func (.func 29) #[] #[]) w).mono fun e w' he => ?_
    obtain ⟨rfl, rfl⟩ := he
    exact ⟨rfl, [], List.Perm.refl _, List.Pairwise.nil, FRow.nil _ _, World.grownBy.refl _ _⟩
  · have hrow : w.ownsRow base 45 2 (.slice (some ⟨g, 0, none⟩) L.length c) L.length (fcells L) := h
    have hH : HoldsK encF 2 w g 0 L.toArray := fun t ht => by
      have ht' : t < L.length * 2 := by simpa using ht
      rw [Nat.zero_add]
      refine ⟨?_, World.ownsRow.frozenAt hrow t⟩
      rw [World.ownsRow.cellAt hrow t ht', flat_fcells L t ht']
      rfl
    have eg : ∀ args w, (callFunc 29 args).run Try.prog w = .ok (.enter 29 args) w := enters_of Try.func29 (by kernel_rfl) rfl
    have hcon := AnyQ.slices_SortFunc Try.sortFwd 2 Try.isAgg45 Try.sizeOf45 encF (fun _ => rfl) (fun x v hv => by simp [encF] at hv; rcases hv with rfl | rfl <;> rfl) M.cmpF M.cmpF_swo 29 #[] g 0 c L.toArray w eg (cmpLaysF g 0 L.toArray.size w) hH hgl (by simp; omega)
    have hsz0 : L.toArray.size = L.length := by simp
    rw [hsz0] at hcon
    refine hcon.mono fun e w' he => ?_
    obtain ⟨rfl, d', n, os, hp, hs, hw⟩ := he
    have hds : d'.size = L.length := by rw [hp.1]; simp
    have hlen : d'.toList.length = L.length := by rw [Array.length_toList]; exact hds
    have hperm : d'.toList.Perm L := by
      have := hp.2.2
      rw [show d'.extract 0 L.length = d' from by rw [← hds]; exact Array.extract_size, show L.toArray.extract 0 L.length = L.toArray from by rw [← hsz0]; exact Array.extract_size] at this
      simpa using this
    obtain ⟨h1, h2⟩ := h
    rcases h2 with ⟨e, _⟩ | ⟨g', cap, cur, e, _, hg, hnc, hcm, hcs, htk⟩
    · cases e
    · injection e with e1 _ e3
      injection e1 with e1
      injection e1 with e1
      subst e1 e3
      have hg' : w'.heap[g]? = some (.cells (putCells id 0 (flatK encF 2 d') cur) 45 (0, 0)) := by
        rw [hw]
        unfold sortWorldK
        rw [Go.Sort.heap_grow_old _ _ (by unfold putRowK putRow mapBlock Go.Sort.ahead; simp; exact hgl)]
        unfold putRowK putRow mapBlock Go.Sort.ahead
        simp only [Array.getElem?_modify, if_true, hg, Option.map_some, onCells]
      have hother : ∀ k, k < w.heap.size → k ≠ g → w'.heap[k]? = w.heap[k]? := fun k hk hne => by
        rw [hw]
        unfold sortWorldK
        rw [Go.Sort.heap_grow_old _ _ (by unfold putRowK putRow mapBlock Go.Sort.ahead; simp; exact hk)]
        unfold putRowK putRow mapBlock Go.Sort.ahead
        simp only [Array.getElem?_modify]
        rw [if_neg (fun e => hne e.symm)]
      refine ⟨rfl, d'.toList, hperm, M.sorted_up hds hs, ⟨by rw [fcells_length], Or.inr ⟨g, c, _, ?_, hbg, hg', by rw [hlen]; exact hnc, hcm, ?_, ?_⟩⟩, ?_⟩
      · rw [hlen]
      · unfold putCells
        rw [Array.size_mapIdx]
        exact hcs
      · rw [hlen]
        apply List.ext_getElem?
        intro t
        by_cases ht : t < L.length * 2
        · rw [List.getElem?_take_of_lt ht, Array.getElem?_toList, flat_fcells d'.toList t (by rw [hlen]; exact ht)]
          unfold putCells
          rw [Array.getElem?_mapIdx, Array.getElem?_eq_getElem (by omega), Option.map_some, if_pos ⟨Nat.zero_le _, by rw [size_flatK]; omega⟩]
          simp only [Nat.sub_zero, Array.toArray_toList, id]
        · rw [List.getElem?_eq_none (by rw [List.length_take]; omega), List.getElem?_eq_none (by rw [fcells_length, hlen]; omega)]
      · refine ⟨by rw [hw]; rfl, by rw [hw]; rfl, by rw [hw]; rfl, ?_, fun k hk hne => hother k hk fun e => hne (by rw [e]; rfl)⟩
        rw [hw]
        unfold sortWorldK
        rw [Go.Sort.size_grow]
        unfold putRowK putRow mapBlock Go.Sort.ahead
        simp
end Go.Proofs.Ytekkajgifgnklaa
namespace Go.Proofs.Ytekkajgifgnklaa
open Go.RowKit Go.Maps
open Go.PlainAid (bt get_bt bt_nonneg bt_le)
set_option linter.unusedVariables false

/-- A row of orders lies in no block of a book. -/
theorem FRow.offBook {w : World} {base base' g n : Nat} {v : Value} {L : List (ByteArray × ByteArray)} {f : ByteArray → Option Nat} {nx : ByteArray → Option ByteArray} (h : FRow w base v L) (hB : Book w base' g n f nx) {k : Nat} (hv : v.ownBlock = some k) : k ≠ g ∧ ∀ c b, f c = some b → b ≠ k := by
  rcases h.2 with ⟨rfl, _⟩ | ⟨g', cap, cur, rfl, _, hg', _⟩
  · simp [Value.ownBlock] at hv
  · have e : g' = k := Option.some.inj hv
    subst e
    refine ⟨fun e => ?_, fun c b hb e => ?_⟩
    · obtain ⟨_, ⟨D, ⟨es, clock, hm, _⟩, _⟩, _⟩ := hB
      rw [← e, hg'] at hm
      cases Option.some.inj hm
    · obtain ⟨_, _, _, _, ca, hca⟩ := hB.node hb
      rw [e, hg'] at hca
      have h2 := Option.some.inj hca
      injection h2 with _ h3
      exact absurd h3 (by decide)
theorem Book.fgrown {w w' : World} {base base' g n : Nat} {v : Value} {L : List (ByteArray × ByteArray)} {f : ByteArray → Option Nat} {nx : ByteArray → Option ByteArray} (h : Book w base g n f nx) (hr : FRow w base' v L) (hg : w.grownBy w' v.ownBlock) : Book w' base g n f nx := h.keep fun k hlt hk => hg.block k hlt fun e => by
  obtain ⟨h1, h2⟩ := hr.offBook h e.symm
  rcases hk with rfl | ⟨c, hc⟩
  · exact h1 rfl
  · exact h2 c k hc rfl

set_option maxHeartbeats 2000000 in
set_option maxRecDepth 100000 in
theorem impl_DirectForwards (w : World) (a : Option Addr) (n cap : Nat) (F T : Nat → ByteArray) (h : Fws w a n F T) (hf : FFits n F T) :
    Calls Try.prog 9 #[.slice a n cap] w (FRowOut w (M.direct F T n)) := by
  have HL := Lib.hid h
  have HF := Lib.hid hf
  clear h hf
  go_enter Try.func9, Try.ntmps9
  cases hok : M.fwd n F T
  · have hv := Lib.hid (M.direct_no hok)
    go_wp2_with fail
    refine (bookOf_no _ _ _ _ _ _ HL.out HF.out hok).mono ?_
    rintro e w1 ⟨rfl, hb1⟩
    have hq := eql_nobook w1
    go_wp2
    go_ret
    exact ⟨_, rfl, by rw [hv.out]; exact FRow.nil _ _, hb1⟩
  · have hv := Lib.hid (M.direct_yes hok)
    have hN := (M.fwd_yes hok).1
    go_wp2_with fail
    refine (bookOf_yes _ _ _ _ _ _ HL.out HF.out hok).mono ?_
    rintro e w1 ⟨g, m, f, rfl, hm, hB, hb1⟩
    have hq := eql_book g w1
    have HB := Lib.hid hB
    have hbase := hB.1
    clear hB hok
    go_wp2
    go_loopw [4, 16] (fun v i wr => ∃ (k : Nat) (f : ByteArray → Option Nat), k ≤ n ∧ i = .int .i64 k ∧ Hid (FRow wr w.heap.size v (M.dirS F T n (sst F k))) ∧ Hid (Book wr w.heap.size g (m + k) f (M.nextOf F T n)) ∧ Below w.heap.size w wr) (fun _ i _ => n - (intOf i).toNat)
    case atStart => exact ⟨0, f, Nat.zero_le _, rfl, FRow.nil _ _, HB, hb1⟩
    case round =>
      obtain ⟨k, f, hk, rfl, hrow, hbk, hb⟩ := hrel
      have hz := hb.size
      have hgl := hbk.out.lt
      have hle := M.dirS_le F T n (sst F k)
      rw [sst_length] at hle
      by_cases hlt : k < n
      · obtain ⟨b, o, rfl, c0, c1⟩ := (HL.out.on hb) k hlt
        have s0 := (HF.out k hlt).1
        have OU : Hid (∀ b, u4.ownBlock = some b → ¬ b = g) := fun b hb' => (hrow.out.offBook hbk.out hb').1
        have hss := Lib.hid (sst_succ F k)
        cases hr0 : M.res F T n (F k) with
        | none =>
          have hr : Hid (resV (M.res F T n (F k)) = .tuple #[.string ⟨#[]⟩, .int .i64 0, .bool false]) := by rw [Hid, hr0]; rfl
          have E1 := Lib.hid (M.dirS_no (L := sst F k) (M.endOf_no hr0))
          clear hr0
          go_wp2_with (go_at_call 24; refine (resolve_any _ w.heap.size g (m + k) n f F T (hbk.out.on (by go_grown)) (F k) s0 (by omega) hN).mono ?_; rintro e w3 ⟨rfl, ⟨f', hB3⟩, ho⟩; rw [hr.out]; have q0 : w3.cell? ⟨wr.heap.size, 0, none⟩ = some (.string (F k)) := (World.cell?_of_block (a := ⟨wr.heap.size, 0, none⟩) (ho.block wr.heap.size (by simp) (by omega))).trans (by simp); have O3 : Only wr w3 (fun k => k = g) := (Only.new (by go_grown)).trans ho (fun _ _ h => h); have hb3 : Below w.heap.size w w3 := hb.trans (O3.below (B := w.heap.size) (fun k hk _ (e : k = g) => by omega) hz); have hz3 := hb3.size; have hz4 : wr.heap.size < w3.heap.size := World.block_lt_of_cell? _ _ q0; have U3 := Lib.hid (hrow.out.only O3 OU.out); have HB3 := Lib.hid hB3; clear hB3 ho O3)
          go_roundw
          case rel => exact ⟨k + 1, f', by omega, by go_num, by rw [hss.out, E1.out]; exact U3, HB3, hb3⟩
          case measure => simp [intOf]; omega
        | some p =>
          obtain ⟨d, t⟩ := p
          have hr : Hid (resV (M.res F T n (F k)) = .tuple #[.string d, .int .i64 t, .bool true]) := by rw [Hid, hr0]; rfl
          have E1 := Lib.hid (M.dirS_yes (L := sst F k) (M.endOf_yes hr0))
          clear hr0
          go_wp2_with (first
            | (go_at_call 24; refine (resolve_any _ w.heap.size g (m + k) n f F T (hbk.out.on (by go_grown)) (F k) s0 (by omega) hN).mono ?_; rintro e w3 ⟨rfl, ⟨f', hB3⟩, ho⟩; rw [hr.out]; have q0 : w3.cell? ⟨wr.heap.size, 0, none⟩ = some (.string (F k)) := (World.cell?_of_block (a := ⟨wr.heap.size, 0, none⟩) (ho.block wr.heap.size (by simp) (by omega))).trans (by simp); have O3 : Only wr w3 (fun k => k = g) := (Only.new (by go_grown)).trans ho (fun _ _ h => h); have hb3 : Below w.heap.size w w3 := hb.trans (O3.below (B := w.heap.size) (fun k hk _ (e : k = g) => by omega) hz); have hz3 := hb3.size; have hz4 : wr.heap.size < w3.heap.size := World.block_lt_of_cell? _ _ q0; have U3 := Lib.hid (hrow.out.only O3 OU.out); have HB3 := Lib.hid hB3; clear hB3 ho O3)
            | (at_builtin; refine wpList_append_forward _ rfl _ _ rfl w.heap.size _ _ rfl (U3.out.alloc _) _ (F k) d rfl ?_ (by omega) (by simp; omega) ?_))
          · simp [go_sem]
          · intro v' w4 hr3 hg3 ho3
            have q4 := fbelow_grown (W := w) (hb3.alloc hz3 _) (U3.out.alloc _) (Nat.le_refl _) hg3
            have Q5 := Lib.hid ((HB3.out.on (below_alloc0 _ _)).fgrown (U3.out.alloc _) hg3)
            have R3 := Lib.hid hr3
            clear hr3 hg3 ho3
            go_wp2
            go_roundw
            case rel => exact ⟨k + 1, f', by omega, by go_num, by rw [hss.out, E1.out]; exact R3, Q5, q4⟩
            case measure => simp [intOf]; omega
      · obtain rfl : k = n := by omega
        go_wp2_with (go_at_call 28; refine (sort_forwards _ w.heap.size _ _ hrow.out (by omega)).mono ?_; rintro e w3 ⟨rfl, L', hp, hu, r3, gr3⟩; have K3 : Hid (Below w.heap.size w w3) := hb.grown gr3 hz (fun q e => (hrow.out.lt q e).1); have R3 := Lib.hid r3; have E3 := Lib.hid (M.direct_only hp hu); clear r3 gr3 hp hu)
        go_ret
        exact ⟨_, rfl, by rw [hv.out, ← E3.out]; exact R3.out, K3.out⟩

end Go.Proofs.Ytekkajgifgnklaa
