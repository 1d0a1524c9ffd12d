/-
  For every slice of bytes, laws.FnDirect returns true.
-/
import Derived.Test.YtbfbbpmddgfeiaaRows
import Derived.Test.YtbfbbpmddgfeiaaDrawF2
import Derived.Test.YtbfbbpmddgfeiaaDirM
import Derived.Test.YtbfbbpmddgfeiaaAddM
import Derived.Test.YtbfbbpmddgfeiaaSoT
import Derived.Test.YtbfbbpmddgfeiaaDir2
import Derived.WalkKit
import Derived.ProofKit
import Derived.OpenShut
import Derived.ShutString
import Derived.ChangeOld
import Derived.Below
import Derived.Handy
import Derived.Lib.Hide
namespace Go.Proofs.Ytbfbbpmddgfeiaa.M
set_option linter.unusedVariables false

theorem endOf_some {F T : Nat → ByteArray} {n : Nat} {c d : ByteArray} (h : endOf F T n c = some d) : ∃ t, res F T n c = some (d, t) := by
  unfold endOf at h
  cases e : res F T n c with
  | none => rw [e] at h; cases h
  | some p =>
    obtain ⟨d', t⟩ := p
    rw [e] at h
    have := Option.some.inj h
    subst this
    exact ⟨t, rfl⟩
theorem direct_mem {F T : Nat → ByteArray} {n : Nat} (h : fwd n F T = true) {p : ByteArray × ByteArray} : p ∈ direct F T n ↔ endOf F T n p.1 = some p.2 ∧ ∃ i, i < n ∧ F i = p.1 := by
  rw [direct_yes h]
  constructor
  · intro hp
    refine ⟨dirS_mem hp, ?_⟩
    unfold dirS at hp
    obtain ⟨c, hc, e⟩ := List.mem_filterMap.1 hp
    have hc2 := (insAll_perm _).mem_iff.1 hc
    unfold sst at hc2
    obtain ⟨i, hi, rfl⟩ := List.mem_map.1 hc2
    cases h2 : endOf F T n (F i) with
    | none => rw [h2] at e; cases e
    | some d =>
      rw [h2] at e
      have := Option.some.inj e
      subst this
      exact ⟨i, List.mem_range.1 hi, rfl⟩
  · rintro ⟨h1, i, hi, e⟩
    unfold dirS
    refine List.mem_filterMap.2 ⟨p.1, (insAll_perm _).mem_iff.2 (List.mem_map.2 ⟨i, List.mem_range.2 hi, e⟩), ?_⟩
    rw [h1]
    rfl
theorem sst_nodup {F T : Nat → ByteArray} {n : Nat} (h : fwd n F T = true) : (sst F n).Nodup := by
  refine List.pairwise_iff_getElem.2 fun i j hi hj hij => ?_
  have hjn : j < n := by rw [sst_length] at hj; exact hj
  simp only [sst, List.getElem_map, List.getElem_range]
  exact fun e => ((fwd_yes h).2 j hjn).2.2 i hij e
theorem direct_apart {F T : Nat → ByteArray} {n : Nat} (h : fwd n F T = true) : (direct F T n).Pairwise fun a b => a.1 ≠ b.1 := by
  rw [direct_yes h]
  unfold dirS
  rw [List.pairwise_filterMap]
  refine List.Pairwise.imp ?_ ((insAll_perm _).nodup_iff.2 (sst_nodup h))
  intro a b hab p hp q hq
  cases h1 : endOf F T n a with
  | none => rw [h1] at hp; cases hp
  | some x =>
    cases h2 : endOf F T n b with
    | none => rw [h2] at hq; cases hq
    | some y =>
      rw [h1] at hp
      rw [h2] at hq
      have e1 := Option.some.inj hp
      have e2 := Option.some.inj hq
      rw [← e1, ← e2]
      exact hab
theorem direct_fwd {F T : Nat → ByteArray} {n : Nat} (h : fwd n F T = true) : fwd (direct F T n).length (nF (direct F T n)) (nT (direct F T n)) = true :=
  fwd_of (Nat.le_trans (direct_le F T n) (fwd_yes h).1) fun i hi => by
    obtain ⟨h1, k, hk, e⟩ := (direct_mem h).1 (List.getElem_mem hi)
    obtain ⟨t, ht⟩ := endOf_some h1
    have hc : code (direct F T n)[i].1 = true := by rw [← e]; exact ((fwd_yes h).2 k hk).1
    rw [nF_at hi, nT_at hi]
    refine ⟨hc, iter_code' h hc (res_some ht).2.1, fun k hk => ?_⟩
    rw [nF_at (Nat.lt_trans hk hi)]
    exact List.pairwise_iff_getElem.1 (direct_apart h) k i (Nat.lt_trans hk hi) hi hk
theorem direct_next {F T : Nat → ByteArray} {n : Nat} (h : fwd n F T = true) {p : ByteArray × ByteArray} (hp : p ∈ direct F T n) : nextOf (nF (direct F T n)) (nT (direct F T n)) (direct F T n).length p.1 = some p.2 := by
  obtain ⟨i, hi, e⟩ := List.getElem_of_mem hp
  have h1 := next_at (direct_fwd h) hi
  rw [nF_at hi, nT_at hi, e] at h1
  exact h1
theorem direct_end {F T : Nat → ByteArray} {n : Nat} (h : fwd n F T = true) {p : ByteArray × ByteArray} (hp : p ∈ direct F T n) : nextOf (nF (direct F T n)) (nT (direct F T n)) (direct F T n).length p.2 = none := by
  cases e : nextOf (nF (direct F T n)) (nT (direct F T n)) (direct F T n).length p.2 with
  | none => rfl
  | some d =>
    obtain ⟨k, hk, e1, _⟩ := nextOf_at e
    rw [nF_at hk] at e1
    obtain ⟨_, i, hi, e2⟩ := (direct_mem h).1 (List.getElem_mem hk)
    have h3 := next_at h hi
    rw [e2, e1] at h3
    obtain ⟨t, ht⟩ := endOf_some ((direct_mem h).1 hp).1
    rw [(res_some ht).2.2] at h3
    cases h3
theorem direct_res {F T : Nat → ByteArray} {n : Nat} (h : fwd n F T = true) {p : ByteArray × ByteArray} (hp : p ∈ direct F T n) : res (nF (direct F T n)) (nT (direct F T n)) (direct F T n).length p.1 = some (p.2, 1) :=
  res_iter (s := 1) (direct_next h hp) (direct_end h hp) (List.length_pos_of_mem hp)
theorem direct_long {F T : Nat → ByteArray} {n : Nat} (h : fwd n F T = true) : ∀ k, k ≤ (direct F T n).length → longTo (nF (direct F T n)) (nT (direct F T n)) (direct F T n).length k ≤ 1
  | 0, _ => Nat.zero_le _
  | k + 1, hk => by
    have ih := direct_long h k (by omega)
    have hc : cntOf (res (nF (direct F T n)) (nT (direct F T n)) (direct F T n).length (nF (direct F T n) k)) = 1 := by
      rw [nF_at hk, direct_res h (List.getElem_mem hk)]
      rfl
    by_cases hlt : longTo (nF (direct F T n)) (nT (direct F T n)) (direct F T n).length k < 1
    · rw [long_up rfl hc hlt]
      exact Nat.le_refl 1
    · rw [long_on rfl hc hlt]
      exact ih
/-- No chain of direct orders is longer than one order. -/
theorem direct_longest {F T : Nat → ByteArray} {n : Nat} (h : fwd n F T = true) : longest (nF (direct F T n)) (nT (direct F T n)) (direct F T n).length ≤ 1 := by
  rw [longest_yes (direct_fwd h)]
  have := direct_long h _ (Nat.le_refl _)
  omega
theorem sst_nF (D : List (ByteArray × ByteArray)) : sst (nF D) D.length = D.map (·.1) := by
  refine List.ext_getElem (by rw [sst_length, List.length_map]) fun i h1 h2 => ?_
  simp only [sst, List.getElem_map, List.getElem_range]
  exact nF_at (by rw [sst_length] at h1; exact h1)
theorem filterMap_self {α : Type} (f : α → Option α) : ∀ L : List α, (∀ p, p ∈ L → f p = some p) → L.filterMap f = L
  | [], _ => rfl
  | p :: L, h => by
    rw [List.filterMap_cons_some (h p List.mem_cons_self), filterMap_self f L fun q hq => h q (List.mem_cons_of_mem _ hq)]
/-- Direct orders made direct are the same. -/
theorem direct_twice {F T : Nat → ByteArray} {n : Nat} (h : fwd n F T = true) : direct (nF (direct F T n)) (nT (direct F T n)) (direct F T n).length = direct F T n := by
  rw [direct_yes (direct_fwd h)]
  refine (direct_only ?_ ?_).symm
  · rw [sst_nF]
    unfold dirS
    rw [List.filterMap_map]
    rw [filterMap_self _ (direct F T n) fun p hp => ?_]
    show (endOf (nF (direct F T n)) (nT (direct F T n)) (direct F T n).length p.1).map (fun d => (p.1, d)) = some p
    rw [endOf_yes (direct_res h hp)]
    rfl
  · rw [direct_yes h]
    exact dirS_up (insAll_up _)
theorem direct_cnt {F T : Nat → ByteArray} {n : Nat} : ∀ k, (dirS F T n (sst F k)).length + (endl F T n k).length = k
  | 0 => rfl
  | k + 1 => by
    have ih := direct_cnt (F := F) (T := T) (n := n) k
    rw [sst_succ]
    cases e : res F T n (F k) with
    | none =>
      rw [dirS_no (endOf_no e), endl_no (by rw [e]; rfl), List.length_append, List.length_singleton]
      omega
    | some p =>
      obtain ⟨d, t⟩ := p
      rw [dirS_yes (endOf_yes e), endl_yes (by rw [e]; rfl), List.length_append, List.length_singleton]
      omega
/-- Each order leads to an end, or is endless. -/
theorem direct_all {F T : Nat → ByteArray} {n : Nat} (h : fwd n F T = true) : (direct F T n).length + (endless F T n).length = n := by
  rw [direct_yes h, endless_yes h, (direct_perm F T n).length_eq, insAll_len]
  exact direct_cnt n
/-- Each code comes behind the one before it. -/
theorem direct_up {F T : Nat → ByteArray} {n j : Nat} (h : fwd n F T = true) (hj : j + 1 < (direct F T n).length) :
    Op.bytesLess (nF (direct F T n) (j + 1)).toList (nF (direct F T n) j).toList = false ∧ ((nF (direct F T n) (j + 1)).toList == (nF (direct F T n) j).toList) = false := by
  have hu : Up2 (direct F T n) := by rw [direct_yes h]; exact dirS_up (insAll_up _)
  have hle := List.pairwise_iff_getElem.1 hu j (j + 1) (by omega) hj (by omega)
  have hne := List.pairwise_iff_getElem.1 (direct_apart h) j (j + 1) (by omega) hj (by omega)
  rw [nF_at hj, nF_at (by omega)]
  exact ⟨(less_le _ _).2 hle, neq_list0 fun e => hne e.symm⟩
theorem allF_two {F T F2 T2 : Nat → ByteArray} {n n2 i : Nat} (hi : i < n2) : allF F T n F2 T2 n2 (n + i) = F2 i := by
  unfold allF
  have hl : n + i < (flst F T n ++ flst F2 T2 n2).length := by rw [List.length_append, flst_length, flst_length]; omega
  rw [nF_at hl, List.getElem_append_right (by rw [flst_length]; omega)]
  simp [flst]
theorem allF_mem {F T F2 T2 : Nat → ByteArray} {n n2 j : Nat} (hj : j < n + n2) : (∃ i, i < n ∧ allF F T n F2 T2 n2 j = F i) ∨ ∃ i, i < n2 ∧ allF F T n F2 T2 n2 j = F2 i := by
  by_cases h : j < n
  · refine Or.inl ⟨j, h, ?_⟩
    unfold allF
    have hl : j < (flst F T n ++ flst F2 T2 n2).length := by rw [List.length_append, flst_length, flst_length]; exact hj
    rw [nF_at hl, List.getElem_append_left (by rw [flst_length]; exact h)]
    simp [flst]
  · obtain ⟨i, rfl⟩ : ∃ i, j = n + i := ⟨j - n, by omega⟩
    exact Or.inr ⟨i, by omega, allF_two (by omega)⟩
/-- Direct orders have the same ends exactly if no code is endless. -/
theorem direct_same {F T : Nat → ByteArray} {n : Nat} (h : fwd n F T = true) : same (nF (direct F T n)) (nT (direct F T n)) (direct F T n).length F T n = decide ((endless F T n).length = 0) := by
  by_cases hE : (endless F T n).length = 0
  · rw [decide_eq_true hE]
    refine same_end (direct_fwd h) h fun j hj => ?_
    have hp : ∃ p, p ∈ direct F T n ∧ p.1 = allF (nF (direct F T n)) (nT (direct F T n)) (direct F T n).length F T n j := by
      rcases allF_mem hj with ⟨i, hi, e⟩ | ⟨i, hi, e⟩
      · exact ⟨_, List.getElem_mem hi, by rw [e, nF_at hi]⟩
      · cases hr : res F T n (F i) with
        | none =>
          have hm : F i ∈ endless F T n := (endless_mem h).2 ⟨i, hi, rfl, by rw [hr]; rfl⟩
          rw [List.length_eq_zero_iff.1 hE] at hm
          cases hm
        | some q =>
          obtain ⟨d, t⟩ := q
          exact ⟨(F i, d), (direct_mem h).2 ⟨endOf_yes hr, i, hi, rfl⟩, e.symm⟩
    obtain ⟨p, hp, e⟩ := hp
    rw [← e]
    obtain ⟨t, ht⟩ := endOf_some ((direct_mem h).1 hp).1
    unfold sameAt
    rw [direct_res h hp, ht]
    exact decide_eq_true rfl
  · rw [decide_eq_false hE]
    obtain ⟨c, hc⟩ := List.exists_mem_of_length_pos (Nat.pos_of_ne_zero hE)
    obtain ⟨i, hi, e, hr⟩ := (endless_mem h).1 hc
    have hr' : res F T n c = none := by
      cases e2 : res F T n c with
      | none => rfl
      | some q => rw [e2] at hr; cases hr
    refine same_out (j := (direct F T n).length + i) (by omega) ?_
    rw [allF_two hi, e]
    have hx : nextOf (nF (direct F T n)) (nT (direct F T n)) (direct F T n).length c = none := by
      cases e3 : nextOf (nF (direct F T n)) (nT (direct F T n)) (direct F T n).length c with
      | none => rfl
      | some d =>
        obtain ⟨k, hk, e4, _⟩ := nextOf_at e3
        rw [nF_at hk] at e4
        obtain ⟨t, ht⟩ := endOf_some ((direct_mem h).1 (List.getElem_mem hk)).1
        rw [e4, hr'] at ht
        cases ht
    unfold sameAt
    rw [res_here hx, hr']
    refine decide_eq_false fun e5 => ?_
    have hcc : code c = true := by rw [← e]; exact ((fwd_yes h).2 i hi).1
    exact code_ne hcc e5
end Go.Proofs.Ytbfbbpmddgfeiaa.M
namespace Go.Proofs.Ytbfbbpmddgfeiaa.fnDirect
open Go.ChangeShapes Go.WideShapes Go.ChangeAt Go.RowKit
open Go.ChangeMaps (open_string shut_string)
open Go.PlainAid (bt get_bt bt_nonneg bt_le)
set_option linter.unusedVariables false

theorem own : ownKnob Try.prog.godebug = none := by kernel_rfl
theorem laidOut : laidOutB Try.prog = true := by kernel_rfl

set_option maxHeartbeats 8000000 in
set_option maxRecDepth 100000 in
theorem walk (w : World) (a0 : Option Addr) (l0 k0 : Nat) (z0 : List Int) (w0 : IsRow .u8 w a0 l0 k0 z0) :
    Calls Try.prog 10 #[.slice a0 l0 k0] w fun e w' => e = .returned (.bool true) ∧ Below w.heap.size w w' := by
  by_cases hl : 1048576 < l0
  · go_enter Try.func10, Try.ntmps10
    go_wp2
    go_ret
    exact ⟨rfl, Below.refl _ _⟩
  go_enter Try.func10, Try.ntmps10
  go_wp2_with fail
  refine (DrawDirectForwards_any a0 l0 k0 z0 w w0).mono ?_
  rintro e u ⟨v, rfl, a, n, c, F, T, rfl, lt, fi, hn, bl⟩
  have LT := Lib.hid lt
  have FI := Lib.hid fi
  have BL := Lib.hid bl
  clear lt fi bl
  have hn2 : n ≤ 1048576 := by omega
  cases hok : M.fwd n F T
  · have HE : Hid (M.direct F T n = []) := M.direct_no hok
    have HO := Lib.hid hok
    have hl1 : ([] : List (ByteArray × ByteArray)).length ≤ 1048576 := Nat.zero_le _
    clear hok
    go_wp2_with fail
    refine (impl_DirectForwards _ _ _ _ _ _ LT.out FI.out).mono ?_
    rw [HE.out]
    rintro e v1 ⟨v1, rfl, r1, k1⟩
    replace LT := Lib.hid (LT.out.on k1)
    replace BL := Lib.hid (step BL.out k1)
    have R1 := Lib.hid r1
    clear r1
    clear k1
    go_wp2_with fail
    refine (spec_DirectForwards _ _ _ _ _ _ LT.out FI.out hn2).mono ?_
    rw [HE.out]
    rintro e v2 ⟨v2, rfl, r2, k2⟩
    replace LT := Lib.hid (LT.out.on k2)
    replace BL := Lib.hid (step BL.out k2)
    replace R1 := Lib.hid (R1.out.on k2)
    have R2 := Lib.hid r2
    clear r2
    clear k2
    go_wp2_with fail
    refine (soForwards_row _ _ _ _ _ _ R1.out R2.out hl1).mono ?_
    rintro e v3 ⟨rfl, k3⟩
    replace LT := Lib.hid (LT.out.on k3)
    replace BL := Lib.hid (step BL.out k3)
    replace R1 := Lib.hid (R1.out.on k3)
    replace R2 := Lib.hid (R2.out.on k3)
    clear k3
    go_wp2_with fail
    refine (impl_ForwardsValid _ _ _ _ _ _ LT.out FI.out).mono ?_
    rw [HO.out]
    rintro e v4 ⟨rfl, k4⟩
    replace LT := Lib.hid (LT.out.on k4)
    replace BL := Lib.hid (step BL.out k4)
    replace R1 := Lib.hid (R1.out.on k4)
    replace R2 := Lib.hid (R2.out.on k4)
    clear k4
    go_wp2_with fail
    refine (spec_DirectForwards _ _ _ _ _ _ LT.out FI.out hn2).mono ?_
    rw [HE.out]
    rintro e v5 ⟨v3, rfl, r3, k5⟩
    replace LT := Lib.hid (LT.out.on k5)
    replace BL := Lib.hid (step BL.out k5)
    replace R1 := Lib.hid (R1.out.on k5)
    replace R2 := Lib.hid (R2.out.on k5)
    have R3 := Lib.hid r3
    clear r3
    clear k5
    go_wp2_with fail
    refine (soForwards_row _ _ _ _ _ _ R1.out R3.out hl1).mono ?_
    rintro e v6 ⟨rfl, k6⟩
    replace LT := Lib.hid (LT.out.on k6)
    replace BL := Lib.hid (step BL.out k6)
    replace R1 := Lib.hid (R1.out.on k6)
    replace R2 := Lib.hid (R2.out.on k6)
    replace R3 := Lib.hid (R3.out.on k6)
    clear k6
    go_wp2
    go_ret
    exact ⟨rfl, BL.out⟩
  · have hg := M.direct_fwd hok
    have hr0 := fun p (hp : p ∈ M.direct F T n) => M.endOf_some ((M.direct_mem hok).1 hp).1
    have he0 := fun p (hp : p ∈ M.direct F T n) => M.direct_end hok hp
    have hu0 := fun j (hj : j + 1 < (M.direct F T n).length) => M.direct_up hok hj
    have hg0 := M.direct_longest hok
    have ht0 := M.direct_twice hok
    have ha0 := M.direct_all hok
    have hs0 := M.direct_same hok
    have hl1 := M.direct_small F T n hn2
    have hn30 := (M.fwd_yes hok).1
    obtain ⟨D, hD⟩ : ∃ D, M.direct F T n = D := ⟨_, rfl⟩
    obtain ⟨E, hE⟩ : ∃ E, M.endless F T n = E := ⟨_, rfl⟩
    rw [hD] at hg hr0 he0 hu0 hg0 ht0 ha0 hs0 hl1
    rw [hE] at ha0 hs0
    have HE := Lib.hid hD
    have HEE := Lib.hid hE
    have HO := Lib.hid hok
    have HBG := Lib.hid hg
    have hfit : Hid (FFits D.length (nF D) (nT D)) := fun i hi => ⟨M.code_size ((M.fwd_yes hg).2 i hi).1, M.code_size ((M.fwd_yes hg).2 i hi).2.1⟩
    have HR : Hid (∀ j, j < D.length → ∃ t, M.res F T n (nF D j) = some (nT D j, t)) := fun j hj => by
      rw [nF_at hj, nT_at hj]
      exact hr0 _ (List.getElem_mem hj)
    have HN : Hid (∀ j, j < D.length → M.nextOf (nF D) (nT D) D.length (nT D j) = none) := fun j hj => by
      rw [nT_at hj]
      exact he0 _ (List.getElem_mem hj)
    have HU := Lib.hid hu0
    obtain ⟨lg, hlg⟩ : ∃ x, M.longest (nF D) (nT D) D.length = x := ⟨_, rfl⟩
    rw [hlg] at hg0
    have HLG := Lib.hid hlg
    have HTW := Lib.hid ht0
    have HS := Lib.hid hs0
    have hlg1 : decide (lg ≤ 1) = true := decide_eq_true hg0
    have hsum : IntKind.i64.wrap ((D.length : Int) + (E.length : Int)) = (n : Int) := by rw [IntWalk.i64_in _ (by omega)]; omega
    have DR : ∀ (B : Nat) (x y : World) (k : Nat), Below B x y → Below B x (y.drewN k) := fun _ _ _ k h => ⟨h.os, h.tape, h.output, h.size, h.block⟩
    clear hok hD hE hg hr0 he0 hu0 ht0 hs0 hlg hg0
    go_wp2_with fail
    refine (impl_DirectForwards _ _ _ _ _ _ LT.out FI.out).mono ?_
    rw [HE.out]
    rintro e v1 ⟨v1, rfl, r1, k1⟩
    replace LT := Lib.hid (LT.out.on k1)
    replace BL := Lib.hid (step BL.out k1)
    have R1 := Lib.hid r1
    clear r1
    clear k1
    go_wp2_with fail
    refine (spec_DirectForwards _ _ _ _ _ _ LT.out FI.out hn2).mono ?_
    rw [HE.out]
    rintro e v2 ⟨v2, rfl, r2, k2⟩
    replace LT := Lib.hid (LT.out.on k2)
    replace BL := Lib.hid (step BL.out k2)
    replace R1 := Lib.hid (R1.out.on k2)
    have R2 := Lib.hid r2
    clear r2
    clear k2
    go_wp2_with fail
    refine (soForwards_row _ _ _ _ _ _ R1.out R2.out hl1).mono ?_
    rintro e v3 ⟨rfl, k3⟩
    replace LT := Lib.hid (LT.out.on k3)
    replace BL := Lib.hid (step BL.out k3)
    replace R1 := Lib.hid (R1.out.on k3)
    replace R2 := Lib.hid (R2.out.on k3)
    clear k3
    go_wp2_with fail
    refine (impl_ForwardsValid _ _ _ _ _ _ LT.out FI.out).mono ?_
    rw [HO.out]
    rintro e v4 ⟨rfl, k4⟩
    replace LT := Lib.hid (LT.out.on k4)
    replace BL := Lib.hid (step BL.out k4)
    replace R1 := Lib.hid (R1.out.on k4)
    replace R2 := Lib.hid (R2.out.on k4)
    clear k4
    obtain ⟨a1, c1, hv1, _, hw1⟩ := R1.out.form
    have W1 := Lib.hid hw1
    subst hv1
    clear hw1 R1 R2
    go_wp2
    go_loopw [5] (fun i wr => ∃ j : Nat, j ≤ D.length ∧ i = .int .i64 j ∧ Hid (Fws wr a n F T) ∧ Hid (Fws wr a1 D.length (nF D) (nT D)) ∧ Hid (Below w.heap.size w wr)) (fun i _ => D.length - (intOf i).toNat)
    case atStart => exact ⟨0, Nat.zero_le _, rfl, LT, W1, BL⟩
    case round =>
      obtain ⟨j, hj, rfl, LT, W1, BL⟩ := hrel
      by_cases hlt : j < D.length
      · obtain ⟨b, o, rfl, c0, c1'⟩ := W1.out j hlt
        have hlb := World.block_lt_of_cell? _ _ c0
        have hz1 := (hfit.out j hlt).1
        have hz2 := (hfit.out j hlt).2
        obtain ⟨t, ht⟩ := HR.out j hlt
        have HRj : Hid (resV (M.resCode F T n (nF D j)) = .tuple #[.string (nT D j), .int .i64 t, .bool true]) := by rw [Hid, M.resCode_yes HO.out ((M.fwd_yes HBG.out).2 j hlt).1, ht]; rfl
        have HNj : Hid (nxV (M.nextCode (nF D) (nT D) D.length (nT D j)) = .tuple #[.string ⟨#[]⟩, .bool false]) := by rw [Hid, M.nextCode_yes HBG.out, HN.out j hlt]; rfl
        have hdt : ((nT D j).toList == (nT D j).toList) = true := by simp
        clear ht
        by_cases h0 : j = 0
        · subst h0
          simp only [Nat.zero_mul, Nat.add_zero] at c0 c1'
          go_wp2_with (go_at_call 20; refine (impl_ResolveCode _ _ _ _ _ _ LT.out FI.out (nF D 0) hz1).mono ?_; rw [HRj.out]; rintro e v9 ⟨rfl, k9⟩; have LT9 := Lib.hid (LT.out.on k9); have W9 := Lib.hid (W1.out.on k9); have BL9 := Lib.hid (step BL.out k9); have d0 := (k9.cell (p := ⟨b, o, none⟩) hlb).trans c0; have d1 := (k9.cell (p := ⟨b, o + 1, none⟩) hlb).trans c1'; clear k9)
          go_at_call 16; refine (impl_NextCode _ _ _ _ _ _ W9.out hfit.out (nT D 0) hz2).mono ?_; rw [HNj.out]; rintro e v8 ⟨rfl, k8⟩; have LT8 := Lib.hid (LT9.out.on k8); have W8 := Lib.hid (W9.out.on k8); have BL8 := Lib.hid (step BL9.out k8); have f0 := (k8.cell (p := ⟨b, o, none⟩) (World.block_lt_of_cell? _ _ d0)).trans d0; have f1 := (k8.cell (p := ⟨b, o + 1, none⟩) (World.block_lt_of_cell? _ _ d1)).trans d1; clear k8
          go_wp2
          go_quiet (fail)
          go_wp2
          go_roundw
          case rel => exact ⟨0 + 1, by omega, by go_num, LT8.out.on (by first | exact DR _ _ _ _ (Below.refl _ _) | exact Below.refl _ _), W8.out.on (by first | exact DR _ _ _ _ (Below.refl _ _) | exact Below.refl _ _), by first | exact DR _ _ _ _ BL8.out | exact BL8⟩
          case measure => simp [intOf]; omega
        · obtain ⟨q, rfl⟩ : ∃ p, j = p + 1 := ⟨j - 1, by omega⟩
          obtain ⟨b2, o2, e2, c2, _⟩ := W1.out q (by omega)
          cases e2
          obtain ⟨u1, u2⟩ := HU.out q hlt
          have hq31 : q ≤ 1048576 := by omega
          have hs1 : IntKind.i64.wrap ((q : Int) + 1 - 1) = q := by rw [Int.add_sub_cancel]; exact IntWalk.i64_in _ (by omega)
          have hs2 : IntKind.i64.wrap (((q + 1 : Nat) : Int) - 1) = q := by rw [Int.natCast_add]; exact hs1
          have hg1 : decide (0 < ((q + 1 : Nat) : Int)) = true := decide_eq_true (by omega)
          have hg2 : decide (0 < (q : Int) + 1) = true := decide_eq_true (by omega)
          go_wp2_with (go_at_call 20; refine (impl_ResolveCode _ _ _ _ _ _ LT.out FI.out (nF D (q + 1)) hz1).mono ?_; rw [HRj.out]; rintro e v9 ⟨rfl, k9⟩; have LT9 := Lib.hid (LT.out.on k9); have W9 := Lib.hid (W1.out.on k9); have BL9 := Lib.hid (step BL.out k9); have d0 := (k9.cell (p := ⟨b, o + (q + 1) * 2, none⟩) hlb).trans c0; have d1 := (k9.cell (p := ⟨b, o + (q + 1) * 2 + 1, none⟩) hlb).trans c1'; have d2 := (k9.cell (p := ⟨b, o + q * 2, none⟩) hlb).trans c2; clear k9)
          go_at_call 16; refine (impl_NextCode _ _ _ _ _ _ W9.out hfit.out (nT D (q + 1)) hz2).mono ?_; rw [HNj.out]; rintro e v8 ⟨rfl, k8⟩; have LT8 := Lib.hid (LT9.out.on k8); have W8 := Lib.hid (W9.out.on k8); have BL8 := Lib.hid (step BL9.out k8); have f0 := (k8.cell (p := ⟨b, o + (q + 1) * 2, none⟩) (World.block_lt_of_cell? _ _ d0)).trans d0; have f1 := (k8.cell (p := ⟨b, o + (q + 1) * 2 + 1, none⟩) (World.block_lt_of_cell? _ _ d1)).trans d1; have f2 := (k8.cell (p := ⟨b, o + q * 2, none⟩) (World.block_lt_of_cell? _ _ d2)).trans d2; clear k8
          go_wp2
          go_quiet (fail)
          go_wp2
          go_roundw
          case rel => exact ⟨q + 1 + 1, by omega, by go_num, LT8.out.on (by first | exact DR _ _ _ _ (Below.refl _ _) | exact Below.refl _ _), W8.out.on (by first | exact DR _ _ _ _ (Below.refl _ _) | exact Below.refl _ _), by first | exact DR _ _ _ _ BL8.out | exact BL8⟩
          case measure => simp [intOf]; omega
      · obtain rfl : j = D.length := by omega
        clear HR HN HU
        go_wp2_with fail
        refine (impl_EndlessCodes _ _ _ _ _ _ LT.out FI.out).mono ?_
        rw [HEE.out]
        rintro e v21 ⟨ve, rfl, re, k21⟩
        replace LT := Lib.hid (LT.out.on k21)
        replace BL := Lib.hid (step BL.out k21)
        replace W1 := Lib.hid (W1.out.on k21)
        have RE := Lib.hid re
        clear re
        clear k21
        obtain ⟨ae, ce, hve, _, _⟩ := RE.out.form
        subst hve
        clear RE
        have HS2 : Hid (M.same (nF D) (nT D) D.length F T n = decide ((E.length : Int) = 0)) := by
          rw [Hid, HS.out]
          exact decide_eq_decide.2 ⟨fun h => by rw [h]; rfl, fun h => by omega⟩
        go_wp2_with fail
        refine (impl_LongestChain _ _ _ _ _ _ W1.out hfit.out).mono ?_
        rw [HLG.out]
        rintro e v22 ⟨rfl, k22⟩
        replace LT := Lib.hid (LT.out.on k22)
        replace BL := Lib.hid (step BL.out k22)
        replace W1 := Lib.hid (W1.out.on k22)
        clear k22
        go_wp2_with fail
        refine (impl_DirectForwards _ _ _ _ _ _ W1.out hfit.out).mono ?_
        rw [HTW.out]
        rintro e v23 ⟨vd, rfl, rd, k23⟩
        replace LT := Lib.hid (LT.out.on k23)
        replace BL := Lib.hid (step BL.out k23)
        replace W1 := Lib.hid (W1.out.on k23)
        have RD := Lib.hid rd
        clear rd
        clear k23
        obtain ⟨ad, cd, hvd, _, hwd⟩ := RD.out.form
        have WD := Lib.hid hwd
        subst hvd
        clear RD hwd
        go_wp2_with fail
        refine (soForwards_same _ _ _ _ _ _ _ _ WD.out W1.out hl1).mono ?_
        rintro e v24 ⟨rfl, k24⟩
        replace LT := Lib.hid (LT.out.on k24)
        replace BL := Lib.hid (step BL.out k24)
        replace W1 := Lib.hid (W1.out.on k24)
        replace WD := Lib.hid (WD.out.on k24)
        clear k24
        go_wp2_with fail
        refine (impl_SameForwards _ _ _ _ _ _ W1.out hfit.out _ _ _ _ _ LT.out FI.out).mono ?_
        rw [HS2.out]
        rintro e v25 ⟨rfl, k25⟩
        replace LT := Lib.hid (LT.out.on k25)
        replace BL := Lib.hid (step BL.out k25)
        replace W1 := Lib.hid (W1.out.on k25)
        replace WD := Lib.hid (WD.out.on k25)
        clear k25
        go_wp2
        go_ret
        refine ⟨congrArg (fun b => Ending.returned (Value.bool b)) ?_, BL.out⟩
        by_cases e : E = []
        · simp [e]
        · simp [e]

set_option maxRecDepth 100000 in
theorem lifted (os : Os) (started : os.Started) (H : Type) (enc : TypeId × Value → H) :
    ReturnsInHanded {} Try.checked os 10 .any (Rows.fnDirectSpec.pre6 enc Try.prog Try.f10 Rows.fnDirectRow.domain false) (Rows.fnDirectSpec.post enc Try.prog Try.f10 false true false false) := by
  refine returnsInHanded_of_change (C := Try.checked) own started (by kernel_rfl) Try.func10
    (ChangeSpec.witness6 (enc := enc) (C := Try.checked) false ⟨#[], #[.slice none 0 0], []⟩ 8 (by kernel_rfl) (by kernel_rfl) (by kernel_rfl) (by kernel_rfl)) ?_
  intro W base args ds gs before hval0 hW hcnd _
  have hval : ∀ (j : Nat) t v, Try.f10.params[j]? = some t → args[j]? = some v → Value.okWide Try.prog W .any base t v := hval0
  have hW' := hW
  obtain ⟨p, q, hA0, hV, rfl, hfz, hnd⟩ := hW
  have hA : DataW.TrodAll enc Try.prog W 0 (fun _ => true) true Try.f10.params.toList args.toList ds p := hA0
  rw [Try.params10] at hA hval
  obtain ⟨v0, vs0, d0, ds0, p0, q0, hargs, rfl, rfl, h0, r0⟩ := trodAll_cons hA
  obtain ⟨rfl, rfl, rfl⟩ := trodAll_nil r0
  obtain rfl : args = #[v0] := by cases args; simp_all
  obtain ⟨rfl, rfl⟩ := trodVars_none hV
  have g0 := h0
  have lt0 : ∀ x ∈ p0, x.block < W.heap.size := by obtain ⟨m, hm⟩ := g0; exact DataW.trod_lt m _ _ _ hm
  obtain ⟨a0, l0, k0, rfl⟩ := okWide_slice Try.underlying22 (hval 0 22 v0 rfl rfl)
  obtain ⟨z0, w0⟩ : ∃ zs, IsRow .u8 W a0 l0 k0 zs := by
    obtain ⟨fuel, hf⟩ := h0
    rcases open_ints Try.underlying22 Try.underlying5 (by kernel_rfl) hf with ⟨hcs, _⟩ | ⟨x, l, c, zs, hcs, _, hl, hm, hz, _, hcell, hwz⟩
    · simp [Value.cells] at hcs
      obtain ⟨rfl, rfl, rfl⟩ := hcs
      exact ⟨[], .inl ⟨rfl, rfl, rfl, rfl⟩⟩
    · simp [Value.cells] at hcs
      obtain ⟨rfl, rfl, rfl⟩ := hcs
      exact ⟨zs, .inr ⟨_, rfl, hl, hm, by simpa using hz, hcell, hwz⟩⟩
  clear hA0 hval0
  refine (walk W a0 l0 k0 z0 w0).mono fun e W' ⟨he, bel⟩ => ?_
  subst he
  exact ⟨_, rfl, _, _, _, [], _, [], hW', trodAll_mk1 (shut_bool Try.underlying4 _), (trodAll_cons_mk (Below.trod laidOut (by kernel_rfl) (of_decide_eq_true (by kernel_rfl)) g0 bel lt0) trodAll_mk0), rfl, bel.frame _, fun h => by cases h⟩

theorem proved : Rows.FnDirectSaid :=
  OpenClaim.holds_of_wide 10 Try.f10 rfl rfl rfl rfl rfl rfl rfl ⟨rfl, rfl, rfl, rfl, rfl⟩ rfl rfl rfl rfl rfl (by kernel_rfl) Try.func10 (by kernel_rfl)
    (of_decide_eq_true (by kernel_rfl)) (by unfold Func.isWrapper; first | (rw [if_pos (by decide +kernel)]; kernel_rfl) | (rw [if_neg (by decide +kernel)]; exact ⟨rfl, rfl⟩))
    (fun os started H enc _ => lifted os started H enc)
#print axioms proved
end Go.Proofs.Ytbfbbpmddgfeiaa.fnDirect
