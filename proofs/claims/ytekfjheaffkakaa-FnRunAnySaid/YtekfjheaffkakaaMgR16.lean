/-
  Letters of the same point stay in the order in which they were; the round of a plan by the law's own call.
-/
import Derived.Test.YtekfjheaffkakaaMgR15
import Derived.Test.YtekfjheaffkakaaRun
import Derived.Deep.RegionHeld3
import Derived.BigQuiet
import Derived.Test.YtekfjheaffkakaaMgR3
import Derived.Test.YtekfjheaffkakaaMgR11
import Derived.Test.YtekfjheaffkakaaMgR13
import Derived.Test.YtekfjheaffkakaaMgR12
namespace Go.Proofs.Ytekfjheaffkakaa
open Go.RowKit
set_option linter.unusedVariables false

theorem two_sub {α : Type} {x y : α} : ∀ {L : List α}, [x, y].Sublist L → ∃ k1 k2, k1 < k2 ∧ ∃ (h1 : k1 < L.length) (h2 : k2 < L.length), L[k1] = x ∧ L[k2] = y
  | [], h => by simp at h
  | z :: L, h => by
    rcases List.sublist_cons_iff.1 h with h | ⟨t, e, h⟩
    · obtain ⟨k1, k2, hk, h1, h2, e1, e2⟩ := two_sub h
      exact ⟨k1 + 1, k2 + 1, by omega, by simpa using h1, by simpa using h2, by simpa using e1, by simpa using e2⟩
    · injection e with e1 e2
      subst e1 e2
      obtain ⟨k, hk, he⟩ := List.getElem_of_mem (h.subset List.mem_cons_self)
      exact ⟨0, k + 1, by omega, by simp, by simpa using hk, by simp, by simpa using he⟩
theorem next_sub {α : Type} {L : List α} {i : Nat} (hi : i + 1 < L.length) : [L[i], L[i + 1]].Sublist L := by
  have e1 : L.drop i = L[i] :: L.drop (i + 1) := (List.getElem_cons_drop (by omega)).symm
  have e2 : L.drop (i + 1) = L[i + 1] :: L.drop (i + 1 + 1) := (List.getElem_cons_drop hi).symm
  have h : [L[i], L[i + 1]].Sublist (L.drop i) := by
    rw [e1, e2]
    exact ((List.nil_sublist _).cons_cons _).cons_cons _
  exact h.trans (List.drop_sublist _ _)
/-- Two letters side by side with the same code stand in the batch in the same order. -/
theorem srt_stable {n : Nat} {S : Nat → ByteArray} {L : List (Int × ByteArray)} (hb : BatchL L) {i : Nat} (hi : i + 1 < (srt n S L).length) (hc : nC (srt n S L) (i + 1) = nC (srt n S L) i) :
    ∃ k1 k2 : Nat, k1 < k2 ∧ k2 < L.length ∧ M.findLetter L.length (nI L) (nC L) (nI (srt n S L) i) = (k1 : Int) ∧ M.findLetter L.length (nI L) (nC L) (nI (srt n S L) (i + 1)) = (k2 : Int) := by
  rw [nC_at hi, nC_at (by omega)] at hc
  have h1 := next_sub hi
  have hr := (srt_asc n S L).2
  have r1 := hr _ (List.getElem_mem (show i < (srt n S L).length by omega))
  have r2 := hr _ (List.getElem_mem hi)
  have hv : rkN n S (srt n S L)[i + 1] = rkN n S (srt n S L)[i] := by unfold rkN; rw [hc]
  have h2 := h1.filter fun y => hasR n S y && rkN n S y == rkN n S (srt n S L)[i]
  rw [srt_bucket] at h2
  have h3 : ([(srt n S L)[i], (srt n S L)[i + 1]].filter fun y => hasR n S y && rkN n S y == rkN n S (srt n S L)[i]) = [(srt n S L)[i], (srt n S L)[i + 1]] := by
    rw [List.filter_eq_self]
    intro y hy
    rcases List.mem_cons.1 hy with rfl | hy
    · rw [r1]; simp
    · rw [List.mem_singleton.1 hy, r2, hv]; simp
  rw [h3] at h2
  obtain ⟨k1, k2, hk, l1, l2, e1, e2⟩ := two_sub (h2.trans List.filter_sublist)
  refine ⟨k1, k2, hk, l2, ?_, ?_⟩
  · rw [← find_at hb l1, nI_at l1, e1, nI_at (by omega)]
  · rw [← find_at hb l2, nI_at l2, e2, nI_at hi]
set_option maxHeartbeats 1000000 in
theorem soRun_any (w : World) (b p : Int) (a : Option Addr) (n c : Nat) (S : Nat → ByteArray) (h : Strs w a n S) (hf : SFits n S) (hn : n ≤ 1048576) (a2 : Option Addr) (m c2 : Nat) (I : Nat → Int) (C : Nat → ByteArray) (h2 : Lts w a2 m I C) (hf2 : Fits m I C) (hm : m ≤ 1048576) :
    Calls Try.prog 8 #[.agg #[.int .i64 b, .int .i64 p, .slice a n c], .slice a2 m c2] w fun e w' => ∃ v, e = .returned v ∧ Row w' w.heap.size v (runList b p n S m I C) ∧ Below w.heap.size w w' := by
  have b0 := below_alloc0 w (.cells #[.int .i64 b, .int .i64 p, .slice a n c] 25)
  have HS := Lib.hid (h.on b0)
  have HL := Lib.hid (h2.on b0)
  have X := Lib.hid (tri_made w (.int .i64 b) (.int .i64 p) (.slice a n c) 25)
  have HB := Lib.hid b0
  obtain ⟨W, hW⟩ : ∃ W, w.alloc (.cells #[.int .i64 b, .int .i64 p, .slice a n c] 25) = W := ⟨_, rfl⟩
  rw [hW] at HS HL X HB
  have HW := Lib.hid hW
  have hz : Hid (W.heap.size = w.heap.size + 1) := by rw [← hW]; simp [Hid]
  clear h h2 b0 hW
  obtain ⟨⟨d0, d1, d2⟩, g0, g1, g2⟩ := X.out
  go_enter Try.func8, Try.ntmps8
  go_wp2_with fail
  rw [HW.out]
  refine (impl_RunPlan W b p a n c S HS.out hf hn a2 m c2 I C HL.out hf2 hm).mono ?_
  rintro e w1 ⟨p1, p2, rfl, r1, r2, _, k1⟩
  have R1 := Lib.hid (r1.lower (base' := w.heap.size) (by have := hz.out; omega))
  have K1 := Lib.hid (sstep HB.out k1)
  clear r1 r2 k1 d0 d1 d2 g0 g1 g2
  go_wp2
  go_ret
  exact ⟨_, rfl, R1.out, K1.out⟩
end Go.Proofs.Ytekfjheaffkakaa

/-
  What the bins of a pass by a digit have: digits, places, lengths. No program is named here.
-/
namespace Go.Proofs.Ytekfjheaffkakaa
open Go.PlainAid (bt get_bt bt_nonneg bt_le)
set_option linter.unusedVariables false

theorem sub_two {α : Type} {x y : α} : ∀ {L : List α}, [x, y].Sublist L → ∃ k1 k2, k1 < k2 ∧ ∃ (h1 : k1 < L.length) (h2 : k2 < L.length), L[k1] = x ∧ L[k2] = y
  | [], h => by simp at h
  | z :: L, h => by
    rcases List.sublist_cons_iff.1 h with h | ⟨t, e, h⟩
    · obtain ⟨k1, k2, hk, h1, h2, e1, e2⟩ := sub_two h
      exact ⟨k1 + 1, k2 + 1, by omega, by simpa using h1, by simpa using h2, by simpa using e1, by simpa using e2⟩
    · injection e with e1 e2
      subst e1 e2
      obtain ⟨k, hk, he⟩ := List.getElem_of_mem (h.subset List.mem_cons_self)
      exact ⟨0, k + 1, by omega, by simp, by simpa using hk, by simp, by simpa using he⟩
theorem sub_next {α : Type} {L : List α} {i : Nat} (hi : i + 1 < L.length) : [L[i], L[i + 1]].Sublist L := by
  have e1 : L.drop i = L[i] :: L.drop (i + 1) := (List.getElem_cons_drop (by omega)).symm
  have e2 : L.drop (i + 1) = L[i + 1] :: L.drop (i + 1 + 1) := (List.getElem_cons_drop hi).symm
  have h : [L[i], L[i + 1]].Sublist (L.drop i) := by
    rw [e1, e2]
    exact ((List.nil_sublist _).cons_cons _).cons_cons _
  exact h.trans (List.drop_sublist _ _)
def digK (q : Nat) (c : ByteArray) : Option Nat := some (bt c q - 48).toNat
theorem binTo_dig (I : Nat → Int) (C : Nat → ByteArray) (q d : Nat) : ∀ k, M.binTo (fun i => digK q (C i)) I C k d = (M.lst I C k).filter fun y => digK q y.2 == some d
  | 0 => rfl
  | k + 1 => by
    have ih := binTo_dig I C q d k
    rw [M.lst_succ, List.filter_append, ← ih]
    obtain ⟨c, h⟩ : ∃ c, digK q (C k) = some c := ⟨_, rfl⟩
    rw [M.binTo_some (key := fun i => digK q (C i)) h]
    simp only
    by_cases e : d = c
    · subst e
      rw [if_pos rfl]
      have e2 : [(I k, C k)].filter (fun y => digK q y.2 == some d) = [(I k, C k)] := by simp [h]
      rw [e2]
    · rw [if_neg e]
      have e2 : [(I k, C k)].filter (fun y => digK q y.2 == some d) = [] := by simp [h]; exact fun e3 => e e3.symm
      rw [e2, List.append_nil]
theorem bins_list (L : List (Int × ByteArray)) (q d : Nat) : M.bins (nI L) (nC L) q L.length d = L.filter fun y => digK q y.2 == some d := by
  have h := binTo_dig (nI L) (nC L) q d L.length
  rw [lst_nI] at h
  exact h
theorem bin_at {L : List (Int × ByteArray)} (hL : BatchL L) {q d : Nat} (hq : q ≤ 6) {i : Nat} (hi : i < (M.bins (nI L) (nC L) q L.length d).length) :
    M.code (nC (M.bins (nI L) (nC L) q L.length d) i) = true ∧ bt (nC (M.bins (nI L) (nC L) q L.length d) i) q - 48 = (d : Int) := by
  have h := List.getElem_mem hi
  rw [nC_at hi]
  obtain ⟨y, hy⟩ : ∃ y, (M.bins (nI L) (nC L) q L.length d)[i] = y := ⟨_, rfl⟩
  rw [hy] at h ⊢
  rw [bins_list] at h
  obtain ⟨hm, hk⟩ := List.mem_filter.1 h
  have hc := (hL.1 y hm).1
  refine ⟨hc, ?_⟩
  have h2 := M.code_yes hc
  have h3 := M.digs_bt h2.1 q (by omega)
  have h4 := beq_iff_eq.1 hk
  unfold digK at h4
  have := Option.some.inj h4
  omega
theorem bin_plc {L : List (Int × ByteArray)} (hL : BatchL L) {q d : Nat} {i : Nat} (hi : i + 1 < (M.bins (nI L) (nC L) q L.length d).length) :
    ∃ k1 k2 : Nat, k1 < k2 ∧ M.findLetter L.length (nI L) (nC L) (nI (M.bins (nI L) (nC L) q L.length d) i) = (k1 : Int) ∧ M.findLetter L.length (nI L) (nC L) (nI (M.bins (nI L) (nC L) q L.length d) (i + 1)) = (k2 : Int) := by
  have h1 := sub_next hi
  have h2 : [(M.bins (nI L) (nC L) q L.length d)[i], (M.bins (nI L) (nC L) q L.length d)[i + 1]].Sublist L := by
    refine h1.trans ?_
    rw [bins_list]
    exact List.filter_sublist
  obtain ⟨k1, k2, hk, l1, l2, e1, e2⟩ := sub_two h2
  refine ⟨k1, k2, hk, ?_, ?_⟩
  · rw [← find_at hL l1, nI_at l1, e1, nI_at (by omega)]
  · rw [← find_at hL l2, nI_at l2, e2, nI_at hi]
theorem flat_le10 (MM : Nat → List (Int × ByteArray)) {N k : Nat} (hk : k < N) : (M.flat MM k).length + (MM k).length ≤ (M.flat MM N).length := by
  have h1 : (M.flat MM (k + 1)).length = (M.flat MM k).length + (MM k).length := by
    show (M.flat MM k ++ MM k).length = _
    rw [List.length_append]
  have h2 : ∀ d, (M.flat MM (k + 1)).length ≤ (M.flat MM (k + 1 + d)).length := fun d => by
    induction d with
    | zero => exact Nat.le_refl _
    | succ d ih =>
      refine Nat.le_trans ih ?_
      show _ ≤ (M.flat MM (k + 1 + d) ++ MM (k + 1 + d)).length
      rw [List.length_append]
      omega
  have h3 := h2 (N - (k + 1))
  rw [show k + 1 + (N - (k + 1)) = N by omega] at h3
  omega
end Go.Proofs.Ytekfjheaffkakaa

/-
  What a pass by a digit leaves: ascending digits, equal ones in the order of the batch. No program is named here.
-/
namespace Go.Proofs.Ytekfjheaffkakaa
open Go.PlainAid (bt get_bt bt_nonneg bt_le)
set_option linter.unusedVariables false

theorem flatF (F : Nat → List (Int × ByteArray)) (q : Int × ByteArray → Bool) : ∀ N, (M.flat F N).filter q = M.flat (fun v => (F v).filter q) N
  | 0 => rfl
  | N + 1 => by
    show (M.flat F N ++ F N).filter q = M.flat (fun v => (F v).filter q) N ++ (F N).filter q
    rw [List.filter_append, flatF F q N]
theorem flatP (F : Nat → List (Int × ByteArray)) (v : Nat) (hF : ∀ u, u ≠ v → F u = []) : ∀ n, M.flat F n = if v < n then F v else []
  | 0 => by rw [if_neg (by omega)]; rfl
  | n + 1 => by
    show M.flat F n ++ F n = _
    rw [flatP F v hF n]
    by_cases h : v < n
    · rw [if_pos h, if_pos (by omega), hF n (by omega), List.append_nil]
    · rw [if_neg h, List.nil_append]
      by_cases e : n = v
      · subst e; rw [if_pos (by omega)]
      · rw [if_neg (by omega), hF n e]
theorem pass_bucket (L : List (Int × ByteArray)) (q : Nat) {v : Nat} (hv : v < 10) : (M.flat (M.bins (nI L) (nC L) q L.length) 10).filter (fun y => digK q y.2 == some v) = L.filter fun y => digK q y.2 == some v := by
  rw [flatF, flatP _ v (fun u hu => ?_), if_pos hv, bins_list, List.filter_filter]
  · congr 1
    funext y
    cases digK q y.2 == some v <;> rfl
  · rw [bins_list, List.filter_filter]
    refine List.filter_eq_nil_iff.2 fun y _ h => ?_
    rw [Bool.and_eq_true, beq_iff_eq, beq_iff_eq] at h
    exact hu (Option.some.inj (h.2.symm.trans h.1))
theorem pass_twice (L : List (Int × ByteArray)) (q : Nat) : M.flat (M.bins (nI (M.flat (M.bins (nI L) (nC L) q L.length) 10)) (nC (M.flat (M.bins (nI L) (nC L) q L.length) 10)) q (M.flat (M.bins (nI L) (nC L) q L.length) 10).length) 10 = M.flat (M.bins (nI L) (nC L) q L.length) 10 := by
  refine M.flat_congr fun d hd => ?_
  rw [bins_list, pass_bucket L q hd, bins_list]
theorem flatA {κ : Int × ByteArray → Int} {F : Nat → List (Int × ByteArray)} (h : ∀ d, ∀ y ∈ F d, κ y = (d : Int)) : ∀ N, (M.flat F N).Pairwise (fun y z => κ y ≤ κ z) ∧ ∀ y ∈ M.flat F N, κ y < (N : Int)
  | 0 => ⟨List.Pairwise.nil, fun y hy => by cases hy⟩
  | N + 1 => by
    obtain ⟨h1, h2⟩ := flatA h N
    refine ⟨?_, fun y hy => ?_⟩
    · show (M.flat F N ++ F N).Pairwise _
      refine List.pairwise_append.2 ⟨h1, ?_, fun y hy z hz => ?_⟩
      · have hp : ∀ (L : List (Int × ByteArray)), (∀ y ∈ L, κ y = (N : Int)) → L.Pairwise (fun y z => κ y ≤ κ z) := fun L hL => by
          refine List.pairwise_iff_getElem.2 fun i j hi hj _ => ?_
          rw [hL _ (List.getElem_mem hi), hL _ (List.getElem_mem hj)]
          exact Int.le_refl _
        exact hp _ (h N)
      · rw [h N z hz]; have := h2 y hy; omega
    · rcases List.mem_append.1 (show y ∈ M.flat F N ++ F N from hy) with hy | hy
      · have := h2 y hy; omega
      · rw [h N y hy]; omega
theorem pass_next {L : List (Int × ByteArray)} (hL : BatchL L) {q : Nat} (hq : q ≤ 6) {R : List (Int × ByteArray)} (hR : M.flat (M.bins (nI L) (nC L) q L.length) 10 = R) {i : Nat} (hi : i + 1 < R.length) :
    bt (nC R i) q ≤ bt (nC R (i + 1)) q ∧ (bt (nC R i) q = bt (nC R (i + 1)) q → ∃ k1 k2 : Nat, k1 < k2 ∧ M.findLetter L.length (nI L) (nC L) (nI R i) = (k1 : Int) ∧ M.findLetter L.length (nI L) (nC L) (nI R (i + 1)) = (k2 : Int)) := by
  have hk : ∀ d, ∀ y ∈ M.bins (nI L) (nC L) q L.length d, bt y.2 q - 48 = (d : Int) := fun d y hy => by
    obtain ⟨j, hj, e⟩ := List.getElem_of_mem hy
    have := (bin_at hL hq hj).2
    rw [nC_at hj, e] at this
    exact this
  have ha := flatA hk 10
  rw [hR] at ha
  have h1 := List.pairwise_iff_getElem.1 ha.1 i (i + 1) (by omega) hi (by omega)
  have h9 := ha.2 _ (List.getElem_mem (show i < R.length by omega))
  rw [nC_at (by omega), nC_at hi]
  refine ⟨by omega, fun e => ?_⟩
  have hb := bt_nonneg R[i].2 q
  obtain ⟨v, hv⟩ : ∃ v : Nat, (bt R[i].2 q - 48).toNat = v := ⟨_, rfl⟩
  have hv10 : v < 10 := by omega
  have d1 : digK q R[i].2 = some v := by unfold digK; rw [hv]
  have d2 : digK q R[i + 1].2 = some v := by unfold digK; rw [← e, hv]
  have h2 := (sub_next hi).filter fun y => digK q y.2 == some v
  have h3 : ([R[i], R[i + 1]].filter fun y => digK q y.2 == some v) = [R[i], R[i + 1]] := by
    rw [List.filter_eq_self]
    intro y hy
    rcases List.mem_cons.1 hy with rfl | hy
    · rw [d1]; simp
    · rw [List.mem_singleton.1 hy, d2]; simp
  have h4 := pass_bucket L q hv10
  rw [hR] at h4
  rw [h3, h4] at h2
  obtain ⟨k1, k2, hk, l1, l2, e1, e2⟩ := sub_two (h2.trans List.filter_sublist)
  refine ⟨k1, k2, hk, ?_, ?_⟩
  · rw [← find_at hL l1, nI_at l1, e1, nI_at (by omega)]
  · rw [← find_at hL l2, nI_at l2, e2, nI_at hi]
end Go.Proofs.Ytekfjheaffkakaa

/-
  Sorted is: no pair in the wrong order. And the pairs of letters turned round.
-/
namespace Go.Proofs.Ytekfjheaffkakaa
open Go.RowKit

theorem M.coless : ∀ c a b : List UInt8, Op.bytesLess c a = true → Op.bytesLess c b = true ∨ Op.bytesLess b a = true
  | [], [], _, h => by simp [Op.bytesLess] at h
  | _ :: _, [], _, h => by simp [Op.bytesLess] at h
  | c, _ :: _, [], _ => Or.inr (by simp [Op.bytesLess])
  | [], _ :: _, _ :: _, _ => Or.inl (by simp [Op.bytesLess])
  | x :: c, z :: a, y :: b, h => by
    have ih := M.coless c a b
    unfold Op.bytesLess at h ⊢
    simp only [UInt8.lt_iff_toNat_lt] at h ⊢
    by_cases h1 : x.toNat < y.toNat
    · left; simp [h1]
    · by_cases h2 : y.toNat < z.toNat
      · right; simp [h2]
      · by_cases h3 : x.toNat < z.toNat
        · omega
        · by_cases h4 : z.toNat < x.toNat
          · have hz : ¬ x = z := fun e => by subst e; omega
            simp [h3, hz] at h
          · have e1 : x = y := UInt8.toNat_inj.1 (by omega)
            have e2 : y = z := UInt8.toNat_inj.1 (by omega)
            subst e1 e2
            simp only [Nat.lt_irrefl, decide_false, Bool.false_or, beq_self_eq_true, Bool.true_and] at h ⊢
            exact ih h
theorem M.invAt_zero {C : Nat → ByteArray} {i : Nat} : ∀ {k : Nat}, M.invAt C i k = 0 ↔ ∀ j, j < k → M.less (C i) (C j) = false
  | 0 => ⟨fun _ j hj => absurd hj (by omega), fun _ => rfl⟩
  | k + 1 => by
    have ih := M.invAt_zero (C := C) (i := i) (k := k)
    cases h : M.less (C i) (C k)
    · rw [M.invAt_no h, ih]
      constructor
      · intro hh j hj
        by_cases e : j = k
        · rw [e]; exact h
        · exact hh j (by omega)
      · intro hh j hj
        exact hh j (by omega)
    · rw [M.invAt_yes h]
      constructor
      · intro hh; omega
      · intro hh
        have := hh k (by omega)
        rw [h] at this
        cases this
theorem M.inv_zero {C : Nat → ByteArray} : ∀ {n : Nat}, M.inv C n = 0 ↔ ∀ i, i < n → ∀ j, j < i → M.less (C i) (C j) = false
  | 0 => ⟨fun _ i hi => absurd hi (by omega), fun _ => rfl⟩
  | n + 1 => by
    have ih := M.inv_zero (C := C) (n := n)
    have hz := M.invAt_zero (C := C) (i := n) (k := n)
    rw [M.inv_succ]
    constructor
    · intro h i hi
      by_cases e : i = n
      · rw [e]; exact hz.1 (by omega)
      · exact ih.1 (by omega) i (by omega)
    · intro h
      have h1 := ih.2 fun i hi => h i (by omega)
      have h2 := hz.2 (h n (by omega))
      omega
theorem M.asc_inv (C : Nat → ByteArray) : ∀ n, M.asc C n = decide (M.inv C n = 0)
  | 0 => rfl
  | 1 => rfl
  | n + 2 => by
    have ih := M.asc_inv C (n + 1)
    show (M.asc C (n + 1) && !M.less (C (n + 1)) (C n)) = _
    rw [ih]
    by_cases h : M.inv C (n + 1) = 0
    · rw [decide_eq_true h]
      have hall := M.inv_zero.1 h
      cases hl : M.less (C (n + 1)) (C n)
      · symm
        simp only [Bool.true_and, Bool.not_false, decide_eq_true_eq]
        refine M.inv_zero.2 fun i hi j hj => ?_
        by_cases e : i = n + 1
        · subst e
          by_cases e2 : j = n
          · rw [e2]; exact hl
          · cases hx : M.less (C (n + 1)) (C j)
            · rfl
            · rcases M.coless _ _ (C n).toList hx with h1 | h1
              · exact absurd (show M.less (C (n + 1)) (C n) = true from h1) (by rw [hl]; decide)
              · exact absurd (show M.less (C n) (C j) = true from h1) (by rw [hall n (by omega) j (by omega)]; decide)
        · exact hall i (by omega) j hj
      · symm
        simp only [Bool.true_and, Bool.not_true, decide_eq_false_iff_not]
        intro hz
        have := M.inv_zero.1 hz (n + 1) (by omega) n (by omega)
        rw [hl] at this
        cases this
    · rw [decide_eq_false h, Bool.false_and]
      symm
      rw [decide_eq_false_iff_not]
      intro hz
      exact h (M.inv_zero.2 fun i hi => M.inv_zero.1 hz i (by omega))
theorem inversions_turned {n : Nat} {I : Nat → Int} {C : Nat → ByteArray} (h : M.batch n I C = true) : M.inversions (M.lst I C n).reverse.length (nI (M.lst I C n).reverse) (nC (M.lst I C n).reverse) = (M.ups C n : Int) := by
  have hb := (batchL_list _).2 (((batchL_iff n I C).1 h).perm (List.reverse_perm _).symm)
  have hl : (M.lst I C n).reverse.length = n := by rw [List.length_reverse, lst_len]
  rw [M.inversions_yes hb, hl, ← M.inv_rev C n]
  congr 1
  refine M.inv_congr n fun i hi => ?_
  rw [nC_at (by omega), List.getElem_reverse, lst_get, lst_len]
theorem pairs_sum (C : Nat → ByteArray) (n : Nat) (hn : n ≤ 61) : (n : Int) * ((n : Int) - 1) = 2 * ((M.inv C n : Int) + M.ups C n + M.eqs C n) ∧ (M.inv C n : Int) + M.ups C n + M.eqs C n ≤ 1860 := by
  have h := M.all_pairs C n
  have e : (n : Int) * ((n : Int) - 1) = ((n * n : Nat) : Int) - n := by rw [Int.mul_sub, Int.mul_one]; simp
  have h2 : n * n ≤ 61 * 61 := Nat.mul_le_mul hn hn
  rw [e]
  omega
end Go.Proofs.Ytekfjheaffkakaa
