/-
  The wrong letters behind a faulty pass: those whose missort tells another bin than their code. No program is named here.
-/
import Derived.Test.YtnaghfppeejaoaaDoorErrA
import Derived.Test.YtnaghfppeejaoaaDoorSample
import Derived.Test.YtnaghfppeejaoaaDoorSoA
import Derived.Test.YtnaghfppeejaoaaDoorMat
import Derived.Test.YtnaghfppeejaoaaDoorIntS
import Derived.Deep.RegionHeld3
import Derived.BigQuiet
namespace Go.Proofs.YtnaghfppeejaoaaDoor
set_option linter.unusedVariables false

theorem plan_due {b p : Int} {n : Nat} {S : Nat → ByteArray} (hp : M.plan b p n S = true) {q : Nat} (hq : (q : Int) < p) (c : ByteArray) : M.planBin b p n S c q = dueBin b n S q c := by
  unfold M.planBin dueBin
  by_cases h : M.rankTo S c n < 0
  · rw [if_neg (by omega), if_pos h]
  · rw [if_pos ⟨hp, by omega, hq, by omega⟩, if_neg h, Int.toNat_natCast]
/-- The bins of a faulty pass over a list. -/
def falM (b : Int) (n : Nat) (S : Nat → ByteArray) (L : List (Int × ByteArray)) (q m3 : Nat) (I B : Nat → Int) : Nat → List (Int × ByteArray) := M.binTo (fkey b n S (nC L) q (nI L) m3 I B) (nI L) (nC L) L.length
theorem falM_filter (b : Int) (n : Nat) (S : Nat → ByteArray) (L : List (Int × ByteArray)) (q m3 : Nat) (I B : Nat → Int) (d : Nat) : falM b n S L q m3 I B d = L.filter fun y => fkY b n S q m3 I B y == some d := by
  have := binTo_gen (fkY b n S q m3 I B) (nI L) (nC L) d L.length
  rw [lst_nI] at this
  exact this
theorem falM_perm {b : Int} {n : Nat} {S : Nat → ByteArray} {L : List (Int × ByteArray)} (s1 : 2 ≤ b) (q : Nat) {m3 : Nat} {I B : Nat → Int} (hmt : M.misTo (b - 1) I B m3) : (M.flat (falM b n S L q m3 I B) b.toNat ++ M.restTo (fkey b n S (nC L) q (nI L) m3 I B) (nI L) (nC L) L.length).Perm L := by
  have hp := flat_rest (fkey b n S (nC L) q (nI L) m3 I B) (nI L) (nC L) b.toNat L.length fun i _ d hd => fkey_bd (p := b) s1 hmt hd
  rw [lst_nI] at hp
  exact hp
theorem falM_ok {b : Int} {n : Nat} {S : Nat → ByteArray} {L : List (Int × ByteArray)} (s1 : 2 ≤ b) (hL : BatchL L) (q : Nat) {m3 : Nat} {I B : Nat → Int} (hmt : M.misTo (b - 1) I B m3) : binsOk b b.toNat (falM b n S L q m3 I B) = true := by
  unfold binsOk
  rw [decide_eq_true (by omega), Bool.true_and]
  exact (batchL_list _).2 (hL.perm (falM_perm (n := n) (S := S) s1 q hmt).symm).left
/-- A letter has the missort j, which tells a wrong bin. -/
def hitB (b : Int) (n : Nat) (S : Nat → ByteArray) (q : Nat) (I B : Nat → Int) (j : Nat) (y : Int × ByteArray) : Bool := (I j == y.1) && !(dueBin b n S q y.2 == B j)
def badB (b : Int) (n : Nat) (S : Nat → ByteArray) (q : Nat) (I B : Nat → Int) (J : Nat) (y : Int × ByteArray) : Bool := (List.range J).any fun j => hitB b n S q I B j y
theorem badB_true {b : Int} {n : Nat} {S : Nat → ByteArray} {q : Nat} {I B : Nat → Int} {J : Nat} {y : Int × ByteArray} : badB b n S q I B J y = true ↔ ∃ j, j < J ∧ I j = y.1 ∧ dueBin b n S q y.2 ≠ B j := by
  unfold badB hitB
  rw [List.any_eq_true]
  constructor
  · rintro ⟨j, hj, h⟩
    rw [Bool.and_eq_true, beq_iff_eq, Bool.not_eq_true', beq_eq_false_iff_ne] at h
    exact ⟨j, List.mem_range.1 hj, h.1, h.2⟩
  · rintro ⟨j, hj, h1, h2⟩
    refine ⟨j, List.mem_range.2 hj, ?_⟩
    rw [Bool.and_eq_true, beq_iff_eq, Bool.not_eq_true', beq_eq_false_iff_ne]
    exact ⟨h1, h2⟩
theorem badB_succ (b : Int) (n : Nat) (S : Nat → ByteArray) (q : Nat) (I B : Nat → Int) (J : Nat) : badB b n S q I B (J + 1) = fun y => badB b n S q I B J y || hitB b n S q I B J y := by
  funext y
  unfold badB
  rw [List.range_succ, List.any_append]
  simp
theorem or_len_eq (p q : Int × ByteArray → Bool) : ∀ L : List (Int × ByteArray), (∀ y ∈ L, p y = true → q y = false) → (L.filter fun y => p y || q y).length = (L.filter p).length + (L.filter q).length
  | [], _ => by simp
  | y :: L, h => by
    have ih := or_len_eq p q L fun z hz => h z (List.mem_cons_of_mem _ hz)
    have hy := h y List.mem_cons_self
    simp only [List.filter_cons]
    cases hp : p y
    · cases q y <;> simp <;> omega
    · rw [hy hp]; simp; omega
/-- How many letters have one of the first missorts, which tells a wrong bin. -/
def cntB (b : Int) (n : Nat) (S : Nat → ByteArray) (q : Nat) (I B : Nat → Int) (L : List (Int × ByteArray)) (J : Nat) : Nat := (L.filter (badB b n S q I B J)).length
section
variable {b : Int} {n : Nat} {S : Nat → ByteArray} {q m3 : Nat} {I B : Nat → Int} {L : List (Int × ByteArray)}
theorem cnt_zero : cntB b n S q I B L 0 = 0 := by
  unfold cntB
  rw [List.filter_eq_nil_iff.2 (fun y _ h => by obtain ⟨j, hj, _⟩ := badB_true.1 h; omega)]
  rfl
theorem cnt_succ (hmt : M.misTo (b - 1) I B m3) {J : Nat} (hJ : J < m3) : cntB b n S q I B L (J + 1) = cntB b n S q I B L J + (L.filter (hitB b n S q I B J)).length := by
  unfold cntB
  rw [badB_succ]
  refine or_len_eq _ _ L fun y _ h => ?_
  obtain ⟨j, hj, e, _⟩ := badB_true.1 h
  have := (hmt J hJ).2.2 j hj
  unfold hitB
  rw [show (I J == y.1) = false from by rw [beq_eq_false_iff_ne]; intro e2; exact this (e.trans e2.symm)]
  rfl
/-- No letter with the missort's number, or one whose code tells the same bin. -/
theorem cnt_same (hmt : M.misTo (b - 1) I B m3) {J : Nat} (hJ : J < m3) (h : ∀ k, (hk : k < L.length) → nI L k = I J → dueBin b n S q (nC L k) = B J) : cntB b n S q I B L (J + 1) = cntB b n S q I B L J := by
  rw [cnt_succ hmt hJ, List.filter_eq_nil_iff.2 (fun y hy hh => ?_)]
  · rfl
  · obtain ⟨k, hk, e⟩ := List.getElem_of_mem hy
    unfold hitB at hh
    rw [Bool.and_eq_true, beq_iff_eq, Bool.not_eq_true', beq_eq_false_iff_ne] at hh
    have h1 := h k hk (by rw [nI_at hk, e]; exact hh.1.symm)
    rw [nC_at hk, e] at h1
    exact hh.2 h1
theorem cnt_more (hL : BatchL L) (hmt : M.misTo (b - 1) I B m3) {J : Nat} (hJ : J < m3) {k : Nat} (hk : k < L.length) (e : nI L k = I J) (h : dueBin b n S q (nC L k) ≠ B J) : cntB b n S q I B L (J + 1) = cntB b n S q I B L J + 1 := by
  rw [cnt_succ hmt hJ]
  have h1 : (L.filter (hitB b n S q I B J)).length ≤ (L.filter fun y => I J == y.1).length := by
    have e2 : L.filter (hitB b n S q I B J) = (L.filter fun y => I J == y.1).filter fun y => !(dueBin b n S q y.2 == B J) := by
      rw [List.filter_filter]
      congr 1
      funext y
      exact Bool.and_comm _ _
    rw [e2]
    exact List.length_filter_le _ _
  have h2 := one_len (c := I J) hL.2.1
  have h3 : L[k] ∈ L.filter (hitB b n S q I B J) := by
    refine List.mem_filter.2 ⟨List.getElem_mem hk, ?_⟩
    rw [nI_at hk] at e
    rw [nC_at hk] at h
    unfold hitB
    rw [Bool.and_eq_true, beq_iff_eq, Bool.not_eq_true', beq_eq_false_iff_ne]
    exact ⟨e.symm, h⟩
  have h4 := List.length_pos_of_mem h3
  omega
/-- The wrong letters. -/
theorem wrong_perm (s1 : 2 ≤ b) (hmt : M.misTo (b - 1) I B m3) : (M.flat (wrongL b n S q (falM b n S L q m3 I B)) b.toNat).Perm (L.filter (badB b n S q I B m3)) := by
  obtain ⟨R, hR⟩ : ∃ R, L.filter (badB b n S q I B m3) = R := ⟨_, rfl⟩
  have hd : ∀ d, wrongL b n S q (falM b n S L q m3 I B) d = R.filter fun y => (B (M.find I m3 y.1).toNat).toNat == d := fun d => by
    unfold wrongL M.sansF
    rw [falM_filter, ← hR, List.filter_filter, List.filter_filter]
    congr 1
    funext y
    have hdk := due_key (b := b) (n := n) (S := S) (x := q) (s := y.2) (d := d) s1
    rcases find_cases I m3 y.1 with ⟨hf, hno⟩ | ⟨j, hj, hy, hf⟩
    · have hb : badB b n S q I B m3 y = false := by
        cases hh : badB b n S q I B m3 y
        · rfl
        · obtain ⟨j, hj, e, _⟩ := badB_true.1 hh
          exact absurd e (hno j hj)
      have hk : fkY b n S q m3 I B y = keyOf b n S q y.2 := if_pos (by rw [hf]; omega)
      rw [hb, hk, Bool.and_false]
      by_cases h : keyOf b n S q y.2 = some d
      · unfold rightB
        rw [hdk.2 h]
        simp
      · rw [(beq_eq_false_iff_ne).2 h, Bool.and_false]
    · have hk : fkY b n S q m3 I B y = some (B j).toNat := by
        unfold fkY
        rw [if_neg (by rw [hf]; omega), hf, Int.toNat_natCast]
      have h0 := (hmt j hj).2.1
      rw [hk, hf, Int.toNat_natCast]
      have hb : badB b n S q I B m3 y = !(dueBin b n S q y.2 == B j) := by
        rw [Bool.eq_iff_iff, badB_true, Bool.not_eq_true', beq_eq_false_iff_ne]
        constructor
        · rintro ⟨j', hj', e, h⟩
          have : j' = j := by
            rcases Nat.lt_trichotomy j' j with h1 | h1 | h1
            · exact absurd (e.trans hy.symm) ((hmt j hj).2.2 j' h1)
            · exact h1
            · exact absurd (hy.trans e.symm) ((hmt j' hj').2.2 j h1)
          subst this
          exact h
        · intro h
          exact ⟨j, hj, hy, h⟩
      rw [hb]
      by_cases hd : (B j).toNat = d
      · have hd2 : B j = (d : Int) := by omega
        unfold rightB
        rw [hd2]
        simp
      · rw [show (some (B j).toNat == some d) = false from by rw [beq_eq_false_iff_ne]; intro e; exact hd (Option.some.inj e), show ((B j).toNat == d) = false from by rw [beq_eq_false_iff_ne]; exact hd]
        simp
  have hp := flat_rest (fun i => some (B (M.find I m3 (nI R i)).toNat).toNat) (nI R) (nC R) b.toNat R.length fun i hi d e => by
    have hm : R[i] ∈ L.filter (badB b n S q I B m3) := by rw [hR]; exact List.getElem_mem hi
    obtain ⟨j, hj, hy, _⟩ := badB_true.1 (List.mem_filter.1 hm).2
    have e2 := Option.some.inj e
    rw [nI_at hi, ← hy] at e2
    rcases find_cases I m3 (I j) with ⟨hf, hno⟩ | ⟨j', hj', hy', hf⟩
    · exact absurd rfl (hno j hj)
    · rw [hf, Int.toNat_natCast] at e2
      have := (hmt j' hj').2.1
      omega
  have hn : ∀ k, M.restTo (fun i => some (B (M.find I m3 (nI R i)).toNat).toNat) (nI R) (nC R) k = [] := fun k => by
    induction k with
    | zero => rfl
    | succ k ih => exact (M.restTo_some (key := fun i => some (B (M.find I m3 (nI R i)).toNat).toNat) (k := k) rfl (nI R) (nC R)).trans ih
  rw [hn, List.append_nil, lst_nI] at hp
  have he : M.flat (wrongL b n S q (falM b n S L q m3 I B)) b.toNat = M.flat (M.binTo (fun i => some (B (M.find I m3 (nI R i)).toNat).toNat) (nI R) (nC R) R.length) b.toNat := by
    refine M.flat_congr fun d _ => ?_
    rw [hd d]
    have := binTo_gen (fun y => some (B (M.find I m3 y.1).toNat).toNat) (nI R) (nC R) d R.length
    rw [lst_nI] at this
    refine Eq.trans ?_ this.symm
    congr 1
  rw [he, hR]
  exact hp
theorem wids_cnt (s1 : 2 ≤ b) (hmt : M.misTo (b - 1) I B m3) : (wids b n S q (falM b n S L q m3 I B) b.toNat).length = cntB b n S q I B L m3 := by
  unfold wids cntB
  rw [List.length_map]
  exact (wrong_perm s1 hmt).length_eq
theorem wids_has (s1 : 2 ≤ b) (hmt : M.misTo (b - 1) I B m3) {J : Nat} (hJ : J < m3) {k : Nat} (hk : k < L.length) (e : nI L k = I J) (h : dueBin b n S q (nC L k) ≠ B J) : (wids b n S q (falM b n S L q m3 I B) b.toNat).contains (I J) = true := by
  rw [List.contains_iff_mem]
  rw [nI_at hk] at e
  rw [nC_at hk] at h
  unfold wids
  exact List.mem_map.2 ⟨L[k], (wrong_perm s1 hmt).mem_iff.2 (List.mem_filter.2 ⟨List.getElem_mem hk, badB_true.2 ⟨J, hJ, e.symm, h⟩⟩), e⟩
end
theorem find_place {L : List (Int × ByteArray)} (hL : BatchL L) (x : Int) : (M.findLetter L.length (nI L) (nC L) x = -1 ∧ ∀ k, k < L.length → nI L k ≠ x) ∨ ∃ k, k < L.length ∧ nI L k = x ∧ M.findLetter L.length (nI L) (nC L) x = (k : Int) := by
  have e : M.findLetter L.length (nI L) (nC L) x = M.find (nI L) L.length x := by unfold M.findLetter; rw [if_pos ((batchL_list L).2 hL)]
  rw [e]
  exact find_cases (nI L) L.length x
end Go.Proofs.YtnaghfppeejaoaaDoor

/-
  The bin in which a letter of a faulty pass is: that of its missort, or of its code. No program is named here.
-/
namespace Go.Proofs.YtnaghfppeejaoaaDoor
set_option linter.unusedVariables false

/-- What the law reckons: the bin of the code, and then that of the last missort with the letter's number. -/
def dueJ (I B : Nat → Int) (x z : Int) : Nat → Int
  | 0 => z
  | j + 1 => if I j = x then B j else dueJ I B x z j
theorem dueJ_no {I B : Nat → Int} {x z : Int} : ∀ {k : Nat}, (∀ j, j < k → I j ≠ x) → dueJ I B x z k = z
  | 0, _ => rfl
  | k + 1, h => by
    unfold dueJ
    rw [if_neg (h k (by omega))]
    exact dueJ_no fun j hj => h j (by omega)
theorem dueJ_at {I B : Nat → Int} {x z : Int} {j : Nat} (e : I j = x) : ∀ {k : Nat}, j < k → (∀ i, j < i → i < k → I i ≠ x) → dueJ I B x z k = B j
  | 0, h, _ => absurd h (by omega)
  | k + 1, h, hn => by
    unfold dueJ
    by_cases e2 : j = k
    · subst e2; rw [if_pos e]
    · rw [if_neg (hn k (by omega) (by omega))]
      exact dueJ_at e (by omega) fun i h1 h2 => hn i h1 (by omega)
theorem due_end {b p : Int} {n : Nat} {S : Nat → ByteArray} {q m3 : Nat} {I B : Nat → Int} {y : Int × ByteArray} {d : Nat} (hp : M.plan b p n S = true) (hq : (q : Int) < p) (hmt : M.misTo (b - 1) I B m3) (h : fkY b n S q m3 I B y = some d) : dueJ I B y.1 (M.planBin b p n S y.2 q) m3 = (d : Int) := by
  obtain ⟨s1, s2, s3, s4⟩ := M.plan_shape hp
  rcases find_cases I m3 y.1 with ⟨hf, hno⟩ | ⟨j, hj, hy, hf⟩
  · rw [dueJ_no hno, plan_due hp hq]
    have hk : fkY b n S q m3 I B y = keyOf b n S q y.2 := if_pos (by rw [hf]; omega)
    rw [hk] at h
    exact (due_key s1).2 h
  · have hk : fkY b n S q m3 I B y = some (B j).toNat := by
      unfold fkY
      rw [if_neg (by rw [hf]; omega), hf, Int.toNat_natCast]
    rw [hk] at h
    have := Option.some.inj h
    have h0 := (hmt j hj).2.1
    rw [dueJ_at hy hj fun i h1 h2 e => (hmt i h2).2.2 j h1 (hy.trans e.symm)]
    omega
theorem falM_key {b : Int} {n : Nat} {S : Nat → ByteArray} {L : List (Int × ByteArray)} {q m3 : Nat} {I B : Nat → Int} {d i : Nat} (hi : i < (falM b n S L q m3 I B d).length) : fkY b n S q m3 I B (nI (falM b n S L q m3 I B d) i, nC (falM b n S L q m3 I B d) i) = some d := by
  have h := List.getElem_mem hi
  rw [nI_at hi, nC_at hi]
  obtain ⟨y, hy⟩ : ∃ y, (falM b n S L q m3 I B d)[i] = y := ⟨_, rfl⟩
  rw [hy] at h ⊢
  rw [falM_filter] at h
  exact beq_iff_eq.1 (List.mem_filter.1 h).2
theorem fkey_none (b : Int) (n : Nat) (S C : Nat → ByteArray) (q : Nat) (I' I B : Nat → Int) : fkey b n S C q I' 0 I B = M.planKey b n S C q := by
  funext k
  unfold fkey
  exact if_pos (by show (-1 : Int) < 0; decide)
theorem take_next {L : List (Int × ByteArray)} {i : Nat} (h : i < L.length) : L.take (i + 1) = L.take i ++ [(nI L i, nC L i)] := by
  rw [List.take_succ_eq_append_getElem h, nI_at h, nC_at h]
theorem flat_one {MM : Nat → List (Int × ByteArray)} {N k i : Nat} (hk : k < N) (hi : i < (MM k).length) : (M.flat MM k).length + i < (M.flat MM N).length := by
  have h1 := flat_mono MM (show k + 1 ≤ N by omega)
  have h2 : (M.flat MM (k + 1)).length = (M.flat MM k).length + (MM k).length := by
    show (M.flat MM k ++ MM k).length = _
    rw [List.length_append]
  omega
end Go.Proofs.YtnaghfppeejaoaaDoor

/-
  Which letters a sample has.
-/
namespace Go.Proofs.YtnaghfppeejaoaaDoor
open Go.RowKit

theorem below_drewS {B : Nat} {a w : World} (h : Below B a w) (n : Nat) : Below B a (w.drewN n) := ⟨h.os, h.tape, h.output, h.size, h.block⟩
theorem M.smp_get (I : Nat → Int) (C : Nat → ByteArray) (k : Nat) : ∀ {t i : Nat}, i < t → nI (M.smp I C k t) i = I (i * k) ∧ nC (M.smp I C k t) i = C (i * k)
  | 0, _, h => absurd h (by omega)
  | t + 1, i, h => by
    have hl := M.smp_len I C k t
    have hlen : i < (M.smp I C k (t + 1)).length := by rw [M.smp_len]; exact h
    rw [nI_at hlen, nC_at hlen]
    by_cases e : i < t
    · have hi : i < (M.smp I C k t).length := by omega
      have h2 := M.smp_get I C k e
      rw [nI_at hi, nC_at hi] at h2
      have : (M.smp I C k (t + 1))[i] = (M.smp I C k t)[i] := by
        show (M.smp I C k t ++ [(I (t * k), C (t * k))])[i] = _
        exact List.getElem_append_left hi
      rw [this]
      exact h2
    · obtain rfl : i = t := by omega
      have : (M.smp I C k (i + 1))[i] = (I (i * k), C (i * k)) := by
        simp [M.smp_succ, hl]
      rw [this]
      exact ⟨rfl, rfl⟩
theorem M.smp_one (I : Nat → Int) (C : Nat → ByteArray) : ∀ n, M.smp I C 1 n = M.lst I C n
  | 0 => rfl
  | n + 1 => by rw [M.smp_succ, M.smp_one I C n, M.lst_succ, Nat.mul_one]
theorem M.smp_ix {n q t i : Nat} (hq : 0 < q) (ht : (n + q - 1) / q = t) (hi : i < t) : i * q < n := by
  have h1 : (i + 1) * q ≤ n + q - 1 := by
    have : i + 1 ≤ (n + q - 1) / q := by omega
    exact (Nat.le_div_iff_mul_le hq).1 this
  rw [Nat.succ_mul] at h1
  omega
end Go.Proofs.YtnaghfppeejaoaaDoor

/-
  Whether two lists of bins are equal, and two lists of numbers; whether a list has a number.
-/
namespace Go.Proofs.YtnaghfppeejaoaaDoor
open Go.RowKit
set_option linter.unusedVariables false

set_option maxHeartbeats 1000000 in
set_option maxRecDepth 100000 in
theorem soBins_mat (w : World) (b1 b2 : Nat) (v v' : Value) (N : Nat) (V V' : Nat → Value) (MM : Nat → List (Int × ByteArray)) (h : Mat w b1 v N V MM) (h' : Mat w b2 v' N V' MM) (hN : N ≤ 1048576) (hl : ∀ i, i < N → (MM i).length ≤ 1048576) :
    Calls Tryd.prog 14 #[v, v'] w fun e w' => e = .returned (.bool true) ∧ Below w.heap.size w w' := by
  obtain ⟨u, c, hv⟩ : ∃ u c, v = .slice u N c := by
    rcases h.form with ⟨rfl, rfl⟩ | ⟨g, c, rfl, _⟩
    · exact ⟨_, _, rfl⟩
    · exact ⟨_, _, rfl⟩
  obtain ⟨u', c', hv'⟩ : ∃ u c, v' = .slice u N c := by
    rcases h'.form with ⟨rfl, rfl⟩ | ⟨g, c, rfl, _⟩
    · exact ⟨_, _, rfl⟩
    · exact ⟨_, _, rfl⟩
  subst hv hv'
  have HM := Lib.hid h
  have HM' := Lib.hid h'
  have HL := Lib.hid hl
  clear h h' hl
  go_enter Tryd.func14, Tryd.ntmps14
  go_wp2
  go_loopw [5] (fun i wr => ∃ k : Nat, k ≤ N ∧ i = .int .i64 k ∧ Hid (Below w.heap.size w wr)) (fun i _ => N - (intOf i).toNat)
  case atStart => exact ⟨0, Nat.zero_le _, rfl, Below.refl _ _⟩
  case round =>
    obtain ⟨k, hk, rfl, hb⟩ := hrel
    by_cases hlt : k < N
    · have hki : (k : Int) < (N : Int) := by omega
      have hk0 : (0 : Int) ≤ (k : Int) := by omega
      have hm := HM.out.on hb.out
      have hm' := HM'.out.on hb.out
      obtain ⟨g, q, hg, c0, _⟩ := hm.cell hlt
      obtain ⟨g', q', hg', c0', _⟩ := hm'.cell hlt
      have hr := Lib.hid (hm.2.1 k hlt)
      have hr' := Lib.hid (hm'.2.1 k hlt)
      have hlk := HL.out k hlt
      generalize V k = vk at c0 hr
      generalize V' k = vk' at c0' hr'
      injection hg with hg1 hg2 hg3
      injection hg' with hg1' hg2' hg3'
      subst hg1 hg1'
      have lg := World.block_lt_of_cell? _ _ c0
      have lg' := World.block_lt_of_cell? _ _ c0'
      have s0 : wr.cell? ⟨g, k, none⟩ = some vk ∧ wr.cell? ⟨g', k, none⟩ = some vk' := ⟨c0, c0'⟩
      clear hm hm' hg2 hg3 hg2' hg3'
      go_wp2_with fail
      go_region_held3 (fun w' => w'.cell? ⟨g, k, none⟩ = some vk ∧ w'.cell? ⟨g', k, none⟩ = some vk') (first | exact s0 | exact s1) (first
        | (go_at_call 15; refine (soBatch_row _ b1 b2 vk vk' _ (hr.out.on (by go_grown)) (hr'.out.on (by go_grown)) hlk).mono ?_; rintro e w1 ⟨rfl, k1⟩; have K1 : Below wr.heap.size wr w1 := (by exact sstep (by go_grown) k1); have s1 : w1.cell? ⟨g, k, none⟩ = some vk ∧ w1.cell? ⟨g', k, none⟩ = some vk' := ⟨(K1.cell (p := ⟨g, k, none⟩) lg).trans c0, (K1.cell (p := ⟨g', k, none⟩) lg').trans c0'⟩))
      all_goals
        have B1 := Lib.hid (hb.out.trans (K1.mono hb.out.size))
        clear k1 K1 s0 s1 c0 c0'
        go_wp2
        go_roundw
        case rel => exact ⟨k + 1, by omega, by go_num, by first | exact B1.out | exact below_drewS B1.out _⟩
        case measure => simp [intOf]; omega
    · obtain rfl : k = N := by omega
      go_wp2
      go_ret
      exact ⟨rfl, hb.out⟩
/-- Numbers in a slice of a call's own. -/
theorem IRow.cells {w : World} {base : Nat} {v : Value} {L : List Int} (h : IRow w base v L) : ∃ a c, v = .slice a L.length c ∧ ∀ i (hi : i < L.length), ∃ g, a = some ⟨g, 0, none⟩ ∧ w.cell? ⟨g, i, none⟩ = some (.int .i64 L[i]) := by
  have h2 := h
  rcases h.2 with ⟨rfl, hn⟩ | ⟨g, cap, cur, rfl, _, _, hc, _, _, _⟩
  · exact ⟨none, 0, by rw [hn], fun i hi => absurd hi (by omega)⟩
  · exact ⟨_, _, rfl, fun i hi => ⟨g, rfl, by rw [World.ownsRow.cellAt h2 i (by omega)]; simp [icells, hi]⟩⟩
set_option maxHeartbeats 1000000 in
theorem soInts_same (w : World) (b1 b2 : Nat) (v v' : Value) (L : List Int) (h : IRow w b1 v L) (h' : IRow w b2 v' L) (hn : L.length ≤ 1048576) :
    Calls Tryd.prog 20 #[v, v'] w fun e w' => e = .returned (.bool true) ∧ Below w.heap.size w w' := by
  obtain ⟨a, c, rfl, hc⟩ := h.cells
  obtain ⟨a', c', rfl, hc'⟩ := h'.cells
  obtain ⟨n, hln⟩ : ∃ n, L.length = n := ⟨_, rfl⟩
  have HN := Lib.hid hln
  have HR := Lib.hid h
  have HR' := Lib.hid h'
  rw [hln] at hn ⊢
  clear h h' hc hc' hln
  go_enter Tryd.func20, Tryd.ntmps20
  go_wp2
  go_loopw [5] (fun i wr => ∃ k : Nat, k ≤ n ∧ i = .int .i64 k ∧ Hid (Below w.heap.size w wr)) (fun i _ => n - (intOf i).toNat)
  case atStart => exact ⟨0, Nat.zero_le _, rfl, Below.refl _ _⟩
  case round =>
    obtain ⟨k, hk, rfl, hb⟩ := hrel
    by_cases hlt : k < n
    · have hki : (k : Int) < (n : Int) := by omega
      have hk0 : (0 : Int) ≤ (k : Int) := by omega
      obtain ⟨a1, c1, e1, q1⟩ := (HR.out.on hb.out).cells
      obtain ⟨a2, c2, e2, q2⟩ := (HR'.out.on hb.out).cells
      injection e1 with e11 e12 e13
      injection e2 with e21 e22 e23
      subst e11 e21
      obtain ⟨g, rfl, p1⟩ := q1 k (by rw [HN.out]; exact hlt)
      obtain ⟨g', rfl, p2⟩ := q2 k (by rw [HN.out]; exact hlt)
      generalize L[k]'(by rw [HN.out]; exact hlt) = y at p1 p2
      have hy : (y != y) = false := by simp
      clear q1 q2 e12 e13 e22 e23
      go_wp2
      go_quiet (fail)
      go_wp2
      go_roundw
      case rel => exact ⟨k + 1, by omega, by go_num, below_drewS hb.out _⟩
      case measure => simp [intOf]; omega
    · obtain rfl : k = n := by omega
      go_wp2
      go_ret
      exact ⟨rfl, hb.out⟩
set_option maxHeartbeats 1000000 in
theorem soNumber_any (w : World) (b1 : Nat) (v : Value) (L : List Int) (h : IRow w b1 v L) (hn : L.length ≤ 1048576) (x : Int) :
    Calls Tryd.prog 23 #[v, .int .i64 x] w fun e w' => e = .returned (.bool (L.contains x)) ∧ Below w.heap.size w w' := by
  obtain ⟨a, c, rfl, hc⟩ := h.cells
  obtain ⟨n, hln⟩ : ∃ n, L.length = n := ⟨_, rfl⟩
  obtain ⟨d, hd⟩ : ∃ d, L.contains x = d := ⟨_, rfl⟩
  have HD1 : Hid (∀ k, (hk : k < L.length) → L[k] = x → d = true) := fun k hk e => by rw [← hd, List.contains_iff_mem, ← e]; exact List.getElem_mem hk
  have HD0 : Hid ((∀ k, (hk : k < L.length) → L[k] ≠ x) → d = false) := fun h => by
    cases hdd : d
    · rfl
    · rw [hdd, List.contains_iff_mem] at hd
      obtain ⟨k, hk, e⟩ := List.getElem_of_mem hd
      exact absurd e (h k hk)
  have HN := Lib.hid hln
  have HR := Lib.hid h
  rw [hd]
  rw [hln] at hn ⊢
  clear h hc hln hd
  go_enter Tryd.func23, Tryd.ntmps23
  go_wp2
  go_loopw [5] (fun i wr => ∃ k : Nat, k ≤ n ∧ i = .int .i64 k ∧ Hid (∀ j, (hj : j < L.length) → j < k → L[j] ≠ x) ∧ Hid (Below w.heap.size w wr)) (fun i _ => n - (intOf i).toNat)
  case atStart => exact ⟨0, Nat.zero_le _, rfl, (fun j _ hj => absurd hj (by omega)), Below.refl _ _⟩
  case round =>
    obtain ⟨k, hk, rfl, hpre, hb⟩ := hrel
    by_cases hlt : k < n
    · have hki : (k : Int) < (n : Int) := by omega
      have hk0 : (0 : Int) ≤ (k : Int) := by omega
      obtain ⟨a1, c1, e1, q1⟩ := (HR.out.on hb.out).cells
      injection e1 with e11 e12 e13
      subst e11
      have hkl : k < L.length := by rw [HN.out]; exact hlt
      obtain ⟨g, rfl, p1⟩ := q1 k hkl
      clear q1 e12 e13
      by_cases he : L[k] = x
      · have hdt := HD1.out k hkl he
        subst hdt
        generalize L[k] = y at p1 he
        have hy : (y == x) = true := by rw [beq_iff_eq]; exact he
        clear he HD1 HD0
        go_wp2
        go_ret
        exact ⟨rfl, hb.out⟩
      · have HP : Hid (∀ j, (hj : j < L.length) → j < k + 1 → L[j] ≠ x) := fun j hj hjk => by
          by_cases e : j = k
          · subst e; exact he
          · exact hpre.out j hj (by omega)
        generalize L[k] = y at p1 he
        have hy : (y == x) = false := by rw [beq_eq_false_iff_ne]; exact he
        clear he
        go_wp2
        go_roundw
        case rel => exact ⟨k + 1, by omega, by go_num, HP, hb⟩
        case measure => simp [intOf]; omega
    · obtain rfl : k = n := by omega
      have hdf := HD0.out fun j hj => hpre.out j hj (by rw [HN.out] at hj; exact hj)
      subst hdf
      clear HD1 HD0
      go_wp2
      go_ret
      exact ⟨rfl, hb.out⟩
end Go.Proofs.YtnaghfppeejaoaaDoor
