/-
  Passes of a plan sort by rank: behind all passes the letters lie rank by rank, those of a rank as they came. No program is named here.
-/
import Derived.Test.YtbcoklognedffaaPermA
import Derived.Test.YtbcoklognedffaaRun
namespace Go.Proofs.Ytbcoklognedffaa
set_option linter.unusedVariables false

/-- A letter has a rank, and which. -/
def hasR (n : Nat) (S : Nat → ByteArray) (y : Int × ByteArray) : Bool := decide (0 ≤ M.rankTo S y.2 n)
def rkN (n : Nat) (S : Nat → ByteArray) (y : Int × ByteArray) : Nat := (M.rankTo S y.2 n).toNat
/-- The letters rank by rank. -/
def srt (n : Nat) (S : Nat → ByteArray) (L : List (Int × ByteArray)) : List (Int × ByteArray) := M.flat (fun v => L.filter fun y => hasR n S y && rkN n S y == v) n
theorem binTo_filter (κ : ByteArray → Option Nat) (I : Nat → Int) (C : Nat → ByteArray) (d : Nat) : ∀ k, M.binTo (fun i => κ (C i)) I C k d = (M.lst I C k).filter fun y => κ y.2 == some d
  | 0 => rfl
  | k + 1 => by
    have ih := binTo_filter κ I C d k
    rw [M.lst_succ, List.filter_append, ← ih]
    cases h : κ (C k) with
    | none =>
      rw [M.binTo_none (key := fun i => κ (C i)) h]
      have e : [(I k, C k)].filter (fun y => κ y.2 == some d) = [] := by simp [h]
      rw [e, List.append_nil]
    | some c =>
      rw [M.binTo_some (key := fun i => κ (C i)) h]
      simp only
      by_cases e : d = c
      · subst e
        rw [if_pos rfl]
        have e2 : [(I k, C k)].filter (fun y => κ y.2 == some d) = [(I k, C k)] := by simp [h]
        rw [e2]
      · rw [if_neg e]
        have e2 : [(I k, C k)].filter (fun y => κ y.2 == some d) = [] := by simp [h]; exact fun e3 => e e3.symm
        rw [e2, List.append_nil]
theorem restTo_filter (κ : ByteArray → Option Nat) (I : Nat → Int) (C : Nat → ByteArray) : ∀ k, M.restTo (fun i => κ (C i)) I C k = (M.lst I C k).filter fun y => κ y.2 == none
  | 0 => rfl
  | k + 1 => by
    have ih := restTo_filter κ I C k
    rw [M.lst_succ, List.filter_append, ← ih]
    cases h : κ (C k) with
    | none =>
      rw [M.restTo_none (key := fun i => κ (C i)) h]
      have e : [(I k, C k)].filter (fun y => κ y.2 == none) = [(I k, C k)] := by simp [h]
      rw [e]
    | some c =>
      rw [M.restTo_some (key := fun i => κ (C i)) h]
      have e : [(I k, C k)].filter (fun y => κ y.2 == none) = [] := by simp [h]
      rw [e, List.append_nil]
/-- The bin of a code in a pass. -/
def keyOf (b : Int) (n : Nat) (S : Nat → ByteArray) (x : Nat) (c : ByteArray) : Option Nat := if M.rankTo S c n < 0 then none else some (M.rankBin b (M.rankTo S c n) x).toNat
theorem planKey_fun (b : Int) (n : Nat) (S C : Nat → ByteArray) (x : Nat) : M.planKey b n S C x = fun i => keyOf b n S x (C i) := rfl
theorem stepB_filter (b : Int) (n : Nat) (S : Nat → ByteArray) (L : List (Int × ByteArray)) (x d : Nat) : stepB b n S L x d = L.filter fun y => keyOf b n S x y.2 == some d := by
  show M.binTo (fun i => keyOf b n S x (nC L i)) (nI L) (nC L) L.length d = _
  rw [binTo_filter, lst_nI]
theorem flat_filter (F : Nat → List (Int × ByteArray)) (q : Int × ByteArray → Bool) : ∀ N, (M.flat F N).filter q = M.flat (fun v => (F v).filter q) N
  | 0 => rfl
  | N + 1 => by
    show (M.flat F N ++ F N).filter q = M.flat (fun v => (F v).filter q) N ++ (F N).filter q
    rw [List.filter_append, flat_filter F q N]
theorem flat_add (G : Nat → List (Int × ByteArray)) (a : Nat) : ∀ p, M.flat G (a + p) = M.flat G a ++ M.flat (fun v => G (a + v)) p
  | 0 => (List.append_nil _).symm
  | p + 1 => by
    show M.flat G (a + p) ++ G (a + p) = M.flat G a ++ (M.flat (fun v => G (a + v)) p ++ G (a + p))
    rw [flat_add G a p, List.append_assoc]
theorem flat_flat (G : Nat → List (Int × ByteArray)) (p : Nat) : ∀ B, M.flat (fun d => M.flat (fun v => G (d * p + v)) p) B = M.flat G (B * p)
  | 0 => by rw [Nat.zero_mul]; rfl
  | B + 1 => by
    show M.flat (fun d => M.flat (fun v => G (d * p + v)) p) B ++ M.flat (fun v => G (B * p + v)) p = _
    rw [flat_flat G p B, Nat.succ_mul, flat_add]
theorem flat_trim (F : Nat → List (Int × ByteArray)) (n : Nat) : ∀ d, (∀ v, n ≤ v → v < n + d → F v = []) → M.flat F (n + d) = M.flat F n
  | 0, _ => rfl
  | d + 1, h => by
    show M.flat F (n + d) ++ F (n + d) = _
    rw [h (n + d) (by omega) (by omega), List.append_nil]
    exact flat_trim F n d fun v h1 h2 => h v h1 (by omega)
theorem pw_toNat {b : Int} (b0 : 2 ≤ b) (b1 : b ≤ 16) {k : Nat} (hk : k ≤ 4) : ((M.pw b k).toNat : Int) = M.pw b k := Int.toNat_of_nonneg (M.pw_bd b k (by omega) b1 hk).1
theorem keyOf_some {b : Int} (b0 : 2 ≤ b) (b1 : b ≤ 16) {n : Nat} {S : Nat → ByteArray} {x : Nat} (hx : x ≤ 4) (y : Int × ByteArray) (d : Nat) : (keyOf b n S x y.2 == some d) = (hasR n S y && rkN n S y / (M.pw b x).toNat % b.toNat == d) := by
  unfold keyOf hasR rkN
  by_cases h : M.rankTo S y.2 n < 0
  · rw [if_pos h, decide_eq_false (by omega)]
    rfl
  · rw [if_neg h, decide_eq_true (by omega), Bool.true_and]
    have e : (M.rankBin b (M.rankTo S y.2 n) x).toNat = (M.rankTo S y.2 n).toNat / (M.pw b x).toNat % b.toNat := by
      unfold M.rankBin
      obtain ⟨r, hr⟩ := Int.eq_ofNat_of_zero_le (show 0 ≤ M.rankTo S y.2 n by omega)
      obtain ⟨q, hq⟩ := Int.eq_ofNat_of_zero_le (M.pw_bd b x (by omega) b1 hx).1
      obtain ⟨B, hB⟩ := Int.eq_ofNat_of_zero_le (show 0 ≤ b by omega)
      rw [hr, hq, hB, ← Int.natCast_ediv, ← Int.natCast_emod]
      rfl
    rw [e]
    rfl
/-- The letters with a rank whose remainder is v. -/
def rem (n : Nat) (S : Nat → ByteArray) (L : List (Int × ByteArray)) (P v : Nat) : List (Int × ByteArray) := L.filter fun y => hasR n S y && rkN n S y % P == v
theorem rem_one (n : Nat) (S : Nat → ByteArray) (L : List (Int × ByteArray)) {b : Int} (b0 : 2 ≤ b) (b1 : b ≤ 16) (d : Nat) : stepB b n S L 0 d = rem n S L b.toNat d := by
  rw [stepB_filter]
  unfold rem
  congr 1
  funext y
  rw [keyOf_some b0 b1 (by omega)]
  show (hasR n S y && rkN n S y / (1 : Int).toNat % b.toNat == d) = _
  rw [show (1 : Int).toNat = 1 from rfl, Nat.div_one]
theorem rem_next (n : Nat) (S : Nat → ByteArray) (L : List (Int × ByteArray)) {b : Int} (b0 : 2 ≤ b) (b1 : b ≤ 16) {k : Nat} (hk : k ≤ 4) (P : Nat) (hP : (M.pw b k).toNat = P) (hP0 : 0 < P) :
    M.flat (stepB b n S (M.flat (rem n S L P) P) k) b.toNat = M.flat (rem n S L (P * b.toNat)) (P * b.toNat) := by
  have h1 : ∀ d, d < b.toNat → stepB b n S (M.flat (rem n S L P) P) k d = M.flat (fun v => rem n S L (P * b.toNat) (d * P + v)) P := fun d hd => by
    rw [stepB_filter, flat_filter]
    refine M.flat_congr fun v hv => ?_
    unfold rem
    rw [List.filter_filter]
    congr 1
    funext y
    rw [keyOf_some b0 b1 hk, hP]
    have e : rkN n S y % (P * b.toNat) = rkN n S y % P + P * (rkN n S y / P % b.toNat) := Nat.mod_mul
    cases hasR n S y
    · simp
    · simp only [Bool.true_and]
      rw [Bool.eq_iff_iff, Bool.and_eq_true, beq_iff_eq, beq_iff_eq, beq_iff_eq, e, Nat.mul_comm d P]
      have hm := Nat.mod_lt (rkN n S y) hP0
      constructor
      · rintro ⟨h1, h2⟩; rw [h1, h2, Nat.add_comm]
      · intro h
        have hdm : (P * (rkN n S y / P % b.toNat) + rkN n S y % P) / P = (P * d + v) / P := by rw [Nat.add_comm (P * (rkN n S y / P % b.toNat)), h]
        rw [Nat.mul_add_div hP0, Nat.mul_add_div hP0, Nat.div_eq_of_lt hm, Nat.div_eq_of_lt hv] at hdm
        have h2 : rkN n S y / P % b.toNat = d := by omega
        rw [h2] at h
        exact ⟨h2, by omega⟩
  rw [M.flat_congr h1, flat_flat, Nat.mul_comm]
theorem binsAt_rem {b : Int} (b0 : 2 ≤ b) (b1 : b ≤ 16) (n : Nat) (S : Nat → ByteArray) (m : Nat) (I : Nat → Int) (C : Nat → ByteArray) : ∀ t, t ≤ 3 → M.flat (binsAt b n S m I C t) b.toNat = M.flat (rem n S (M.lst I C m) (M.pw b (t + 1)).toNat) (M.pw b (t + 1)).toNat
  | 0, _ => by
    have hp : (M.pw b (0 + 1)).toNat = b.toNat := by
      show (M.pw b 0 * b).toNat = _
      rw [M.pw_zero, Int.one_mul]
    rw [hp]
    refine M.flat_congr fun d hd => ?_
    rw [← rem_one n S (M.lst I C m) b0 b1 d, stepB_filter]
    show M.binTo (fun i => keyOf b n S 0 (C i)) I C m d = _
    exact binTo_filter _ I C d m
  | t + 1, ht => by
    have ih := binsAt_rem b0 b1 n S m I C t (by omega)
    show M.flat (stepB b n S (M.flat (binsAt b n S m I C t) b.toNat) (t + 1)) b.toNat = _
    have hpos := M.pw_pos b (t + 1) b0 b1 (by omega)
    rw [ih, rem_next n S (M.lst I C m) b0 b1 (k := t + 1) (by omega) _ rfl (by omega)]
    have e : (M.pw b (t + 1)).toNat * b.toNat = (M.pw b (t + 1 + 1)).toNat := by
      rw [M.pw_succ b (t + 1), Int.toNat_mul (by omega) (by omega)]
    rw [e]
theorem rank_lt (n : Nat) (S : Nat → ByteArray) (y : Int × ByteArray) (h : hasR n S y = true) : rkN n S y < n := by
  unfold hasR at h
  have h1 := of_decide_eq_true h
  have h2 := (M.rank_bd S y.2 n).2
  unfold rkN
  omega
/-- What RunPlan answers: the letters rank by rank. -/
theorem runList_srt {b p : Int} {n : Nat} {S : Nat → ByteArray} {m : Nat} {I : Nat → Int} {C : Nat → ByteArray} (h : runOk b p n S m I C = true) : runList b p n S m I C = srt n S (M.lst I C m) := by
  obtain ⟨hp, hb⟩ := runOk_yes h
  obtain ⟨s1, s2, s3, s4⟩ := M.plan_shape hp
  have hf : M.fits b p n = true := by
    unfold M.plan at hp
    rw [Bool.and_eq_true] at hp
    exact hp.1
  obtain ⟨_, _, _, hn⟩ := M.fits_yes hf
  unfold runList
  rw [if_pos h, binsAt_rem s1 s2 n S m I C (p.toNat - 1) (by omega), show p.toNat - 1 + 1 = p.toNat by omega]
  have hpw := pw_toNat s1 s2 (k := p.toNat) (by omega)
  obtain ⟨P, hP⟩ : ∃ P, (M.pw b p.toNat).toNat = P := ⟨_, rfl⟩
  rw [hP] at hpw ⊢
  have hPn : n ≤ P := by omega
  have hr : ∀ v, v < P → rem n S (M.lst I C m) P v = (M.lst I C m).filter fun y => hasR n S y && rkN n S y == v := fun v hv => by
    unfold rem
    congr 1
    funext y
    cases hh : hasR n S y
    · rfl
    · rw [Nat.mod_eq_of_lt (Nat.lt_of_lt_of_le (rank_lt n S y hh) hPn)]
  rw [M.flat_congr hr]
  obtain ⟨d, rfl⟩ : ∃ d, P = n + d := ⟨P - n, by omega⟩
  refine flat_trim _ n d fun v h1 h2 => ?_
  rw [List.filter_eq_nil_iff]
  intro y _ hy
  rw [Bool.and_eq_true, beq_iff_eq] at hy
  have := rank_lt n S y hy.1
  omega
theorem runRest_filter {b p : Int} {n : Nat} {S : Nat → ByteArray} {m : Nat} {I : Nat → Int} {C : Nat → ByteArray} (h : runOk b p n S m I C = true) : runRest b p n S m I C = (M.lst I C m).filter fun y => !hasR n S y := by
  unfold runRest
  rw [if_pos h]
  show M.restTo (fun i => keyOf b n S 0 (C i)) I C m = _
  rw [restTo_filter]
  congr 1
  funext y
  unfold keyOf hasR
  by_cases h : M.rankTo S y.2 n < 0
  · rw [if_pos h, decide_eq_false (by omega)]; rfl
  · rw [if_neg h, decide_eq_true (by omega)]; rfl
theorem flat_pick (F : Nat → List (Int × ByteArray)) (v : Nat) (hF : ∀ u, u ≠ v → F u = []) : ∀ n, M.flat F n = if v < n then F v else []
  | 0 => by rw [if_neg (by omega)]; rfl
  | n + 1 => by
    show M.flat F n ++ F n = _
    rw [flat_pick F v hF n]
    by_cases h : v < n
    · rw [if_pos h, if_pos (by omega), hF n (by omega), List.append_nil]
    · rw [if_neg h, List.nil_append]
      by_cases e : n = v
      · subst e; rw [if_pos (by omega)]
      · rw [if_neg (by omega), hF n e]
theorem srt_bucket (n : Nat) (S : Nat → ByteArray) (L : List (Int × ByteArray)) (v : Nat) : ((srt n S L).filter fun y => hasR n S y && rkN n S y == v) = L.filter fun y => hasR n S y && rkN n S y == v := by
  unfold srt
  rw [flat_filter]
  have e : ∀ u, (L.filter (fun y => hasR n S y && rkN n S y == u)).filter (fun y => hasR n S y && rkN n S y == v) = if u = v then L.filter (fun y => hasR n S y && rkN n S y == v) else [] := fun u => by
    rw [List.filter_filter]
    by_cases h : u = v
    · subst h
      rw [if_pos rfl]
      congr 1
      funext y
      exact Bool.and_self _
    · rw [if_neg h, List.filter_eq_nil_iff]
      intro y _ hy
      simp only [Bool.and_eq_true, beq_iff_eq] at hy
      exact h (hy.2.2.symm.trans hy.1.2)
  rw [flat_pick _ v (fun u hu => by rw [e u, if_neg hu]), e v, if_pos rfl]
  by_cases h : v < n
  · rw [if_pos h]
  · rw [if_neg h]
    symm
    rw [List.filter_eq_nil_iff]
    intro y _ hy
    rw [Bool.and_eq_true, beq_iff_eq] at hy
    have := rank_lt n S y hy.1
    omega
theorem srt_idem (n : Nat) (S : Nat → ByteArray) (L : List (Int × ByteArray)) : srt n S (srt n S L) = srt n S L := M.flat_congr fun v _ => srt_bucket n S L v
theorem srt_asc (n : Nat) (S : Nat → ByteArray) (L : List (Int × ByteArray)) : (srt n S L).Pairwise (fun x y => rkN n S x ≤ rkN n S y) ∧ ∀ y ∈ srt n S L, hasR n S y = true := by
  have key : ∀ N, (M.flat (fun v => L.filter fun y => hasR n S y && rkN n S y == v) N).Pairwise (fun x y => rkN n S x ≤ rkN n S y) ∧ ∀ y ∈ M.flat (fun v => L.filter fun y => hasR n S y && rkN n S y == v) N, hasR n S y = true ∧ rkN n S y < N := by
    intro N
    induction N with
    | zero => exact ⟨List.Pairwise.nil, fun y hy => by cases hy⟩
    | succ N ih =>
      have hm : ∀ y ∈ L.filter (fun y => hasR n S y && rkN n S y == N), hasR n S y = true ∧ rkN n S y = N := fun y hy => by
        have := (List.mem_filter.1 hy).2
        rw [Bool.and_eq_true, beq_iff_eq] at this
        exact this
      refine ⟨List.pairwise_append.2 ⟨ih.1, ?_, fun x hx y hy => ?_⟩, fun y hy => ?_⟩
      · exact List.pairwise_of_forall_mem_list fun x hx y hy => by rw [(hm x hx).2, (hm y hy).2]; exact Nat.le_refl _
      · have := (ih.2 x hx).2
        rw [(hm y hy).2]
        omega
      · rcases List.mem_append.1 hy with h | h
        · exact ⟨(ih.2 y h).1, by have := (ih.2 y h).2; omega⟩
        · exact ⟨(hm y h).1, by rw [(hm y h).2]; omega⟩
  exact ⟨(key n).1, fun y hy => ((key n).2 y hy).1⟩
/-- The letters with a rank are those rank by rank, in another order. -/
theorem srt_perm (n : Nat) (S : Nat → ByteArray) (m : Nat) (I : Nat → Int) (C : Nat → ByteArray) : (srt n S (M.lst I C m) ++ (M.lst I C m).filter fun y => !hasR n S y).Perm (M.lst I C m) := by
  have h := flat_rest (fun i => if M.rankTo S (C i) n < 0 then none else some (M.rankTo S (C i) n).toNat) I C n m (fun i _ d hd => by
    by_cases h : M.rankTo S (C i) n < 0
    · rw [if_pos h] at hd; cases hd
    · rw [if_neg h] at hd
      have := (M.rank_bd S (C i) n).2
      have := Option.some.inj hd
      omega)
  have e1 : M.flat (M.binTo (fun i => if M.rankTo S (C i) n < 0 then none else some (M.rankTo S (C i) n).toNat) I C m) n = srt n S (M.lst I C m) := M.flat_congr fun v _ => by
    rw [binTo_filter (fun c => if M.rankTo S c n < 0 then none else some (M.rankTo S c n).toNat)]
    congr 1
    funext y
    unfold hasR rkN
    by_cases h : M.rankTo S y.2 n < 0
    · rw [if_pos h, decide_eq_false (by omega)]; rfl
    · rw [if_neg h, decide_eq_true (by omega)]; rfl
  have e2 : M.restTo (fun i => if M.rankTo S (C i) n < 0 then none else some (M.rankTo S (C i) n).toNat) I C m = (M.lst I C m).filter fun y => !hasR n S y := by
    rw [restTo_filter (fun c => if M.rankTo S c n < 0 then none else some (M.rankTo S c n).toNat)]
    congr 1
    funext y
    unfold hasR
    by_cases h : M.rankTo S y.2 n < 0
    · rw [if_pos h, decide_eq_false (by omega)]; rfl
    · rw [if_neg h, decide_eq_true (by omega)]; rfl
  rw [e1, e2] at h
  exact h
/-- Letters whose ranks ascend are in order. -/
theorem ordTo_asc {n : Nat} {S : Nat → ByteArray} {R : List (Int × ByteArray)} (h1 : R.Pairwise (fun x y => rkN n S x ≤ rkN n S y)) (h2 : ∀ y ∈ R, hasR n S y = true) : ∀ k, k ≤ R.length → 0 ≤ M.ordTo S n (nC R) k ∧ (∀ hk : 0 < k, ∀ hl : k - 1 < R.length, M.ordTo S n (nC R) k = M.rankTo S (R[k - 1]).2 n)
  | 0, _ => ⟨by unfold M.ordTo; omega, fun h => absurd h (by omega)⟩
  | k + 1, hk => by
    obtain ⟨i1, i2⟩ := ordTo_asc h1 h2 k (by omega)
    have hkl : k < R.length := by omega
    have hr : 0 ≤ M.rankTo S (R[k]).2 n := of_decide_eq_true (h2 _ (List.getElem_mem hkl))
    have hle : M.ordTo S n (nC R) k ≤ M.rankTo S (nC R k) n := by
      rw [nC_at hkl]
      by_cases h0 : k = 0
      · subst h0; unfold M.ordTo; exact hr
      · rw [i2 (by omega) (by omega)]
        have := List.pairwise_iff_getElem.1 h1 (k - 1) k (by omega) hkl (by omega)
        have h3 : 0 ≤ M.rankTo S (R[k - 1]'(by omega)).2 n := of_decide_eq_true (h2 _ (List.getElem_mem _))
        unfold rkN at this
        omega
    have e := M.ordTo_step i1 hle
    rw [e, nC_at hkl]
    exact ⟨hr, fun _ _ => rfl⟩
end Go.Proofs.Ytbcoklognedffaa

/-
  Letters in order are those that lie rank by rank. No program is named here.
-/
namespace Go.Proofs.Ytbcoklognedffaa
set_option linter.unusedVariables false

theorem ord_back {S : Nat → ByteArray} {n : Nat} {C : Nat → ByteArray} {k : Nat} (h : 0 ≤ M.ordTo S n C (k + 1)) : 0 ≤ M.ordTo S n C k ∧ M.ordTo S n C k ≤ M.rankTo S (C k) n ∧ M.ordTo S n C (k + 1) = M.rankTo S (C k) n := by
  have e : M.ordTo S n C (k + 1) = if M.ordTo S n C k < 0 then -1 else (if M.rankTo S (C k) n < M.ordTo S n C k then -1 else M.rankTo S (C k) n) := rfl
  by_cases h1 : M.ordTo S n C k < 0
  · rw [e, if_pos h1] at h; omega
  · rw [if_neg h1] at e
    by_cases h2 : M.rankTo S (C k) n < M.ordTo S n C k
    · rw [e, if_pos h2] at h; omega
    · rw [if_neg h2] at e
      exact ⟨by omega, by omega, e⟩
theorem asc_of_ord {S : Nat → ByteArray} {n : Nat} {I : Nat → Int} {C : Nat → ByteArray} : ∀ m, 0 ≤ M.ordTo S n C m → (M.lst I C m).Pairwise (fun x y => rkN n S x ≤ rkN n S y) ∧ (∀ y ∈ M.lst I C m, hasR n S y = true ∧ (rkN n S y : Int) ≤ M.ordTo S n C m)
  | 0, _ => ⟨List.Pairwise.nil, fun y hy => by cases hy⟩
  | m + 1, h => by
    obtain ⟨h1, h2, h3⟩ := ord_back h
    obtain ⟨i1, i2⟩ := asc_of_ord m h1
    have hr : 0 ≤ M.rankTo S (C m) n := by omega
    have hk : (rkN n S (I m, C m) : Int) = M.rankTo S (C m) n := Int.toNat_of_nonneg hr
    rw [M.lst_succ]
    refine ⟨List.pairwise_append.2 ⟨i1, List.pairwise_singleton _ _, fun x hx y hy => ?_⟩, fun y hy => ?_⟩
    · rw [List.mem_singleton.1 hy]
      have := (i2 x hx).2
      omega
    · rcases List.mem_append.1 hy with hy | hy
      · have := i2 y hy
        exact ⟨this.1, by omega⟩
      · rw [List.mem_singleton.1 hy]
        exact ⟨decide_eq_true hr, by omega⟩
theorem cut_asc {n : Nat} {S : Nat → ByteArray} (N : Nat) : ∀ {L : List (Int × ByteArray)}, L.Pairwise (fun x y => rkN n S x ≤ rkN n S y) → L.filter (fun y => decide (rkN n S y < N)) ++ L.filter (fun y => rkN n S y == N) = L.filter (fun y => decide (rkN n S y < N + 1))
  | [], _ => rfl
  | x :: L, h => by
    obtain ⟨h1, h2⟩ := List.pairwise_cons.1 h
    have ih := cut_asc (n := n) (S := S) N h2
    by_cases a : rkN n S x < N
    · have e1 : decide (rkN n S x < N) = true := decide_eq_true a
      have e2 : (rkN n S x == N) = false := by rw [beq_eq_false_iff_ne]; omega
      have e3 : decide (rkN n S x < N + 1) = true := decide_eq_true (by omega)
      rw [List.filter_cons_of_pos (by simpa using a), List.filter_cons_of_neg (by simpa using e2), List.filter_cons_of_pos (by rw [e3]), List.cons_append, ih]
    · have z : L.filter (fun y => decide (rkN n S y < N)) = [] := by
        rw [List.filter_eq_nil_iff]
        intro y hy h5
        have := h1 y hy
        have := of_decide_eq_true h5
        omega
      rw [z, List.nil_append] at ih
      by_cases b : rkN n S x = N
      · rw [List.filter_cons_of_neg (by simpa using a), List.filter_cons_of_pos (by simpa using b), List.filter_cons_of_pos (by simp; omega), z, List.nil_append, ih]
      · rw [List.filter_cons_of_neg (by simpa using a), List.filter_cons_of_neg (by simpa using b), List.filter_cons_of_neg (by simp; omega), z, List.nil_append, ih]
theorem srt_of_asc {n : Nat} {S : Nat → ByteArray} {L : List (Int × ByteArray)} (h : L.Pairwise (fun x y => rkN n S x ≤ rkN n S y)) (hr : ∀ y ∈ L, hasR n S y = true) : srt n S L = L := by
  have e : ∀ N, M.flat (fun v => L.filter fun y => hasR n S y && rkN n S y == v) N = L.filter fun y => decide (rkN n S y < N) := by
    intro N
    induction N with
    | zero =>
      symm
      show L.filter (fun y => decide (rkN n S y < 0)) = []
      rw [List.filter_eq_nil_iff]
      intro y _ h
      have := of_decide_eq_true h
      omega
    | succ N ih =>
      show M.flat _ N ++ L.filter (fun y => hasR n S y && rkN n S y == N) = _
      rw [ih, ← cut_asc N h]
      congr 1
      exact List.filter_congr fun y hy => by rw [hr y hy, Bool.true_and]
  unfold srt
  rw [e n, List.filter_eq_self]
  intro y hy
  exact decide_eq_true (rank_lt n S y (hr y hy))
theorem inOrder_yes {b p : Int} {n : Nat} {S : Nat → ByteArray} {m : Nat} {I : Nat → Int} {C : Nat → ByteArray} (h : runOk b p n S m I C = true) : M.inOrder b p n S m I C = decide (0 ≤ M.ordTo S n C m) := by
  obtain ⟨hp, hb⟩ := runOk_yes h
  unfold M.inOrder
  rw [hp, hb]
  rfl
theorem inOrder_not {b p : Int} {n : Nat} {S : Nat → ByteArray} {m : Nat} {I : Nat → Int} {C : Nat → ByteArray} (h : runOk b p n S m I C = false) : M.inOrder b p n S m I C = false := by
  unfold runOk at h
  rcases (Bool.and_eq_false_iff).1 h with h | h
  · exact M.inOrder_no (Or.inl h)
  · exact M.inOrder_no (Or.inr (Or.inl h))
/-- Letters that lie rank by rank are in order. -/
theorem ord_srt (n : Nat) (S : Nat → ByteArray) (L : List (Int × ByteArray)) : 0 ≤ M.ordTo S n (nC (srt n S L)) (srt n S L).length :=
  (ordTo_asc (srt_asc n S L).1 (srt_asc n S L).2 _ (Nat.le_refl _)).1
/-- A batch is in order exactly if no letter is without a rank and all lie rank by rank. -/
theorem inOrder_iff {b p : Int} {n : Nat} {S : Nat → ByteArray} {m : Nat} {I : Nat → Int} {C : Nat → ByteArray} (h : runOk b p n S m I C = true) : M.inOrder b p n S m I C = (decide (((M.lst I C m).filter fun y => !hasR n S y) = []) && decide (srt n S (M.lst I C m) = M.lst I C m)) := by
  rw [inOrder_yes h, Bool.eq_iff_iff, Bool.and_eq_true, decide_eq_true_eq, decide_eq_true_eq, decide_eq_true_eq]
  constructor
  · intro h0
    obtain ⟨h1, h2⟩ := asc_of_ord (I := I) m h0
    refine ⟨?_, srt_of_asc h1 fun y hy => (h2 y hy).1⟩
    rw [List.filter_eq_nil_iff]
    intro y hy
    rw [(h2 y hy).1]
    decide
  · rintro ⟨_, h2⟩
    have := ord_srt n S (M.lst I C m)
    rw [h2] at this
    rw [M.lst_length] at this
    have hc : ∀ k, k ≤ m → M.ordTo S n (nC (M.lst I C m)) k = M.ordTo S n C k := by
      intro k
      induction k with
      | zero => intro _; rfl
      | succ k ih =>
        intro hk
        show (if M.ordTo S n (nC (M.lst I C m)) k < 0 then -1 else (if M.rankTo S (nC (M.lst I C m) k) n < M.ordTo S n (nC (M.lst I C m)) k then -1 else M.rankTo S (nC (M.lst I C m) k) n)) = (if M.ordTo S n C k < 0 then -1 else (if M.rankTo S (C k) n < M.ordTo S n C k then -1 else M.rankTo S (C k) n))
        rw [ih (by omega), (show nC (M.lst I C m) k = C k from by
          have hl : k < (M.lst I C m).length := by rw [M.lst_length]; omega
          rw [nC_at hl]; simp [M.lst])]
    rw [hc m (Nat.le_refl _)] at this
    exact this
end Go.Proofs.Ytbcoklognedffaa

/-
  What the passes of a plan leave, for the law of all letters that are treated. No program is named here.
-/
namespace Go.Proofs.Ytbcoklognedffaa
set_option linter.unusedVariables false

theorem restL_filter (b : Int) (n : Nat) (S : Nat → ByteArray) (L : List (Int × ByteArray)) (x : Nat) : M.restTo (M.planKey b n S (nC L) x) (nI L) (nC L) L.length = L.filter fun y => !hasR n S y := by
  show M.restTo (fun i => keyOf b n S x (nC L i)) (nI L) (nC L) L.length = _
  rw [restTo_filter, lst_nI]
  congr 1
  funext y
  unfold keyOf hasR
  by_cases h : M.rankTo S y.2 n < 0
  · rw [if_pos h, decide_eq_false (by omega)]; rfl
  · rw [if_neg h, decide_eq_true (by omega)]; rfl
theorem mem_flat {F : Nat → List (Int × ByteArray)} {y : Int × ByteArray} : ∀ {N : Nat}, y ∈ M.flat F N → ∃ d, d < N ∧ y ∈ F d
  | 0, h => by cases h
  | N + 1, h => by
    rcases List.mem_append.1 (show y ∈ M.flat F N ++ F N from h) with h | h
    · obtain ⟨d, hd, hy⟩ := mem_flat h
      exact ⟨d, by omega, hy⟩
    · exact ⟨N, by omega, h⟩
/-- Behind a pass all letters have ranks. -/
theorem step_ranked {b : Int} (b0 : 2 ≤ b) (b1 : b ≤ 16) {n : Nat} {S : Nat → ByteArray} {L : List (Int × ByteArray)} {x N : Nat} (hx : x ≤ 4) : ∀ y ∈ M.flat (stepB b n S L x) N, hasR n S y = true := fun y hy => by
  obtain ⟨d, _, hd⟩ := mem_flat hy
  rw [stepB_filter] at hd
  have := (List.mem_filter.1 hd).2
  rw [keyOf_some b0 b1 hx, Bool.and_eq_true] at this
  exact this.1
theorem passL_rest {b : Int} (b0 : 2 ≤ b) (b1 : b ≤ 16) {n : Nat} {S : Nat → ByteArray} (L : List (Int × ByteArray)) (k : Nat) : 0 < k → M.restTo (M.planKey b n S (nC (passL b n S 0 L k)) k) (nI (passL b n S 0 L k)) (nC (passL b n S 0 L k)) (passL b n S 0 L k).length = [] := fun hk => by
  rw [restL_filter, List.filter_eq_nil_iff]
  intro y hy
  obtain ⟨j, rfl⟩ : ∃ j, k = j + 1 := ⟨k - 1, by omega⟩
  by_cases hj : 0 + j ≤ 4
  · rw [step_ranked b0 b1 hj y hy]
    decide
  · have hd := hy
    obtain ⟨d, _, hd⟩ := mem_flat hd
    rw [stepB_filter] at hd
    have h2 := (List.mem_filter.1 hd).2
    unfold keyOf at h2
    unfold hasR
    by_cases h : M.rankTo S y.2 n < 0
    · rw [if_pos h] at h2; cases h2
    · rw [decide_eq_true (by omega)]; decide
theorem step_perm {b : Int} (b0 : 2 ≤ b) (n : Nat) (S : Nat → ByteArray) (L : List (Int × ByteArray)) (x : Nat) : (M.flat (stepB b n S L x) b.toNat ++ L.filter fun y => !hasR n S y).Perm L := by
  have h := flat_rest (M.planKey b n S (nC L) x) (nI L) (nC L) b.toNat L.length fun i _ d hd => planKey_bd b0 hd
  rw [lst_nI, restL_filter] at h
  exact h
/-- How many letters there are behind k passes. -/
theorem passL_len {b : Int} (b0 : 2 ≤ b) {n : Nat} {S : Nat → ByteArray} (L : List (Int × ByteArray)) : ∀ k, (passL b n S 0 L k).length = if k = 0 then L.length else L.length - (L.filter fun y => !hasR n S y).length
  | 0 => rfl
  | k + 1 => by
    have ih := passL_len b0 (n := n) (S := S) L k
    have hp := step_perm b0 n S (passL b n S 0 L k) (0 + k)
    have hl := hp.length_eq
    rw [List.length_append] at hl
    have e : (passL b n S 0 L (k + 1)).length = (M.flat (stepB b n S (passL b n S 0 L k) (0 + k)) b.toNat).length := rfl
    rw [if_neg (by omega), e]
    by_cases h : k = 0
    · subst h
      have e0 : passL b n S 0 L 0 = L := rfl
      rw [e0] at hl ⊢
      omega
    · rw [if_neg h] at ih
      have hz : ((passL b n S 0 L k).filter fun y => !hasR n S y) = [] := by
        obtain ⟨j, rfl⟩ : ∃ j, k = j + 1 := ⟨k - 1, by omega⟩
        rw [List.filter_eq_nil_iff]
        intro y hy
        obtain ⟨d, _, hd⟩ := mem_flat (show y ∈ M.flat (stepB b n S (passL b n S 0 L j) (0 + j)) b.toNat from hy)
        rw [stepB_filter] at hd
        have h2 := (List.mem_filter.1 hd).2
        unfold keyOf at h2
        unfold hasR
        by_cases h : M.rankTo S y.2 n < 0
        · rw [if_pos h] at h2; cases h2
        · rw [decide_eq_true (by omega)]; decide
      rw [hz, List.length_nil, Nat.add_zero] at hl
      omega
/-- All passes, from the first one on, are what RunPlan does. -/
theorem run_passes {b p : Int} {n : Nat} {S : Nat → ByteArray} {m : Nat} {I : Nat → Int} {C : Nat → ByteArray} (b0 : 2 ≤ b) (b1 : b ≤ 16) (h : runOk b p n S m I C = true) : srt n S (M.lst I C m) = passL b n S 0 (M.lst I C m) p.toNat := by
  obtain ⟨hp, hb⟩ := runOk_yes h
  obtain ⟨s1, s2, s3, s4⟩ := M.plan_shape hp
  rw [← runList_srt h]
  unfold runList
  rw [if_pos h]
  have key : ∀ t, t ≤ 3 → M.flat (binsAt b n S m I C t) b.toNat = passL b n S 0 (M.lst I C m) (t + 1) := by
    intro t
    induction t with
    | zero =>
      intro _
      show _ = M.flat (stepB b n S (M.lst I C m) (0 + 0)) b.toNat
      refine M.flat_congr fun d _ => ?_
      rw [stepB_filter]
      show M.binTo (fun i => keyOf b n S 0 (C i)) I C m d = _
      exact binTo_filter _ I C d m
    | succ t ih =>
      intro ht
      show M.flat (stepB b n S (M.flat (binsAt b n S m I C t) b.toNat) (t + 1)) b.toNat = M.flat (stepB b n S (passL b n S 0 (M.lst I C m) (t + 1)) (0 + (t + 1))) b.toNat
      rw [ih (by omega), Nat.zero_add]
  rw [key (p.toNat - 1) (by omega), show p.toNat - 1 + 1 = p.toNat by omega]
theorem sumb {j m rl : Nat} {sm : Int} (hj : j ≤ 3) (hm : m ≤ 60) (hr : rl ≤ m) (h : sm = (if j = 0 then 0 else (m : Int) + ((j : Int) - 1) * ((m : Int) - (rl : Int)))) : (0 ≤ sm ∧ sm ≤ 1000) ∨ False := by
  refine Or.inl ?_
  rw [h]
  rcases j with _ | _ | _ | _ | j
  · simp
  · rw [if_neg (by omega)]; omega
  · rw [if_neg (by omega)]; omega
  · rw [if_neg (by omega)]; omega
  · omega
theorem treat_sum (m rl : Nat) (q : Int) : (m : Int) + (q - 1) * ((m : Int) - (rl : Int)) = ((m : Int) - (rl : Int)) * q + (rl : Int) := by
  rw [Int.sub_mul, Int.one_mul, Int.mul_comm q]
  omega
end Go.Proofs.Ytbcoklognedffaa
