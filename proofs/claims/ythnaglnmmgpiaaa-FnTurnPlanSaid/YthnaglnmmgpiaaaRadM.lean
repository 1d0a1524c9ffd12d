/-
  Passes of a plan sort by rank: behind all passes the letters lie rank by rank, those of a rank as they came. No program is named here.
-/
import Derived.Test.YthnaglnmmgpiaaaMgN12
namespace Go.Proofs.Ythnaglnmmgpiaaa
set_option linter.unusedVariables false

/-- A letter has a rank, and which. -/
def hasR (n : Nat) (S : Nat → ByteArray) (y : Int × ByteArray) : Bool := decide (0 ≤ M.rankTo S y.2 n)
def rkN (n : Nat) (S : Nat → ByteArray) (y : Int × ByteArray) : Nat := (M.rankTo S y.2 n).toNat
/-- The letters rank by rank. -/
def srt (n : Nat) (S : Nat → ByteArray) (L : List (Int × ByteArray)) : List (Int × ByteArray) := M.flat (fun v => L.filter fun y => hasR n S y && rkN n S y == v) n
theorem binTo_filter (κ : ByteArray → Option Nat) (I : Nat → Int) (C : Nat → ByteArray) (d : Nat) : ∀ k, M.binTo (fun i => κ (C i)) I C k d = (M.lst I C k).filter fun y => κ y.2 == some d
  | 0 => rfl
  | k + 1 => by
    have ih := binTo_filter κ I C d k
    rw [M.lst_succ, List.filter_append, ← ih]
    cases h : κ (C k) with
    | none =>
      rw [M.binTo_none (key := fun i => κ (C i)) h]
      have e : [(I k, C k)].filter (fun y => κ y.2 == some d) = [] := by simp [h]
      rw [e, List.append_nil]
    | some c =>
      rw [M.binTo_some (key := fun i => κ (C i)) h]
      simp only
      by_cases e : d = c
      · subst e
        rw [if_pos rfl]
        have e2 : [(I k, C k)].filter (fun y => κ y.2 == some d) = [(I k, C k)] := by simp [h]
        rw [e2]
      · rw [if_neg e]
        have e2 : [(I k, C k)].filter (fun y => κ y.2 == some d) = [] := by simp [h]; exact fun e3 => e e3.symm
        rw [e2, List.append_nil]
theorem restTo_filter (κ : ByteArray → Option Nat) (I : Nat → Int) (C : Nat → ByteArray) : ∀ k, M.restTo (fun i => κ (C i)) I C k = (M.lst I C k).filter fun y => κ y.2 == none
  | 0 => rfl
  | k + 1 => by
    have ih := restTo_filter κ I C k
    rw [M.lst_succ, List.filter_append, ← ih]
    cases h : κ (C k) with
    | none =>
      rw [M.restTo_none (key := fun i => κ (C i)) h]
      have e : [(I k, C k)].filter (fun y => κ y.2 == none) = [(I k, C k)] := by simp [h]
      rw [e]
    | some c =>
      rw [M.restTo_some (key := fun i => κ (C i)) h]
      have e : [(I k, C k)].filter (fun y => κ y.2 == none) = [] := by simp [h]
      rw [e, List.append_nil]
/-- The bin of a code in a pass. -/
def keyOf (b : Int) (n : Nat) (S : Nat → ByteArray) (x : Nat) (c : ByteArray) : Option Nat := if M.rankTo S c n < 0 then none else some (M.rankBin b (M.rankTo S c n) x).toNat
theorem planKey_fun (b : Int) (n : Nat) (S C : Nat → ByteArray) (x : Nat) : M.planKey b n S C x = fun i => keyOf b n S x (C i) := rfl
theorem stepB_filter (b : Int) (n : Nat) (S : Nat → ByteArray) (L : List (Int × ByteArray)) (x d : Nat) : stepB b n S L x d = L.filter fun y => keyOf b n S x y.2 == some d := by
  show M.binTo (fun i => keyOf b n S x (nC L i)) (nI L) (nC L) L.length d = _
  rw [binTo_filter, lst_nI]
theorem flat_filter (F : Nat → List (Int × ByteArray)) (q : Int × ByteArray → Bool) : ∀ N, (M.flat F N).filter q = M.flat (fun v => (F v).filter q) N
  | 0 => rfl
  | N + 1 => by
    show (M.flat F N ++ F N).filter q = M.flat (fun v => (F v).filter q) N ++ (F N).filter q
    rw [List.filter_append, flat_filter F q N]
theorem flat_add (G : Nat → List (Int × ByteArray)) (a : Nat) : ∀ p, M.flat G (a + p) = M.flat G a ++ M.flat (fun v => G (a + v)) p
  | 0 => (List.append_nil _).symm
  | p + 1 => by
    show M.flat G (a + p) ++ G (a + p) = M.flat G a ++ (M.flat (fun v => G (a + v)) p ++ G (a + p))
    rw [flat_add G a p, List.append_assoc]
theorem flat_flat (G : Nat → List (Int × ByteArray)) (p : Nat) : ∀ B, M.flat (fun d => M.flat (fun v => G (d * p + v)) p) B = M.flat G (B * p)
  | 0 => by rw [Nat.zero_mul]; rfl
  | B + 1 => by
    show M.flat (fun d => M.flat (fun v => G (d * p + v)) p) B ++ M.flat (fun v => G (B * p + v)) p = _
    rw [flat_flat G p B, Nat.succ_mul, flat_add]
theorem flat_trim (F : Nat → List (Int × ByteArray)) (n : Nat) : ∀ d, (∀ v, n ≤ v → v < n + d → F v = []) → M.flat F (n + d) = M.flat F n
  | 0, _ => rfl
  | d + 1, h => by
    show M.flat F (n + d) ++ F (n + d) = _
    rw [h (n + d) (by omega) (by omega), List.append_nil]
    exact flat_trim F n d fun v h1 h2 => h v h1 (by omega)
theorem pw_toNat {b : Int} (b0 : 2 ≤ b) (b1 : b ≤ 16) {k : Nat} (hk : k ≤ 4) : ((M.pw b k).toNat : Int) = M.pw b k := Int.toNat_of_nonneg (M.pw_bd b k (by omega) b1 hk).1
theorem keyOf_some {b : Int} (b0 : 2 ≤ b) (b1 : b ≤ 16) {n : Nat} {S : Nat → ByteArray} {x : Nat} (hx : x ≤ 4) (y : Int × ByteArray) (d : Nat) : (keyOf b n S x y.2 == some d) = (hasR n S y && rkN n S y / (M.pw b x).toNat % b.toNat == d) := by
  unfold keyOf hasR rkN
  by_cases h : M.rankTo S y.2 n < 0
  · rw [if_pos h, decide_eq_false (by omega)]
    rfl
  · rw [if_neg h, decide_eq_true (by omega), Bool.true_and]
    have e : (M.rankBin b (M.rankTo S y.2 n) x).toNat = (M.rankTo S y.2 n).toNat / (M.pw b x).toNat % b.toNat := by
      unfold M.rankBin
      obtain ⟨r, hr⟩ := Int.eq_ofNat_of_zero_le (show 0 ≤ M.rankTo S y.2 n by omega)
      obtain ⟨q, hq⟩ := Int.eq_ofNat_of_zero_le (M.pw_bd b x (by omega) b1 hx).1
      obtain ⟨B, hB⟩ := Int.eq_ofNat_of_zero_le (show 0 ≤ b by omega)
      rw [hr, hq, hB, ← Int.natCast_ediv, ← Int.natCast_emod]
      rfl
    rw [e]
    rfl
/-- The letters with a rank whose remainder is v. -/
def rem (n : Nat) (S : Nat → ByteArray) (L : List (Int × ByteArray)) (P v : Nat) : List (Int × ByteArray) := L.filter fun y => hasR n S y && rkN n S y % P == v
theorem rem_one (n : Nat) (S : Nat → ByteArray) (L : List (Int × ByteArray)) {b : Int} (b0 : 2 ≤ b) (b1 : b ≤ 16) (d : Nat) : stepB b n S L 0 d = rem n S L b.toNat d := by
  rw [stepB_filter]
  unfold rem
  congr 1
  funext y
  rw [keyOf_some b0 b1 (by omega)]
  show (hasR n S y && rkN n S y / (1 : Int).toNat % b.toNat == d) = _
  rw [show (1 : Int).toNat = 1 from rfl, Nat.div_one]
theorem rem_next (n : Nat) (S : Nat → ByteArray) (L : List (Int × ByteArray)) {b : Int} (b0 : 2 ≤ b) (b1 : b ≤ 16) {k : Nat} (hk : k ≤ 4) (P : Nat) (hP : (M.pw b k).toNat = P) (hP0 : 0 < P) :
    M.flat (stepB b n S (M.flat (rem n S L P) P) k) b.toNat = M.flat (rem n S L (P * b.toNat)) (P * b.toNat) := by
  have h1 : ∀ d, d < b.toNat → stepB b n S (M.flat (rem n S L P) P) k d = M.flat (fun v => rem n S L (P * b.toNat) (d * P + v)) P := fun d hd => by
    rw [stepB_filter, flat_filter]
    refine M.flat_congr fun v hv => ?_
    unfold rem
    rw [List.filter_filter]
    congr 1
    funext y
    rw [keyOf_some b0 b1 hk, hP]
    have e : rkN n S y % (P * b.toNat) = rkN n S y % P + P * (rkN n S y / P % b.toNat) := Nat.mod_mul
    cases hasR n S y
    · simp
    · simp only [Bool.true_and]
      rw [Bool.eq_iff_iff, Bool.and_eq_true, beq_iff_eq, beq_iff_eq, beq_iff_eq, e, Nat.mul_comm d P]
      have hm := Nat.mod_lt (rkN n S y) hP0
      constructor
      · rintro ⟨h1, h2⟩; rw [h1, h2, Nat.add_comm]
      · intro h
        have hdm : (P * (rkN n S y / P % b.toNat) + rkN n S y % P) / P = (P * d + v) / P := by rw [Nat.add_comm (P * (rkN n S y / P % b.toNat)), h]
        rw [Nat.mul_add_div hP0, Nat.mul_add_div hP0, Nat.div_eq_of_lt hm, Nat.div_eq_of_lt hv] at hdm
        have h2 : rkN n S y / P % b.toNat = d := by omega
        rw [h2] at h
        exact ⟨h2, by omega⟩
  rw [M.flat_congr h1, flat_flat, Nat.mul_comm]
theorem binsAt_rem {b : Int} (b0 : 2 ≤ b) (b1 : b ≤ 16) (n : Nat) (S : Nat → ByteArray) (m : Nat) (I : Nat → Int) (C : Nat → ByteArray) : ∀ t, t ≤ 3 → M.flat (binsAt b n S m I C t) b.toNat = M.flat (rem n S (M.lst I C m) (M.pw b (t + 1)).toNat) (M.pw b (t + 1)).toNat
  | 0, _ => by
    have hp : (M.pw b (0 + 1)).toNat = b.toNat := by
      show (M.pw b 0 * b).toNat = _
      rw [M.pw_zero, Int.one_mul]
    rw [hp]
    refine M.flat_congr fun d hd => ?_
    rw [← rem_one n S (M.lst I C m) b0 b1 d, stepB_filter]
    show M.binTo (fun i => keyOf b n S 0 (C i)) I C m d = _
    exact binTo_filter _ I C d m
  | t + 1, ht => by
    have ih := binsAt_rem b0 b1 n S m I C t (by omega)
    show M.flat (stepB b n S (M.flat (binsAt b n S m I C t) b.toNat) (t + 1)) b.toNat = _
    have hpos := M.pw_pos b (t + 1) b0 b1 (by omega)
    rw [ih, rem_next n S (M.lst I C m) b0 b1 (k := t + 1) (by omega) _ rfl (by omega)]
    have e : (M.pw b (t + 1)).toNat * b.toNat = (M.pw b (t + 1 + 1)).toNat := by
      rw [M.pw_succ b (t + 1), Int.toNat_mul (by omega) (by omega)]
    rw [e]
theorem rank_lt (n : Nat) (S : Nat → ByteArray) (y : Int × ByteArray) (h : hasR n S y = true) : rkN n S y < n := by
  unfold hasR at h
  have h1 := of_decide_eq_true h
  have h2 := (M.rank_bd S y.2 n).2
  unfold rkN
  omega
/-- What RunPlan answers: the letters rank by rank. -/
theorem runList_srt {b p : Int} {n : Nat} {S : Nat → ByteArray} {m : Nat} {I : Nat → Int} {C : Nat → ByteArray} (h : runOk b p n S m I C = true) : runList b p n S m I C = srt n S (M.lst I C m) := by
  obtain ⟨hp, hb⟩ := runOk_yes h
  obtain ⟨s1, s2, s3, s4⟩ := M.plan_shape hp
  have hf : M.fits b p n = true := by
    unfold M.plan at hp
    rw [Bool.and_eq_true] at hp
    exact hp.1
  obtain ⟨_, _, _, hn⟩ := M.fits_yes hf
  unfold runList
  rw [if_pos h, binsAt_rem s1 s2 n S m I C (p.toNat - 1) (by omega), show p.toNat - 1 + 1 = p.toNat by omega]
  have hpw := pw_toNat s1 s2 (k := p.toNat) (by omega)
  obtain ⟨P, hP⟩ : ∃ P, (M.pw b p.toNat).toNat = P := ⟨_, rfl⟩
  rw [hP] at hpw ⊢
  have hPn : n ≤ P := by omega
  have hr : ∀ v, v < P → rem n S (M.lst I C m) P v = (M.lst I C m).filter fun y => hasR n S y && rkN n S y == v := fun v hv => by
    unfold rem
    congr 1
    funext y
    cases hh : hasR n S y
    · rfl
    · rw [Nat.mod_eq_of_lt (Nat.lt_of_lt_of_le (rank_lt n S y hh) hPn)]
  rw [M.flat_congr hr]
  obtain ⟨d, rfl⟩ : ∃ d, P = n + d := ⟨P - n, by omega⟩
  refine flat_trim _ n d fun v h1 h2 => ?_
  rw [List.filter_eq_nil_iff]
  intro y _ hy
  rw [Bool.and_eq_true, beq_iff_eq] at hy
  have := rank_lt n S y hy.1
  omega
theorem runRest_filter {b p : Int} {n : Nat} {S : Nat → ByteArray} {m : Nat} {I : Nat → Int} {C : Nat → ByteArray} (h : runOk b p n S m I C = true) : runRest b p n S m I C = (M.lst I C m).filter fun y => !hasR n S y := by
  unfold runRest
  rw [if_pos h]
  show M.restTo (fun i => keyOf b n S 0 (C i)) I C m = _
  rw [restTo_filter]
  congr 1
  funext y
  unfold keyOf hasR
  by_cases h : M.rankTo S y.2 n < 0
  · rw [if_pos h, decide_eq_false (by omega)]; rfl
  · rw [if_neg h, decide_eq_true (by omega)]; rfl
theorem flat_pick (F : Nat → List (Int × ByteArray)) (v : Nat) (hF : ∀ u, u ≠ v → F u = []) : ∀ n, M.flat F n = if v < n then F v else []
  | 0 => by rw [if_neg (by omega)]; rfl
  | n + 1 => by
    show M.flat F n ++ F n = _
    rw [flat_pick F v hF n]
    by_cases h : v < n
    · rw [if_pos h, if_pos (by omega), hF n (by omega), List.append_nil]
    · rw [if_neg h, List.nil_append]
      by_cases e : n = v
      · subst e; rw [if_pos (by omega)]
      · rw [if_neg (by omega), hF n e]
theorem srt_bucket (n : Nat) (S : Nat → ByteArray) (L : List (Int × ByteArray)) (v : Nat) : ((srt n S L).filter fun y => hasR n S y && rkN n S y == v) = L.filter fun y => hasR n S y && rkN n S y == v := by
  unfold srt
  rw [flat_filter]
  have e : ∀ u, (L.filter (fun y => hasR n S y && rkN n S y == u)).filter (fun y => hasR n S y && rkN n S y == v) = if u = v then L.filter (fun y => hasR n S y && rkN n S y == v) else [] := fun u => by
    rw [List.filter_filter]
    by_cases h : u = v
    · subst h
      rw [if_pos rfl]
      congr 1
      funext y
      exact Bool.and_self _
    · rw [if_neg h, List.filter_eq_nil_iff]
      intro y _ hy
      simp only [Bool.and_eq_true, beq_iff_eq] at hy
      exact h (hy.2.2.symm.trans hy.1.2)
  rw [flat_pick _ v (fun u hu => by rw [e u, if_neg hu]), e v, if_pos rfl]
  by_cases h : v < n
  · rw [if_pos h]
  · rw [if_neg h]
    symm
    rw [List.filter_eq_nil_iff]
    intro y _ hy
    rw [Bool.and_eq_true, beq_iff_eq] at hy
    have := rank_lt n S y hy.1
    omega
theorem srt_idem (n : Nat) (S : Nat → ByteArray) (L : List (Int × ByteArray)) : srt n S (srt n S L) = srt n S L := M.flat_congr fun v _ => srt_bucket n S L v
theorem srt_asc (n : Nat) (S : Nat → ByteArray) (L : List (Int × ByteArray)) : (srt n S L).Pairwise (fun x y => rkN n S x ≤ rkN n S y) ∧ ∀ y ∈ srt n S L, hasR n S y = true := by
  have key : ∀ N, (M.flat (fun v => L.filter fun y => hasR n S y && rkN n S y == v) N).Pairwise (fun x y => rkN n S x ≤ rkN n S y) ∧ ∀ y ∈ M.flat (fun v => L.filter fun y => hasR n S y && rkN n S y == v) N, hasR n S y = true ∧ rkN n S y < N := by
    intro N
    induction N with
    | zero => exact ⟨List.Pairwise.nil, fun y hy => by cases hy⟩
    | succ N ih =>
      have hm : ∀ y ∈ L.filter (fun y => hasR n S y && rkN n S y == N), hasR n S y = true ∧ rkN n S y = N := fun y hy => by
        have := (List.mem_filter.1 hy).2
        rw [Bool.and_eq_true, beq_iff_eq] at this
        exact this
      refine ⟨List.pairwise_append.2 ⟨ih.1, ?_, fun x hx y hy => ?_⟩, fun y hy => ?_⟩
      · exact List.pairwise_of_forall_mem_list fun x hx y hy => by rw [(hm x hx).2, (hm y hy).2]; exact Nat.le_refl _
      · have := (ih.2 x hx).2
        rw [(hm y hy).2]
        omega
      · rcases List.mem_append.1 hy with h | h
        · exact ⟨(ih.2 y h).1, by have := (ih.2 y h).2; omega⟩
        · exact ⟨(hm y h).1, by rw [(hm y h).2]; omega⟩
  exact ⟨(key n).1, fun y hy => ((key n).2 y hy).1⟩
/-- The letters with a rank are those rank by rank, in another order. -/
theorem srt_perm (n : Nat) (S : Nat → ByteArray) (m : Nat) (I : Nat → Int) (C : Nat → ByteArray) : (srt n S (M.lst I C m) ++ (M.lst I C m).filter fun y => !hasR n S y).Perm (M.lst I C m) := by
  have h := flat_rest (fun i => if M.rankTo S (C i) n < 0 then none else some (M.rankTo S (C i) n).toNat) I C n m (fun i _ d hd => by
    by_cases h : M.rankTo S (C i) n < 0
    · rw [if_pos h] at hd; cases hd
    · rw [if_neg h] at hd
      have := (M.rank_bd S (C i) n).2
      have := Option.some.inj hd
      omega)
  have e1 : M.flat (M.binTo (fun i => if M.rankTo S (C i) n < 0 then none else some (M.rankTo S (C i) n).toNat) I C m) n = srt n S (M.lst I C m) := M.flat_congr fun v _ => by
    rw [binTo_filter (fun c => if M.rankTo S c n < 0 then none else some (M.rankTo S c n).toNat)]
    congr 1
    funext y
    unfold hasR rkN
    by_cases h : M.rankTo S y.2 n < 0
    · rw [if_pos h, decide_eq_false (by omega)]; rfl
    · rw [if_neg h, decide_eq_true (by omega)]; rfl
  have e2 : M.restTo (fun i => if M.rankTo S (C i) n < 0 then none else some (M.rankTo S (C i) n).toNat) I C m = (M.lst I C m).filter fun y => !hasR n S y := by
    rw [restTo_filter (fun c => if M.rankTo S c n < 0 then none else some (M.rankTo S c n).toNat)]
    congr 1
    funext y
    unfold hasR
    by_cases h : M.rankTo S y.2 n < 0
    · rw [if_pos h, decide_eq_false (by omega)]; rfl
    · rw [if_neg h, decide_eq_true (by omega)]; rfl
  rw [e1, e2] at h
  exact h
/-- Letters whose ranks ascend are in order. -/
theorem ordTo_asc {n : Nat} {S : Nat → ByteArray} {R : List (Int × ByteArray)} (h1 : R.Pairwise (fun x y => rkN n S x ≤ rkN n S y)) (h2 : ∀ y ∈ R, hasR n S y = true) : ∀ k, k ≤ R.length → 0 ≤ M.ordTo S n (nC R) k ∧ (∀ hk : 0 < k, ∀ hl : k - 1 < R.length, M.ordTo S n (nC R) k = M.rankTo S (R[k - 1]).2 n)
  | 0, _ => ⟨by unfold M.ordTo; omega, fun h => absurd h (by omega)⟩
  | k + 1, hk => by
    obtain ⟨i1, i2⟩ := ordTo_asc h1 h2 k (by omega)
    have hkl : k < R.length := by omega
    have hr : 0 ≤ M.rankTo S (R[k]).2 n := of_decide_eq_true (h2 _ (List.getElem_mem hkl))
    have hle : M.ordTo S n (nC R) k ≤ M.rankTo S (nC R k) n := by
      rw [nC_at hkl]
      by_cases h0 : k = 0
      · subst h0; unfold M.ordTo; exact hr
      · rw [i2 (by omega) (by omega)]
        have := List.pairwise_iff_getElem.1 h1 (k - 1) k (by omega) hkl (by omega)
        have h3 : 0 ≤ M.rankTo S (R[k - 1]'(by omega)).2 n := of_decide_eq_true (h2 _ (List.getElem_mem _))
        unfold rkN at this
        omega
    have e := M.ordTo_step i1 hle
    rw [e, nC_at hkl]
    exact ⟨hr, fun _ _ => rfl⟩
end Go.Proofs.Ythnaglnmmgpiaaa
