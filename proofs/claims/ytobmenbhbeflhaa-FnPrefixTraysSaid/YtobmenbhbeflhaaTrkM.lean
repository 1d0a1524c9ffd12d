/-
  Plain functions on lists of numbers: weights, loadings, loads, first fit. No program is named here.
-/
namespace Go.Proofs.Ytobmenbhbeflhaa.MW

/-- The number at an index. -/
def gz (L : List Int) (i : Nat) : Int := L.getD i 0
theorem gz_at {L : List Int} {i : Nat} (h : i < L.length) : gz L i = L[i] := by simp [gz, h]
theorem gz_past {L : List Int} {i : Nat} (h : L.length ≤ i) : gz L i = 0 := by simp [gz, List.getD, List.getElem?_eq_none h]
theorem gz_set_self {L : List Int} {i : Nat} (h : i < L.length) (x : Int) : gz (L.set i x) i = x := by
  unfold gz; rw [List.getD_eq_getElem?_getD, List.getElem?_set_self h]; rfl
theorem gz_set_ne {L : List Int} {i j : Nat} (h : i ≠ j) (x : Int) : gz (L.set i x) j = gz L j := by
  unfold gz; rw [List.getD_eq_getElem?_getD, List.getElem?_set_ne h, ← List.getD_eq_getElem?_getD]
theorem gz_replicate (n i : Nat) : gz (List.replicate n 0) i = 0 := by
  by_cases h : i < n
  · rw [gz_at (by simpa using h)]; simp
  · exact gz_past (by simp; omega)
theorem gz_mem {L : List Int} {i : Nat} (h : i < L.length) : gz L i ∈ L := by rw [gz_at h]; exact List.getElem_mem h
theorem mem_gz {L : List Int} {x : Int} (h : x ∈ L) : ∃ i, i < L.length ∧ gz L i = x := by
  obtain ⟨i, hi, e⟩ := List.mem_iff_getElem.1 h
  exact ⟨i, hi, by rw [gz_at hi, e]⟩
theorem gz_ext {L R : List Int} (hl : L.length = R.length) (h : ∀ i, i < L.length → gz L i = gz R i) : L = R := by
  apply List.ext_getElem hl
  intro i h1 h2
  have := h i h1
  rwa [gz_at h1, gz_at h2] at this
/-- All of the first k numbers lie between two bounds. -/
def inTo (lo hi : Int) (L : List Int) (k : Nat) : Bool := (L.take k).all fun x => decide (lo ≤ x ∧ x ≤ hi)
theorem inTo_iff (lo hi : Int) (L : List Int) : (L.all fun x => decide (lo ≤ x ∧ x ≤ hi)) = true ↔ ∀ i, i < L.length → lo ≤ gz L i ∧ gz L i ≤ hi := by
  rw [List.all_eq_true]
  constructor
  · intro h i hi; exact of_decide_eq_true (h _ (gz_mem hi))
  · intro h x hx
    obtain ⟨i, hi, e⟩ := mem_gz hx
    exact decide_eq_true (e ▸ h i hi)
/-- All numbers lie between two bounds. -/
def allIn (lo hi : Int) (L : List Int) : Bool := L.all fun x => decide (lo ≤ x ∧ x ≤ hi)
theorem allIn_yes {lo hi : Int} {L : List Int} (h : ∀ i, i < L.length → lo ≤ gz L i ∧ gz L i ≤ hi) : allIn lo hi L = true := (inTo_iff lo hi L).2 h
theorem allIn_of {lo hi : Int} {L : List Int} (h : allIn lo hi L = true) : ∀ i, i < L.length → lo ≤ gz L i ∧ gz L i ≤ hi := (inTo_iff lo hi L).1 h
theorem allIn_no {lo hi : Int} {L : List Int} {i : Nat} (hi' : i < L.length) (h : ¬ (lo ≤ gz L i ∧ gz L i ≤ hi)) : allIn lo hi L = false := by
  rw [Bool.eq_false_iff]; intro e; exact h (allIn_of e i hi')
/-- Numbers are weights for a capacity. -/
def wOk (L : List Int) (c : Int) : Bool := decide (1 ≤ c ∧ c ≤ 1000) && (decide (L.length ≤ 8) && allIn 1 c L)
theorem wOk_iff (L : List Int) (c : Int) : wOk L c = true ↔ (1 ≤ c ∧ c ≤ 1000) ∧ L.length ≤ 8 ∧ ∀ i, i < L.length → 1 ≤ gz L i ∧ gz L i ≤ c := by
  unfold wOk
  rw [Bool.and_eq_true, Bool.and_eq_true]
  constructor
  · intro ⟨h1, h2, h3⟩; exact ⟨of_decide_eq_true h1, of_decide_eq_true h2, allIn_of h3⟩
  · intro ⟨h1, h2, h3⟩; exact ⟨decide_eq_true h1, decide_eq_true h2, allIn_yes h3⟩
theorem wOk_cap {L : List Int} {c : Int} (h : ¬ (1 ≤ c ∧ c ≤ 1000)) : wOk L c = false := by unfold wOk; rw [decide_eq_false h]; rfl
theorem wOk_long {L : List Int} {c : Int} (h : ¬ L.length ≤ 8) : wOk L c = false := by unfold wOk; rw [decide_eq_false h]; simp
theorem wOk_in {L : List Int} {c : Int} (h1 : 1 ≤ c ∧ c ≤ 1000) (h2 : L.length ≤ 8) : wOk L c = allIn 1 c L := by
  unfold wOk; rw [decide_eq_true h1, decide_eq_true h2]; rfl
/-- Numbers are those of trucks. -/
def gOk (G : List Int) : Bool := decide (G.length ≤ 8) && allIn 0 7 G
theorem gOk_iff (G : List Int) : gOk G = true ↔ G.length ≤ 8 ∧ ∀ i, i < G.length → 0 ≤ gz G i ∧ gz G i ≤ 7 := by
  unfold gOk
  rw [Bool.and_eq_true]
  constructor
  · intro ⟨h1, h2⟩; exact ⟨of_decide_eq_true h1, allIn_of h2⟩
  · intro ⟨h1, h2⟩; exact ⟨decide_eq_true h1, allIn_yes h2⟩
theorem gOk_long {L : List Int} (h : ¬ L.length ≤ 8) : gOk L = false := by unfold gOk; rw [decide_eq_false h]; rfl
theorem gOk_in {L : List Int} (h2 : L.length ≤ 8) : gOk L = allIn 0 7 L := by
  unfold gOk; rw [decide_eq_true h2]; rfl
/-- One more than the greatest of the first k numbers, and of -1. -/
def cntTo (G : List Int) : Nat → Int
  | 0 => 0
  | k + 1 => max (cntTo G k) (gz G k + 1)
theorem cntTo_nonneg (G : List Int) : ∀ k, 0 ≤ cntTo G k
  | 0 => Int.le_refl 0
  | k + 1 => by have := cntTo_nonneg G k; show 0 ≤ max _ _; omega
theorem cntTo_le {G : List Int} {m : Int} (hm : 0 ≤ m) : ∀ k, (∀ i, i < k → gz G i < m) → cntTo G k ≤ m
  | 0, _ => hm
  | k + 1, h => by
    have := cntTo_le hm k (fun i hi => h i (by omega))
    have := h k (by omega)
    show max _ _ ≤ m; omega
theorem cntTo_lt (G : List Int) : ∀ k i, i < k → gz G i < cntTo G k
  | 0, _, h => absurd h (by omega)
  | k + 1, i, h => by
    show _ < max _ _
    by_cases e : i = k
    · subst e; omega
    · have := cntTo_lt G k i (by omega); omega
def cnt (G : List Int) : Int := cntTo G G.length
def trucks (G : List Int) : Int := if gOk G = true then cnt G else -1
theorem trucks_no {G : List Int} (h : gOk G = false) : trucks G = -1 := by unfold trucks; rw [h]; rfl
theorem trucks_yes {G : List Int} (h : gOk G = true) : trucks G = cnt G := by unfold trucks; rw [h]; rfl
theorem cnt_le8 {G : List Int} (h : gOk G = true) : 0 ≤ cnt G ∧ cnt G ≤ 8 :=
  ⟨cntTo_nonneg _ _, cntTo_le (by omega) _ fun i hi => by have := ((gOk_iff G).1 h).2 i hi; omega⟩
theorem trucks_neg (G : List Int) : decide (trucks G < 0) = !gOk G := by
  cases h : gOk G
  · rw [trucks_no h]; rfl
  · rw [trucks_yes h]; have := cnt_le8 h; exact decide_eq_false (by omega)
/-- The loads behind the first k weights. -/
def loadsTo (W G : List Int) : Nat → List Int
  | 0 => List.replicate (cnt G).toNat 0
  | k + 1 => (loadsTo W G k).set (gz G k).toNat (gz (loadsTo W G k) (gz G k).toNat + gz W k)
theorem loadsTo_length (W G : List Int) : ∀ k, (loadsTo W G k).length = (cnt G).toNat
  | 0 => by simp [loadsTo]
  | k + 1 => by show (List.set _ _ _).length = _; rw [List.length_set, loadsTo_length W G k]
theorem loadsTo_bd {W G : List Int} (hw : ∀ i, 0 ≤ gz W i ∧ gz W i ≤ 1000) : ∀ k i, 0 ≤ gz (loadsTo W G k) i ∧ gz (loadsTo W G k) i ≤ 1000 * k
  | 0, i => by show 0 ≤ gz (List.replicate _ 0) i ∧ gz (List.replicate _ 0) i ≤ _; rw [gz_replicate]; omega
  | k + 1, i => by
    have ih := loadsTo_bd (W := W) (G := G) hw k
    show 0 ≤ gz (List.set _ _ _) i ∧ gz (List.set _ _ _) i ≤ _
    by_cases e : (gz G k).toNat = i
    · by_cases hl : i < (loadsTo W G k).length
      · subst e; rw [gz_set_self hl]; have := ih (gz G k).toNat; have := hw k; omega
      · rw [gz_past (by rw [List.length_set]; omega)]; omega
    · rw [gz_set_ne e]; have := ih i; omega
def loads (W G : List Int) : List Int := loadsTo W G W.length
/-- Weights, numbers of trucks, and as many. -/
def ldOk (W : List Int) (c : Int) (G : List Int) : Bool := wOk W c && (gOk G && decide (W.length = G.length))
def truckLoads (W G : List Int) : List Int := if ldOk W 1000 G = true then loads W G else []
def fine (W : List Int) (c : Int) (G : List Int) : Bool := ldOk W c G && (loads W G).all fun x => decide (x ≤ c)
theorem wOk_gz {W : List Int} {c : Int} (h : wOk W c = true) (i : Nat) : 0 ≤ gz W i ∧ gz W i ≤ 1000 := by
  obtain ⟨h1, h2, h3⟩ := (wOk_iff W c).1 h
  by_cases hi : i < W.length
  · have := h3 i hi; omega
  · rw [gz_past (by omega)]; omega

/-- The first truck from k on with room, at most n. -/
def roomFrom (L : List Int) (x c : Int) : Nat → Nat → Nat
  | k, 0 => k
  | k, f + 1 => if gz L k + x ≤ c then k else roomFrom L x c (k + 1) f
def room (L : List Int) (x c : Int) : Nat := roomFrom L x c 0 L.length
theorem roomFrom_at {L : List Int} {x c : Int} : ∀ f k r, k ≤ r → r ≤ k + f → (∀ j, k ≤ j → j < r → ¬ gz L j + x ≤ c) → (gz L r + x ≤ c ∨ r = k + f) → roomFrom L x c k f = r
  | 0, k, r, h1, h2, _, _ => by show k = r; omega
  | f + 1, k, r, h1, h2, h3, h4 => by
    show (if _ then _ else _) = r
    by_cases e : k = r
    · subst e
      rcases h4 with h4 | h4
      · rw [if_pos h4]
      · omega
    · rw [if_neg (h3 k (Nat.le_refl _) (by omega))]
      exact roomFrom_at f (k + 1) r (by omega) (by omega) (fun j hj1 hj2 => h3 j (by omega) hj2) (by rcases h4 with h | h; exact Or.inl h; exact Or.inr (by omega))
theorem room_at {L : List Int} {x c : Int} {r : Nat} (h2 : r < L.length) (h3 : ∀ j, j < r → ¬ gz L j + x ≤ c) (h4 : gz L r + x ≤ c) : room L x c = r :=
  roomFrom_at _ _ _ (Nat.zero_le _) (by omega) (fun j _ hj => h3 j hj) (Or.inl h4)
/-- Loads and numbers behind the weights with the first k indices of an order. -/
def fitTo (W : List Int) (c : Int) (O : List Int) : Nat → List Int × List Int
  | 0 => (List.replicate W.length 0, List.replicate W.length 0)
  | k + 1 =>
    let p := fitTo W c O k
    let i := (gz O k).toNat
    let r := room p.1 (gz W i) c
    (p.1.set r (gz p.1 r + gz W i), p.2.set i (r : Int))
def fLoads (W : List Int) (c : Int) (O : List Int) (k : Nat) : List Int := (fitTo W c O k).1
def fGiven (W : List Int) (c : Int) (O : List Int) (k : Nat) : List Int := (fitTo W c O k).2
def fRoom (W : List Int) (c : Int) (O : List Int) (k : Nat) : Nat := room (fLoads W c O k) (gz W (gz O k).toNat) c
theorem fLoads_zero (W : List Int) (c : Int) (O : List Int) : fLoads W c O 0 = List.replicate W.length 0 := rfl
theorem fGiven_zero (W : List Int) (c : Int) (O : List Int) : fGiven W c O 0 = List.replicate W.length 0 := rfl
theorem fLoads_succ (W : List Int) (c : Int) (O : List Int) (k : Nat) : fLoads W c O (k + 1) = (fLoads W c O k).set (fRoom W c O k) (gz (fLoads W c O k) (fRoom W c O k) + gz W (gz O k).toNat) := rfl
theorem fGiven_succ (W : List Int) (c : Int) (O : List Int) (k : Nat) : fGiven W c O (k + 1) = (fGiven W c O k).set (gz O k).toNat (fRoom W c O k : Int) := rfl
theorem fLoads_length (W : List Int) (c : Int) (O : List Int) : ∀ k, (fLoads W c O k).length = W.length
  | 0 => by rw [fLoads_zero]; simp
  | k + 1 => by rw [fLoads_succ, List.length_set, fLoads_length W c O k]
theorem fGiven_length (W : List Int) (c : Int) (O : List Int) : ∀ k, (fGiven W c O k).length = W.length
  | 0 => by rw [fGiven_zero]; simp
  | k + 1 => by rw [fGiven_succ, List.length_set, fGiven_length W c O k]
/-- There is always a truck with room, and behind k weights none from k on is used. -/
theorem exists_first {P : Nat → Prop} [DecidablePred P] {n : Nat} (h : P n) : ∃ r, r ≤ n ∧ P r ∧ ∀ j, j < r → ¬ P j := by
  induction n using Nat.strongRecOn with
  | _ n ih =>
    by_cases e : ∃ j, j < n ∧ P j
    · obtain ⟨j, hj, hp⟩ := e
      obtain ⟨r, h1, h2, h3⟩ := ih j hj hp
      exact ⟨r, by omega, h2, h3⟩
    · exact ⟨n, Nat.le_refl _, h, fun j hj hp => e ⟨j, hj, hp⟩⟩
theorem room_first {L : List Int} {x c : Int} {m : Nat} (hm : m < L.length) (h : gz L m + x ≤ c) : room L x c ≤ m ∧ gz L (room L x c) + x ≤ c ∧ ∀ j, j < room L x c → ¬ gz L j + x ≤ c := by
  obtain ⟨r, h1, h2, h3⟩ := exists_first (P := fun j => gz L j + x ≤ c) h
  rw [room_at (by omega) h3 h2]
  exact ⟨h1, h2, h3⟩
theorem fit_inv {W : List Int} {c : Int} {O : List Int} (hw : wOk W c = true) : ∀ k, k ≤ W.length → (∀ j, k ≤ j → gz (fLoads W c O k) j = 0) ∧ (∀ j, 0 ≤ gz (fLoads W c O k) j ∧ gz (fLoads W c O k) j ≤ c)
  | 0, _ => by
    rw [fLoads_zero]
    have hc := ((wOk_iff W c).1 hw).1
    exact ⟨fun j _ => gz_replicate _ _, fun j => by rw [gz_replicate]; omega⟩
  | k + 1, hk => by
    obtain ⟨h1, h2⟩ := fit_inv (O := O) hw k (by omega)
    have hc := (wOk_iff W c).1 hw
    have hx : 0 ≤ gz W (gz O k).toNat ∧ gz W (gz O k).toNat ≤ c := by
      by_cases hi : (gz O k).toNat < W.length
      · have := hc.2.2 _ hi; omega
      · rw [gz_past (by omega)]; omega
    have hr := room_first (L := fLoads W c O k) (x := gz W (gz O k).toNat) (c := c) (m := k) (by rw [fLoads_length]; omega) (by rw [h1 k (Nat.le_refl _)]; omega)
    rw [fLoads_succ]
    have hr' : fRoom W c O k ≤ k ∧ gz (fLoads W c O k) (fRoom W c O k) + gz W (gz O k).toNat ≤ c := ⟨hr.1, hr.2.1⟩
    constructor
    · intro j hj
      rw [gz_set_ne (by omega)]; exact h1 j (by omega)
    · intro j
      by_cases e : fRoom W c O k = j
      · subst e; rw [gz_set_self (by rw [fLoads_length]; omega)]; have := h2 (fRoom W c O k); omega
      · rw [gz_set_ne e]; exact h2 j
theorem fRoom_is {W : List Int} {c : Int} {O : List Int} (hw : wOk W c = true) {k : Nat} (hk : k < W.length) :
    fRoom W c O k < W.length ∧ gz (fLoads W c O k) (fRoom W c O k) + gz W (gz O k).toNat ≤ c ∧ ∀ j, j < fRoom W c O k → ¬ gz (fLoads W c O k) j + gz W (gz O k).toNat ≤ c := by
  obtain ⟨h1, h2⟩ := fit_inv (O := O) hw k (by omega)
  have hc := (wOk_iff W c).1 hw
  have hx : 0 ≤ gz W (gz O k).toNat ∧ gz W (gz O k).toNat ≤ c := by
    by_cases hi : (gz O k).toNat < W.length
    · have := hc.2.2 _ hi; omega
    · rw [gz_past (by omega)]; omega
  have hr := room_first (L := fLoads W c O k) (x := gz W (gz O k).toNat) (c := c) (m := k) (by rw [fLoads_length]; omega) (by rw [h1 k (Nat.le_refl _)]; omega)
  exact ⟨by have : fRoom W c O k ≤ k := hr.1; omega, hr.2.1, hr.2.2⟩
end Go.Proofs.Ytobmenbhbeflhaa.MW
