/-
  Trays of a sorted batch, by the beginnings of codes: no more than the letters of each beginning need. No program is named here.
-/
import Derived.Test.YtobmenbhbeflhaaFpM
import Derived.Test.YtobmenbhbeflhaaTrkA
import Derived.Test.YtobmenbhbeflhaaSortM
namespace Go.Proofs.Ytobmenbhbeflhaa
open Go.PlainAid (bt get_bt bt_nonneg bt_le)
set_option linter.unusedVariables false

theorem bl_nil (x : List UInt8) : Op.bytesLess x [] = false := by cases x <;> rfl
theorem bl_cons {x y : UInt8} {a b : List UInt8} : Op.bytesLess (x :: a) (y :: b) = false ↔ ¬ x < y ∧ (x = y → Op.bytesLess a b = false) := by
  show (decide (x < y) || (x == y && Op.bytesLess a b)) = false ↔ _
  rw [Bool.or_eq_false_iff, decide_eq_false_iff_not, Bool.and_eq_false_iff, beq_eq_false_iff_ne]
  constructor
  · rintro ⟨h1, h2⟩
    exact ⟨h1, fun e => h2.resolve_left fun h => h e⟩
  · rintro ⟨h1, h2⟩
    refine ⟨h1, ?_⟩
    by_cases e : x = y
    · exact Or.inr (h2 e)
    · exact Or.inl e
theorem bl_self : ∀ a : List UInt8, Op.bytesLess a a = false
  | [] => rfl
  | x :: a => bl_cons.2 ⟨UInt8.lt_irrefl x, fun _ => bl_self a⟩
theorem bl_takes : ∀ (d : Nat) (a b : List UInt8), Op.bytesLess b a = false → Op.bytesLess (b.take d) (a.take d) = false
  | 0, _, _, _ => by rw [List.take_zero, List.take_zero]; rfl
  | _ + 1, [], _, _ => by rw [List.take_nil]; exact bl_nil _
  | _ + 1, _ :: _, [], h => absurd (show true = false from h) (by decide)
  | d + 1, y :: a, x :: b, h => by
    obtain ⟨h1, h2⟩ := bl_cons.1 h
    rw [List.take_succ_cons, List.take_succ_cons]
    exact bl_cons.2 ⟨h1, fun e => bl_takes d a b (h2 e)⟩
theorem bl_le_trans : ∀ (a b c : List UInt8), Op.bytesLess b a = false → Op.bytesLess c b = false → Op.bytesLess c a = false
  | [], _, _, _, _ => bl_nil _
  | _ :: _, [], _, h, _ => absurd (show true = false from h) (by decide)
  | _ :: _, _ :: _, [], _, h => absurd (show true = false from h) (by decide)
  | x :: a, y :: b, z :: c, h1, h2 => by
    obtain ⟨p1, p2⟩ := bl_cons.1 h1
    obtain ⟨q1, q2⟩ := bl_cons.1 h2
    refine bl_cons.2 ⟨fun h => ?_, fun e => ?_⟩
    · simp only [UInt8.lt_iff_toNat_lt] at p1 q1 h
      omega
    · subst e
      obtain rfl : y = z := UInt8.toNat_inj.1 (by simp only [UInt8.lt_iff_toNat_lt] at p1 q1; omega)
      exact bl_le_trans a b c (p2 rfl) (q2 rfl)
theorem bl_anti {a b : List UInt8} (h1 : Op.bytesLess b a = false) (h2 : Op.bytesLess a b = false) : a = b := by
  have h := M.bytesLess_other a b
  rw [h1, h2] at h
  cases e : (a == b)
  · rw [e] at h
    exact absurd h (by decide)
  · exact eq_of_beq e
theorem pre_list (C : Nat → ByteArray) (d i : Nat) : (pre C d i).toList = (C i).toList.take d := by
  unfold pre
  rw [ByteArray.toList_eq, ByteArray.data_extract, Array.toList_extract, List.extract, ByteArray.toList_eq]
  simp
section
variable {I : Nat → Int} {C : Nat → ByteArray} {s : Int} {d n : Nat}
theorem pre_le (h : M.asc C n = true) (i : Nat) : ∀ k, i + k < n → Op.bytesLess (pre C d (i + k)).toList (pre C d i).toList = false
  | 0, _ => bl_self _
  | k + 1, hk => by
    refine bl_le_trans _ (pre C d (i + k)).toList _ (pre_le h i k (by omega)) ?_
    rw [pre_list, pre_list]
    refine bl_takes d _ _ ?_
    cases e : Op.bytesLess (C (i + (k + 1))).toList (C (i + k)).toList
    · rfl
    · have := M.asc_no (C := C) (k := i + k) (n := n) (by omega) e
      rw [h] at this
      cases this
theorem pre_conv (h : M.asc C n = true) {i j k : Nat} (hij : i ≤ j) (hjk : j ≤ k) (hk : k < n) (e : pre C d k = pre C d i) : pre C d j = pre C d i := by
  obtain ⟨a, rfl⟩ := Nat.exists_eq_add_of_le hij
  obtain ⟨b, rfl⟩ := Nat.exists_eq_add_of_le hjk
  have h1 := pre_le (d := d) h i a (by omega)
  have h2 := pre_le (d := d) h (i + a) b hk
  rw [e] at h2
  have h3 := bl_anti h1 h2
  rw [ByteArray.toList_eq, ByteArray.toList_eq] at h3
  exact (ByteArray.ext (Array.toList_inj.1 h3)).symm
/-- A beginning that the letter before has not. -/
def isNew (C : Nat → ByteArray) (d i : Nat) : Bool := decide (i = 0) || decide (pre C d i ≠ pre C d (i - 1))
theorem new_zero : isNew C d 0 = true := rfl
theorem new_succ {i : Nat} : isNew C d (i + 1) = decide (pre C d (i + 1) ≠ pre C d i) := by
  unfold isNew
  rw [decide_eq_false (by omega : ¬ i + 1 = 0)]; rfl
/-- Where the letters begin that begin as the last of i letters. -/
def grp (C : Nat → ByteArray) (d : Nat) : Nat → Nat
  | 0 => 0
  | i + 1 => if isNew C d i = true then i else grp C d i
theorem grp_new {i : Nat} (h : isNew C d i = true) : grp C d (i + 1) = i := if_pos h
theorem grp_old {i : Nat} (h : isNew C d i = false) : grp C d (i + 1) = grp C d i := if_neg (by rw [h]; decide)
theorem grp_le (C : Nat → ByteArray) (d : Nat) : ∀ i, grp C d i ≤ i
  | 0 => Nat.le_refl 0
  | i + 1 => by
    have ih := grp_le C d i
    cases h : isNew C d i
    · rw [grp_old h]; omega
    · rw [grp_new h]; omega
/-- How many of the first k letters begin so. -/
def cn (I : Nat → Int) (C : Nat → ByteArray) (P : ByteArray) (k : Nat) : Nat := (M.withP P (M.lst I C k)).length
theorem cn_yes {P : ByteArray} {k : Nat} (h : M.begins (C k) P = true) : cn I C P (k + 1) = cn I C P k + 1 := by
  unfold cn
  rw [(M.split_yes h).1, List.length_append]; rfl
theorem cn_no {P : ByteArray} {k : Nat} (h : M.begins (C k) P = false) : cn I C P (k + 1) = cn I C P k := by
  unfold cn
  rw [(M.split_no h).1]
theorem cn_none {P : ByteArray} : ∀ {k : Nat}, (∀ j, j < k → M.begins (C j) P = false) → cn I C P k = 0
  | 0, _ => rfl
  | k + 1, h => (cn_no (h k (by omega))).trans (cn_none fun j hj => h j (by omega))
theorem cn_stop {P : ByteArray} {k : Nat} : ∀ m, (∀ j, k ≤ j → j < k + m → M.begins (C j) P = false) → cn I C P (k + m) = cn I C P k
  | 0, _ => rfl
  | m + 1, h => (cn_no (h (k + m) (by omega) (by omega))).trans (cn_stop m fun j h1 h2 => h j h1 (by omega))
theorem begins_pre {i j : Nat} (hj : (C j).size = 7) (hi : (C i).size = 7) (hd : d ≤ 7) : M.begins (C j) (pre C d i) = decide (pre C d j = pre C d i) := by
  have hs : (pre C d i).size = d := by unfold pre; simp; omega
  rw [M.begins_long (by omega), hs]
  rfl
theorem grp_cnt (h : M.asc C n = true) (sz : ∀ i, i < n → (C i).size = 7) (hd : d ≤ 7) : ∀ i, i < n → cn I C (pre C d i) (i + 1) + grp C d (i + 1) = i + 1
  | 0, hi => by
    rw [grp_new new_zero, cn_yes (by rw [begins_pre (sz 0 hi) (sz 0 hi) hd]; exact decide_eq_true rfl)]
    rfl
  | i + 1, hi => by
    have ih := grp_cnt h sz hd i (by omega)
    have hs := sz (i + 1) hi
    rw [cn_yes (by rw [begins_pre hs hs hd]; exact decide_eq_true rfl)]
    cases hn : isNew C d (i + 1)
    · rw [grp_old hn]
      rw [new_succ, decide_eq_false_iff_not, Decidable.not_not] at hn
      rw [hn]
      omega
    · rw [grp_new hn]
      rw [new_succ, decide_eq_true_eq] at hn
      rw [cn_none fun j hj => ?_]
      · omega
      · rw [begins_pre (sz j (by omega)) hs hd, decide_eq_false_iff_not]
        intro e
        exact hn ((pre_conv h (Nat.le_of_lt_succ hj) (Nat.le_succ i) hi e.symm).trans e).symm
/-- Among letters that begin alike, a tray is begun only when the one before is full. -/
theorem fill_grp (I : Nat → Int) (C : Nat → ByteArray) (d : Nat) (hs : 1 ≤ s) : ∀ i, ∃ q l : Nat, fN I C s d (i + 1) = fN I C s d (grp C d (i + 1)) + q ∧ ((i + 1 : Nat) : Int) = ((grp C d (i + 1) : Nat) : Int) + s * ((q : Int) - 1) + l ∧ 1 ≤ l ∧ (l : Int) ≤ s ∧ (fM I C s d (i + 1) (fN I C s d (i + 1) - 1)).length = l
  | 0 => by
    obtain ⟨e1, e2⟩ := fill_cut (I := I) (C := C) (s := s) (d := d) (i := 0) cut_none
    refine ⟨1, 1, ?_, ?_, Nat.le_refl 1, hs, ?_⟩
    · rw [grp_new new_zero, e1]
    · rw [grp_new new_zero]; simp
    · rw [e1, e2, Nat.add_sub_cancel, upd_same]; rfl
  | i + 1 => by
    obtain ⟨q, l, h1, h2, h3, h4, h5⟩ := fill_grp I C d hs i
    have hN := fN_pos I C s d i
    cases hn : isNew C d (i + 1)
    · rw [grp_old hn]
      rw [new_succ, decide_eq_false_iff_not, Decidable.not_not] at hn
      by_cases hl : (l : Int) = s
      · have hc : cutAt C s d (i + 1) (fN I C s d (i + 1)) (fM I C s d (i + 1)) = true := by
          rw [cut_some hN, h5, decide_eq_true hl, Bool.true_or]
        obtain ⟨e1, e2⟩ := fill_cut (I := I) hc
        refine ⟨q + 1, 1, by rw [e1, h1]; omega, ?_, Nat.le_refl 1, hs, ?_⟩
        · have : s * (((q + 1 : Nat) : Int) - 1) = s * ((q : Int) - 1) + s := by
            rw [show (((q + 1 : Nat) : Int) - 1) = ((q : Int) - 1) + 1 by omega, Int.mul_add, Int.mul_one]
          rw [this]
          omega
        · rw [e1, e2, Nat.add_sub_cancel, upd_same]; rfl
      · have hc : cutAt C s d (i + 1) (fN I C s d (i + 1)) (fM I C s d (i + 1)) = false := by
          rw [cut_some hN, h5, decide_eq_false hl, Bool.false_or, decide_eq_false_iff_not, Decidable.not_not]
          exact hn
        obtain ⟨e1, e2⟩ := fill_stay (I := I) hc
        refine ⟨q, l + 1, by rw [e1, h1], by omega, by omega, by omega, ?_⟩
        rw [e1, e2, upd_same, List.length_append, h5]; rfl
    · rw [grp_new hn]
      rw [new_succ, decide_eq_true_eq] at hn
      have hc : cutAt C s d (i + 1) (fN I C s d (i + 1)) (fM I C s d (i + 1)) = true := by
        rw [cut_some hN, Bool.or_eq_true]
        exact Or.inr (decide_eq_true hn)
      obtain ⟨e1, e2⟩ := fill_cut (I := I) hc
      refine ⟨1, 1, e1, by simp, Nat.le_refl 1, hs, ?_⟩
      rw [e1, e2, Nat.add_sub_cancel, upd_same]; rfl
theorem least_bd (c s : Int) : -1 ≤ MW.leastTrays c s ∧ MW.leastTrays c s ≤ 80 := by
  unfold MW.leastTrays
  by_cases h : (0 ≤ c ∧ c ≤ 60) ∧ 1 ≤ s ∧ s ≤ 20
  · rw [if_pos h]
    have h1 := Int.ediv_nonneg (a := c + s - 1) (b := s) (by omega) (by omega)
    have h2 := Int.ediv_le_self (a := c + s - 1) s (by omega)
    omega
  · rw [if_neg h]; omega
theorem grp_close (h : M.asc C n = true) (sz : ∀ i, i < n → (C i).size = 7) (hd : d ≤ 7) (hs : 1 ≤ s ∧ s ≤ 20) (h60 : n ≤ 60) (ok : ∀ i, i < n → M.splitOk n I C (pre C d i) = true) {i : Nat} (hi : i < n) (hc : i + 1 = n ∨ isNew C d (i + 1) = true) :
    ((fN I C s d (grp C d (i + 1)) : Nat) : Int) + MW.leastTrays (M.countP n I C (pre C d i)) s = ((fN I C s d (i + 1) : Nat) : Int) := by
  have hg := grp_cnt (I := I) h sz hd i hi
  obtain ⟨q, l, h1, h2, h3, h4, _⟩ := fill_grp (s := s) I C d hs.1 i
  have hcn : cn I C (pre C d i) n = cn I C (pre C d i) (i + 1) := by
    obtain ⟨m, hm⟩ := Nat.exists_eq_add_of_le (show i + 1 ≤ n from hi)
    have := cn_stop (I := I) (C := C) (P := pre C d i) (k := i + 1) m fun j hj1 hj2 => by
      rw [begins_pre (sz j (by omega)) (sz i hi) hd, decide_eq_false_iff_not]
      intro e
      rcases hc with hc | hc
      · omega
      · rw [new_succ, decide_eq_true_eq] at hc
        exact hc (pre_conv h (Nat.le_succ i) hj1 (by omega) e)
    rw [← hm] at this
    exact this
  rw [M.countP_yes (ok i hi), show (M.withP (pre C d i) (M.lst I C n)).length = cn I C (pre C d i) n from rfl, hcn]
  have hle : cn I C (pre C d i) (i + 1) ≤ 60 := by omega
  unfold MW.leastTrays
  rw [if_pos ⟨⟨by omega, by omega⟩, hs⟩, h1]
  have e : ((cn I C (pre C d i) (i + 1) : Nat) : Int) + s - 1 = ((l : Int) - 1) + s * (q : Int) := by
    have e1 : s * (q : Int) = s * ((q : Int) - 1) + s := by
      rw [Int.mul_sub, Int.mul_one]; omega
    rw [e1]
    omega
  rw [e, Int.add_mul_ediv_left _ _ (by omega), Int.ediv_eq_zero_of_lt (by omega) (by omega)]
  omega
/-- The trays that the beginnings of the first i letters need. -/
def ptT (I : Nat → Int) (C : Nat → ByteArray) (s : Int) (d n : Nat) : Nat → Int
  | 0 => 0
  | i + 1 => if isNew C d i = true then ptT I C s d n i + MW.leastTrays (M.countP n I C (pre C d i)) s else ptT I C s d n i
theorem pt_new {i : Nat} (h : isNew C d i = true) : ptT I C s d n (i + 1) = ptT I C s d n i + MW.leastTrays (M.countP n I C (pre C d i)) s := if_pos h
theorem pt_old {i : Nat} (h : isNew C d i = false) : ptT I C s d n (i + 1) = ptT I C s d n i := if_neg (by rw [h]; decide)
theorem pt_is (h : M.asc C n = true) (sz : ∀ i, i < n → (C i).size = 7) (hd : d ≤ 7) (hs : 1 ≤ s ∧ s ≤ 20) (h60 : n ≤ 60) (ok : ∀ i, i < n → M.splitOk n I C (pre C d i) = true) : ∀ i, i < n →
    ptT I C s d n (i + 1) = ((fN I C s d (grp C d (i + 1)) : Nat) : Int) + MW.leastTrays (M.countP n I C (pre C d i)) s
  | 0, hi => by
    rw [pt_new new_zero, grp_new new_zero]; rfl
  | i + 1, hi => by
    have ih := pt_is h sz hd hs h60 ok i (by omega)
    cases hn : isNew C d (i + 1)
    · rw [pt_old hn, grp_old hn]
      rw [new_succ, decide_eq_false_iff_not, Decidable.not_not] at hn
      rw [hn]
      exact ih
    · rw [pt_new hn, grp_new hn, ih, grp_close h sz hd hs h60 ok (by omega) (Or.inr hn)]
theorem pre_digs {c : ByteArray} {m : Nat} (h : M.digs c = true) (hm : m ≤ c.size) (h7 : m ≤ 7) : M.prefixOk (c.extract 0 m) = true := by
  have hs : (c.extract 0 m).size = m := by simp; omega
  have hd : M.digs (c.extract 0 m) = true := by
    rw [M.digs_end]
    · exact decide_eq_true (by omega)
    · rw [M.digsTo_iff, hs]
      intro i hi
      have h1 := get_bt (c.extract 0 m) i (by omega)
      have h2 := get_bt c i (by omega)
      have h3 := M.digs_bt h i (by omega)
      rw [← h2] at h3
      rw [← h1]
      simpa [ByteArray.getElem_extract] using h3
  unfold M.prefixOk
  rw [hd, hs, decide_eq_true h7]; rfl
/-- What the law asks of the trays of a sorted batch. -/
theorem pt_law {d : Int} (h : fillOk n I C s d = true) (hso : M.sorted n I C = true) :
    (1 ≤ s ∧ s ≤ 20) ∧ (0 ≤ d ∧ d ≤ 7) ∧ n ≤ 60 ∧ (∀ i, i < n → (C i).size = 7) ∧ (∀ i, i ≤ n → -1 ≤ ptT I C s d.toNat n i ∧ ptT I C s d.toNat n i ≤ 200) ∧
    ptT I C s d.toNat n n = ((fillN n I C s d : Nat) : Int) := by
  have h0 := h
  unfold fillOk at h0
  rw [Bool.and_eq_true, Bool.and_eq_true] at h0
  obtain ⟨hb, hs, hd⟩ := h0
  have hs := of_decide_eq_true hs
  have hd := of_decide_eq_true hd
  rw [M.sorted_yes hb] at hso
  obtain ⟨h60, hg⟩ := M.batch_yes hb
  have sz : ∀ i, i < n → (C i).size = 7 := fun i hi => (M.code_yes (hg i hi).1).2
  have hd7 : d.toNat ≤ 7 := by omega
  have ok : ∀ i, i < n → M.splitOk n I C (pre C d.toNat i) = true := fun i hi => by
    unfold M.splitOk
    rw [hb, Bool.true_and]
    exact pre_digs (M.code_yes (hg i hi).1).1 (by rw [sz i hi]; exact hd7) hd7
  have hp := pt_is (I := I) hso sz hd7 hs h60 ok
  refine ⟨hs, hd, h60, sz, fun i hi => ?_, ?_⟩
  · cases i with
    | zero => show -1 ≤ (0 : Int) ∧ (0 : Int) ≤ 200; omega
    | succ i =>
      rw [hp i hi]
      have h1 := fN_le I C s d.toNat (grp C d.toNat (i + 1))
      have h2 := grp_le C d.toNat (i + 1)
      have h3 := least_bd (M.countP n I C (pre C d.toNat i)) s
      omega
  · rw [fillN_yes h]
    cases hn : n with
    | zero => rfl
    | succ m =>
      have h1 := grp_close (I := I) hso sz hd7 hs h60 ok (i := m) (by omega) (Or.inl (by omega))
      have h2 := hp m (by omega)
      rw [hn] at h1 h2
      rw [h2, h1]
end
end Go.Proofs.Ytobmenbhbeflhaa
