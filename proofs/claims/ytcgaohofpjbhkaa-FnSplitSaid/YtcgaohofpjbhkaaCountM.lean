/-
  Plain functions: letters by the digit that follows a prefix.
-/
import Derived.Test.YtcgaohofpjbhkaaSplitM
import Derived.Test.YtcgaohofpjbhkaaShow
namespace Go.Proofs.Ytcgaohofpjbhkaa.M
open Go.PlainAid (bt get_bt bt_nonneg bt_le)

theorem ext_bt {a b : ByteArray} (hs : a.size = b.size) (h : ∀ i, i < a.size → bt a i = bt b i) : a = b := by
  rw [ofInts_bytes a, ofInts_bytes b, ← hs]
  congr 1
  exact List.map_congr_left (fun i hi => h i (List.mem_range.1 hi))
theorem begins_iff {c p : ByteArray} (hs : p.size ≤ c.size) : begins c p = true ↔ ∀ i, i < p.size → bt c i = bt p i := by
  rw [begins_long hs, decide_eq_true_iff]
  have e : ∀ i, i < p.size → bt (c.extract 0 p.size) i = bt c i := fun i hi => by rw [bt_ext c 0 p.size i hs (by omega), Nat.zero_add]
  have hz : (c.extract 0 p.size).size = p.size := by rw [ByteArray.size_extract]; omega
  constructor
  · intro h i hi
    rw [← e i hi, h]
  · intro h
    exact ext_bt hz (fun i hi => by rw [hz] at hi; rw [e i hi, h i hi])
theorem ofInts_one (d : Int) : (⟨#[UInt8.ofNat d.toNat]⟩ : ByteArray) = ofInts [d] := rfl
theorem bt_snoc (p : ByteArray) (d : Int) (d0 : 0 ≤ d) (d1 : d ≤ 255) (i : Nat) (hi : i < p.size + 1) : bt (p ++ ⟨#[UInt8.ofNat d.toNat]⟩) i = if i < p.size then bt p i else d := by
  have e : p ++ ⟨#[UInt8.ofNat d.toNat]⟩ = ofInts (((List.range p.size).map fun i => bt p i) ++ [d]) := by
    rw [← ofInts_append, ← ofInts_bytes p]; rfl
  have hl : i < (((List.range p.size).map fun i => bt p i) ++ [d]).length := by simp; omega
  have hg : (((List.range p.size).map fun i => bt p i) ++ [d])[i] = if i < p.size then bt p i else d := by
    rw [List.getElem_append]
    simp only [List.length_map, List.length_range]
    split
    · simp
    · simp
  rw [e, bt_ofInts _ i hl (by rw [hg]; split; exact bt_nonneg _ _; exact d0) (by rw [hg]; split; exact bt_le _ _; exact d1), hg]
theorem size_snoc (p : ByteArray) (d : UInt8) : (p ++ ⟨#[d]⟩ : ByteArray).size = p.size + 1 := by rw [ByteArray.size_append]; rfl
/-- A code begins with a prefix and a digit exactly if it begins with the prefix and the digit follows. -/
theorem begins_snoc {c p : ByteArray} (hc : c.size = 7) (hp : p.size < 7) (d : Int) (d0 : 0 ≤ d) (d1 : d ≤ 255) : begins c (p ++ ⟨#[UInt8.ofNat d.toNat]⟩) = (begins c p && decide (bt c p.size = d)) := by
  rw [Bool.eq_iff_iff, Bool.and_eq_true, decide_eq_true_iff, begins_iff (by rw [size_snoc]; omega), begins_iff (by omega), size_snoc]
  constructor
  · intro h
    refine ⟨fun i hi => ?_, ?_⟩
    · rw [h i (by omega), bt_snoc p d d0 d1 i (by omega), if_pos hi]
    · rw [h p.size (by omega), bt_snoc p d d0 d1 _ (by omega), if_neg (by omega)]
  · rintro ⟨h, e⟩ i hi
    rw [bt_snoc p d d0 d1 i hi]
    split
    · next h' => exact h i h'
    · next h' => rw [show i = p.size from by omega]; exact e
/-- How many letters begin with a prefix that one of the first k digits follows. -/
def upto (p : ByteArray) (k : Nat) (L : List (Int × ByteArray)) : Nat := (L.filter fun x => begins x.2 p && decide (bt x.2 p.size < 48 + (k : Int))).length
theorem filter_split {α : Type} (f g h : α → Bool) (L : List α) (hh : ∀ x ∈ L, f x = (g x || h x)) (hd : ∀ x ∈ L, ¬ (g x = true ∧ h x = true)) : (L.filter f).length = (L.filter g).length + (L.filter h).length := by
  induction L with
  | nil => rfl
  | cons a L ih =>
    have ih := ih (fun x hx => hh x (List.mem_cons_of_mem _ hx)) (fun x hx => hd x (List.mem_cons_of_mem _ hx))
    have h1 := hh a (List.mem_cons_self ..)
    have h2 := hd a (List.mem_cons_self ..)
    rw [List.filter_cons, List.filter_cons, List.filter_cons, h1]
    cases hg : g a <;> cases hk : h a <;> simp_all <;> omega
theorem upto_succ (p : ByteArray) (k : Nat) (hk : k ≤ 9) (hp : p.size < 7) (L : List (Int × ByteArray)) (hL : ∀ x ∈ L, x.2.size = 7) : upto p (k + 1) L = upto p k L + (withP (p ++ ⟨#[UInt8.ofNat (48 + (k : Int)).toNat]⟩) L).length := by
  unfold upto withP
  refine filter_split _ _ _ L (fun x hx => ?_) (fun x hx => ?_)
  · rw [begins_snoc (hL x hx) hp (48 + (k : Int)) (by omega) (by omega), ← Bool.and_or_distrib_left, ← Bool.decide_or]
    congr 1
    rw [decide_eq_decide]
    omega
  · rw [begins_snoc (hL x hx) hp (48 + (k : Int)) (by omega) (by omega)]
    simp only [Bool.and_eq_true, decide_eq_true_iff]
    omega
theorem upto_zero (p : ByteArray) (L : List (Int × ByteArray)) (hL : ∀ x ∈ L, 48 ≤ bt x.2 p.size) : upto p 0 L = 0 := by
  unfold upto
  rw [List.length_eq_zero_iff, List.filter_eq_nil_iff]
  intro x hx
  have := hL x hx
  rw [Bool.and_eq_true, decide_eq_true_iff]
  omega
theorem upto_ten (p : ByteArray) (L : List (Int × ByteArray)) (hL : ∀ x ∈ L, bt x.2 p.size ≤ 57) : upto p 10 L = (withP p L).length := by
  unfold upto withP
  congr 1
  refine List.filter_congr (fun x hx => ?_)
  have := hL x hx
  rw [decide_eq_true (by omega), Bool.and_true]
theorem lst_codes {n : Nat} {I : Nat → Int} {C : Nat → ByteArray} (h : batch n I C = true) : ∀ x ∈ lst I C n, x.2.size = 7 ∧ ∀ i, i < 7 → 48 ≤ bt x.2 i ∧ bt x.2 i ≤ 57 := fun x hx => by
  unfold lst at hx
  obtain ⟨i, hi, rfl⟩ := List.mem_map.1 hx
  have hc := code_yes ((batch_yes h).2 i (List.mem_range.1 hi)).1
  exact ⟨hc.2, fun j hj => digs_bt hc.1 j (by show j < (C i).size; omega)⟩
theorem prefix_snoc {p : ByteArray} (h : prefixOk p = true) (hp : p.size < 7) (k : Nat) (hk : k ≤ 9) : prefixOk (p ++ ⟨#[UInt8.ofNat (48 + (k : Int)).toNat]⟩) = true := by
  unfold prefixOk at h ⊢
  rw [Bool.and_eq_true] at h ⊢
  refine ⟨?_, by rw [size_snoc]; exact decide_eq_true (by omega)⟩
  have ht : digsTo (p ++ ⟨#[UInt8.ofNat (48 + (k : Int)).toNat]⟩) (p ++ ⟨#[UInt8.ofNat (48 + (k : Int)).toNat]⟩).size = true := (digsTo_iff _ _).2 fun i hi => by
    rw [size_snoc] at hi
    rw [bt_snoc p _ (by omega) (by omega) i hi]
    split
    · next h' => exact digs_bt h.1 i h'
    · omega
  rw [digs_end ht, size_snoc]
  exact decide_eq_true (by omega)
theorem prefix_empty : prefixOk ⟨#[]⟩ = true := by decide
theorem withP_empty (L : List (Int × ByteArray)) : withP ⟨#[]⟩ L = L := by
  unfold withP
  rw [List.filter_eq_self]
  intro x _
  rw [begins_iff (Nat.zero_le _)]
  intro i hi
  exact absurd hi (Nat.not_lt_zero _)
end Go.Proofs.Ytcgaohofpjbhkaa.M
