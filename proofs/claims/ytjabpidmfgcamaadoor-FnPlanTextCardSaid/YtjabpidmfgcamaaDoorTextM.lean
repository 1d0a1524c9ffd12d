/-
  Texts of lists on paper: items with a gap between each two. No program is named here.
-/
import Derived.PlainAid
import Derived.Lib.Join
namespace Go.Proofs.YtjabpidmfgcamaaDoor.M
set_option linter.unusedVariables false

theorem bapp_assoc (a b c : ByteArray) : a ++ b ++ c = a ++ (b ++ c) := by
  apply ByteArray.ext
  simp [Array.append_assoc]
theorem bapp_data (a b : ByteArray) : (a ++ b).data.toList = a.data.toList ++ b.data.toList := by simp
theorem bnil_app (a : ByteArray) : (⟨#[]⟩ : ByteArray) ++ a = a := by
  apply ByteArray.ext
  simp
theorem bapp_nil (a : ByteArray) : a ++ (⟨#[]⟩ : ByteArray) = a := by
  apply ByteArray.ext
  simp
/-- The first k items with the sign g between each two. -/
def gapsTo (g : ByteArray) (T : Nat → ByteArray) : Nat → ByteArray
  | 0 => ⟨#[]⟩
  | k + 1 => (if k = 0 then gapsTo g T k else gapsTo g T k ++ g) ++ T k
theorem gapsTo_one (g : ByteArray) (T : Nat → ByteArray) : gapsTo g T 1 = T 0 := by
  show (if (0 : Nat) = 0 then gapsTo g T 0 else gapsTo g T 0 ++ g) ++ T 0 = T 0
  rw [if_pos rfl]
  exact bnil_app _
theorem gapsTo_first (g : ByteArray) (T : Nat → ByteArray) {k : Nat} (h : k = 0) : gapsTo g T (k + 1) = gapsTo g T k ++ T k := by
  show (if k = 0 then gapsTo g T k else gapsTo g T k ++ g) ++ T k = _
  rw [if_pos h]
theorem gapsTo_next (g : ByteArray) (T : Nat → ByteArray) {k : Nat} (h : k ≠ 0) : gapsTo g T (k + 1) = gapsTo g T k ++ g ++ T k := by
  show (if k = 0 then gapsTo g T k else gapsTo g T k ++ g) ++ T k = _
  rw [if_neg h]
theorem gapsTo_size {g : ByteArray} {T : Nat → ByteArray} {m : Nat} : ∀ {k : Nat}, (∀ i, i < k → (T i).size ≤ m) → (gapsTo g T k).size ≤ k * (m + g.size)
  | 0, _ => Nat.zero_le _
  | k + 1, h => by
    have ih := gapsTo_size (g := g) (k := k) fun i hi => h i (by omega)
    have h1 := h k (by omega)
    have e : (k + 1) * (m + g.size) = k * (m + g.size) + (m + g.size) := Nat.succ_mul _ _
    by_cases h0 : k = 0
    · rw [gapsTo_first g T h0, ByteArray.size_append]; omega
    · rw [gapsTo_next g T h0, ByteArray.size_append, ByteArray.size_append]; omega
theorem gapsTo_congr {g : ByteArray} {T U : Nat → ByteArray} : ∀ {k : Nat}, (∀ i, i < k → T i = U i) → gapsTo g T k = gapsTo g U k
  | 0, _ => rfl
  | k + 1, h => by
    have ih := gapsTo_congr (g := g) (k := k) fun i hi => h i (by omega)
    have h1 := h k (by omega)
    by_cases h0 : k = 0
    · rw [gapsTo_first g T h0, gapsTo_first g U h0, ih, h1]
    · rw [gapsTo_next g T h0, gapsTo_next g U h0, ih, h1]
theorem gapsTo_pos {g : ByteArray} {T : Nat → ByteArray} {k : Nat} (h0 : k ≠ 0) (h : 0 < (T (k - 1)).size) : 0 < (gapsTo g T k).size := by
  obtain ⟨j, rfl⟩ : ∃ j, k = j + 1 := ⟨k - 1, by omega⟩
  have h1 : 0 < (T j).size := h
  by_cases h2 : j = 0
  · rw [gapsTo_first g T h2, ByteArray.size_append]; omega
  · rw [gapsTo_next g T h2, ByteArray.size_append]; omega
theorem join_snoc (L : List (List UInt8)) (y sep : List UInt8) (h : L ≠ []) : Lib.join (L ++ [y]) sep = Lib.join L sep ++ sep ++ y := by
  cases L with
  | nil => exact absurd rfl h
  | cons x r =>
    rw [List.cons_append, Lib.join_cons, Lib.join_cons]
    simp [Lib.joinTail, List.append_assoc]
theorem gapsTo_join (g : ByteArray) (T : Nat → ByteArray) : ∀ k, (gapsTo g T k).data.toList = Lib.join (((List.range k).map T).map (·.data.toList)) g.data.toList
  | 0 => rfl
  | k + 1 => by
    have ih := gapsTo_join g T k
    rw [List.range_succ, List.map_append, List.map_append]
    by_cases h0 : k = 0
    · subst h0
      rw [gapsTo_one]
      exact (Lib.join_one _ _).symm
    · rw [gapsTo_next g T h0]
      have hne : ((List.range k).map T).map (·.data.toList) ≠ [] := by
        intro e
        have := congrArg List.length e
        simp at this
        exact h0 this
      show _ = Lib.join (_ ++ [(T k).data.toList]) _
      rw [join_snoc _ _ _ hne, ← ih, bapp_data, bapp_data]
/-- The gap between two items. -/
def gap : ByteArray := ⟨#[32]⟩
/-- The text of items: a dash if there is none. -/
def itemsOf (T : Nat → ByteArray) (n : Nat) : ByteArray := if n = 0 then ⟨#[45]⟩ else gapsTo gap T n
def dashed (s : ByteArray) : ByteArray := if s.size = 0 then ⟨#[45]⟩ else s
theorem dashed_gaps {T : Nat → ByteArray} {n : Nat} (h : n ≠ 0 → 0 < (T (n - 1)).size) : dashed (gapsTo gap T n) = itemsOf T n := by
  unfold dashed itemsOf
  by_cases h0 : n = 0
  · subst h0
    rw [if_pos rfl, if_pos (by rfl)]
  · rw [if_neg h0, if_neg (by have := gapsTo_pos (g := gap) h0 (h h0); omega)]
/-- Two strings with the sign > between them. -/
def sgn : ByteArray := ⟨#[62]⟩
def pairT (F T : Nat → ByteArray) (k : Nat) : ByteArray := F k ++ sgn ++ T k
theorem pairT_app (o : ByteArray) (F T : Nat → ByteArray) (k : Nat) : o ++ F k ++ sgn ++ T k = o ++ pairT F T k := by
  unfold pairT
  rw [bapp_assoc, bapp_assoc, bapp_assoc]
theorem pairT_size {F T : Nat → ByteArray} {k : Nat} (h1 : (F k).size ≤ 8) (h2 : (T k).size ≤ 8) : (pairT F T k).size ≤ 17 ∧ 0 < (pairT F T k).size := by
  have : sgn.size = 1 := rfl
  unfold pairT
  rw [ByteArray.size_append, ByteArray.size_append]
  omega
end Go.Proofs.YtjabpidmfgcamaaDoor.M
