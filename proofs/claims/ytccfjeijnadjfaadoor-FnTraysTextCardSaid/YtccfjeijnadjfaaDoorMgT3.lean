/-
  Plain functions on letters: as a list, and divided by the beginning of their codes. No program is named here.
-/
import Derived.Test.YtccfjeijnadjfaaDoorMgT1
import Derived.Test.YtccfjeijnadjfaaDoorStr
import Derived.Maps.AppendAt
import Derived.OwnWalk
import Derived.Laws.OwnMore
import Derived.Test.YtccfjeijnadjfaaDoorMath
namespace Go.Proofs.YtccfjeijnadjfaaDoor.M

/-- The first k letters. -/
def lst (I : Nat → Int) (C : Nat → ByteArray) (k : Nat) : List (Int × ByteArray) := (List.range k).map fun i => (I i, C i)
theorem lst_succ (I : Nat → Int) (C : Nat → ByteArray) (k : Nat) : lst I C (k + 1) = lst I C k ++ [(I k, C k)] := by
  unfold lst
  rw [List.range_succ, List.map_append]
  rfl
theorem lst_length (I : Nat → Int) (C : Nat → ByteArray) (k : Nat) : (lst I C k).length = k := by simp [lst]
/-- A code begins with a prefix. -/
def begins (c p : ByteArray) : Bool := decide (p.size ≤ c.size) && decide (c.extract 0 p.size = p)
theorem begins_short {c p : ByteArray} (h : c.size < p.size) : begins c p = false := by
  unfold begins
  rw [decide_eq_false (by omega)]; rfl
theorem begins_long {c p : ByteArray} (h : p.size ≤ c.size) : begins c p = decide (c.extract 0 p.size = p) := by
  unfold begins
  rw [decide_eq_true h]; rfl
theorem list_eq (a b : ByteArray) : (a.toList == b.toList) = decide (a = b) := by
  by_cases h : a = b
  · subst h; simp
  · rw [decide_eq_false h, beq_eq_false_iff_ne]
    intro e
    rw [ByteArray.toList_eq, ByteArray.toList_eq] at e
    exact h (ByteArray.ext (Array.toList_inj.1 e))
/-- The letters whose codes begin with a prefix, and the others. -/
def withP (p : ByteArray) (L : List (Int × ByteArray)) : List (Int × ByteArray) := L.filter fun x => begins x.2 p
def sansP (p : ByteArray) (L : List (Int × ByteArray)) : List (Int × ByteArray) := L.filter fun x => !begins x.2 p
theorem split_yes {p : ByteArray} {I : Nat → Int} {C : Nat → ByteArray} {k : Nat} (h : begins (C k) p = true) : withP p (lst I C (k + 1)) = withP p (lst I C k) ++ [(I k, C k)] ∧ sansP p (lst I C (k + 1)) = sansP p (lst I C k) := by
  unfold withP sansP
  rw [lst_succ, List.filter_append, List.filter_append]
  simp [h]
theorem split_no {p : ByteArray} {I : Nat → Int} {C : Nat → ByteArray} {k : Nat} (h : begins (C k) p = false) : withP p (lst I C (k + 1)) = withP p (lst I C k) ∧ sansP p (lst I C (k + 1)) = sansP p (lst I C k) ++ [(I k, C k)] := by
  unfold withP sansP
  rw [lst_succ, List.filter_append, List.filter_append]
  simp [h]
theorem withP_le (p : ByteArray) (I : Nat → Int) (C : Nat → ByteArray) (k : Nat) : (withP p (lst I C k)).length ≤ k := by
  have := List.length_filter_le (fun x : Int × ByteArray => begins x.2 p) (lst I C k)
  rw [lst_length] at this
  exact this
theorem sansP_le (p : ByteArray) (I : Nat → Int) (C : Nat → ByteArray) (k : Nat) : (sansP p (lst I C k)).length ≤ k := by
  have := List.length_filter_le (fun x : Int × ByteArray => !begins x.2 p) (lst I C k)
  rw [lst_length] at this
  exact this
/-- The letters whose codes are wanted, and the others. -/
def withF (f : ByteArray → Bool) (L : List (Int × ByteArray)) : List (Int × ByteArray) := L.filter fun x => f x.2
def sansF (f : ByteArray → Bool) (L : List (Int × ByteArray)) : List (Int × ByteArray) := L.filter fun x => !f x.2
theorem filt_yes {f : ByteArray → Bool} {I : Nat → Int} {C : Nat → ByteArray} {k : Nat} (h : f (C k) = true) : withF f (lst I C (k + 1)) = withF f (lst I C k) ++ [(I k, C k)] ∧ sansF f (lst I C (k + 1)) = sansF f (lst I C k) := by
  unfold withF sansF
  rw [lst_succ, List.filter_append, List.filter_append]
  simp [h]
theorem filt_no {f : ByteArray → Bool} {I : Nat → Int} {C : Nat → ByteArray} {k : Nat} (h : f (C k) = false) : withF f (lst I C (k + 1)) = withF f (lst I C k) ∧ sansF f (lst I C (k + 1)) = sansF f (lst I C k) ++ [(I k, C k)] := by
  unfold withF sansF
  rw [lst_succ, List.filter_append, List.filter_append]
  simp [h]
theorem withF_le (f : ByteArray → Bool) (I : Nat → Int) (C : Nat → ByteArray) (k : Nat) : (withF f (lst I C k)).length ≤ k := by
  have := List.length_filter_le (fun x : Int × ByteArray => f x.2) (lst I C k)
  rw [lst_length] at this
  exact this
theorem sansF_le (f : ByteArray → Bool) (I : Nat → Int) (C : Nat → ByteArray) (k : Nat) : (sansF f (lst I C k)).length ≤ k := by
  have := List.length_filter_le (fun x : Int × ByteArray => !f x.2) (lst I C k)
  rw [lst_length] at this
  exact this
/-- A prefix of codes. -/
def prefixOk (p : ByteArray) : Bool := digs p && decide (p.size ≤ 7)
def splitOk (n : Nat) (I : Nat → Int) (C : Nat → ByteArray) (p : ByteArray) : Bool := batch n I C && prefixOk p
def countP (n : Nat) (I : Nat → Int) (C : Nat → ByteArray) (p : ByteArray) : Int := if splitOk n I C p = true then ((withP p (lst I C n)).length : Int) else -1
theorem countP_no {n : Nat} {I : Nat → Int} {C : Nat → ByteArray} {p : ByteArray} (h : splitOk n I C p = false) : countP n I C p = -1 := if_neg (by rw [h]; decide)
theorem countP_yes {n : Nat} {I : Nat → Int} {C : Nat → ByteArray} {p : ByteArray} (h : splitOk n I C p = true) : countP n I C p = (withP p (lst I C n)).length := if_pos h
end Go.Proofs.YtccfjeijnadjfaaDoor.M

/-
  A string is appended to a slice that the call itself has made.
-/
namespace Go.Proofs.YtccfjeijnadjfaaDoor
open Go.RowKit

theorem sone_empty (w : World) : SRow (w.alloc (.cells #[] 9)) w.heap.size (.slice (some ⟨w.heap.size, 0, none⟩) 0 0) [] :=
  World.ownsRow_lit (base := w.heap.size) (e := 9) (size := 1) w #[] 0 (Nat.le_refl _) (by unfold maxLen; omega) rfl
theorem SRow.alloc {w : World} {base : Nat} {v : Value} {L : List ByteArray} (h : SRow w base v L) (o : Obj) : SRow (w.alloc o) base v L := World.ownsRow.alloc h o
theorem info_string : (Tryd.prog.info? 9).map (fun i => (i.zero, i.size, i.bytes)) = some (some (.string ⟨#[]⟩), 1, 16) := by kernel_rfl
theorem wpList_append_string {ops : Array Oper} {rest : List Oper} {o : Oper} {a : Act} {Q : Exit → Act → World → Prop} (w : World) (hgd : o.guard = none) (s x : Operand)
    (ho : o.op = .call { callee := .builtin .append, args := #[s, x], argTypes := #[32, 32] })
    (base : Nat) (v : Value) (L : List ByteArray) (hs : a.eval s = v) (hrow : SRow w base v L) (b : Nat) (t : ByteArray) (hx : a.eval x = .slice (some ⟨b, 0, none⟩) 1 1)
    (hc : w.cell? ⟨b, 0, none⟩ = some (.string t)) (hl : L.length ≤ 1048576) (hbase : base ≤ w.heap.size)
    (K : ∀ v' w', SRow w' base v' (L ++ [t]) → w.grownBy w' v.ownBlock → (v'.ownBlock = v.ownBlock ∨ v'.ownBlock = some w.heap.size) → wpList Tryd.prog ops Q rest (a.put o.dst v') w') :
    wpList Tryd.prog ops Q (o :: rest) a w := by
  obtain ⟨i0, hi, hz0, hz1, hz2⟩ := info_parts info_string
  refine wpList_append_own_at w hgd s x 32 ho base 9 i0 _ 1 16 Tryd.underlying32 hi hz0 hz1 hz2 rfl (by decide) v L.length (scells L) hs hrow ⟨b, 0, none⟩ 1 1 [.string t] hx rfl ?_ ?_ (by unfold maxLen; omega) (by omega) hbase ?_
  · intro j u hu
    match j, hu with
    | 0, hu => simp at hu; subst hu; simpa [Addr.add] using hc
  · intro u hu
    simp at hu
    subst hu; rfl
  · intro v' w' h1 h2 _ h3
    refine K v' w' ?_ h2 h3
    unfold SRow
    rw [List.length_append, scells_append]
    exact h1
end Go.Proofs.YtccfjeijnadjfaaDoor

/-
  Letters in bins: each letter goes behind those that are already in the bin of its key. No program is named here.
-/
namespace Go.Proofs.YtccfjeijnadjfaaDoor.M
open Go.PlainAid (bt)

/-- The bins after k letters. -/
def binTo (key : Nat → Option Nat) (I : Nat → Int) (C : Nat → ByteArray) : Nat → Nat → List (Int × ByteArray)
  | 0 => fun _ => []
  | k + 1 => match key k with
    | none => binTo key I C k
    | some d => fun i => if i = d then binTo key I C k d ++ [(I k, C k)] else binTo key I C k i
theorem binTo_none {key : Nat → Option Nat} {k : Nat} (h : key k = none) (I : Nat → Int) (C : Nat → ByteArray) : binTo key I C (k + 1) = binTo key I C k := by
  show (match key k with | none => binTo key I C k | some d => _) = _
  rw [h]
theorem binTo_some {key : Nat → Option Nat} {k d : Nat} (h : key k = some d) (I : Nat → Int) (C : Nat → ByteArray) : binTo key I C (k + 1) = fun i => if i = d then binTo key I C k d ++ [(I k, C k)] else binTo key I C k i := by
  show (match key k with | none => binTo key I C k | some d => _) = _
  rw [h]
theorem binTo_len (key : Nat → Option Nat) (I : Nat → Int) (C : Nat → ByteArray) : ∀ k i, (binTo key I C k i).length ≤ k
  | 0, _ => Nat.le_refl 0
  | k + 1, i => by
    cases h : key k with
    | none => rw [binTo_none h]; have := binTo_len key I C k i; omega
    | some d =>
      rw [binTo_some h]
      simp only
      split
      · have := binTo_len key I C k d; simp; omega
      · have := binTo_len key I C k i; omega
/-- The digit of a code, as the number of its bin. -/
def dig1 (C : Nat → ByteArray) (x : Nat) (k : Nat) : Option Nat := some (bt (C k) x - 48).toNat
def bins (I : Nat → Int) (C : Nat → ByteArray) (x n : Nat) : Nat → List (Int × ByteArray) := binTo (dig1 C x) I C n
/-- The letters of n bins, one bin after the other. -/
def flat (M : Nat → List (Int × ByteArray)) : Nat → List (Int × ByteArray)
  | 0 => []
  | n + 1 => flat M n ++ M n
theorem flat_congr {M M' : Nat → List (Int × ByteArray)} : ∀ {n : Nat}, (∀ i, i < n → M i = M' i) → flat M n = flat M' n
  | 0, _ => rfl
  | n + 1, h => by show flat M n ++ M n = flat M' n ++ M' n; rw [flat_congr fun i hi => h i (by omega), h n (by omega)]
end Go.Proofs.YtccfjeijnadjfaaDoor.M
