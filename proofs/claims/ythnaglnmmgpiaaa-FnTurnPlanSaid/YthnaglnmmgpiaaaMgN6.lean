/-
  slices.Clone of strings: one slice of strings appended to an empty one.
-/
import Derived.Test.YthnaglnmmgpiaaaMgN3
import Derived.Lib.SliceRun
import Derived.Test.YthnaglnmmgpiaaaSS
namespace Go.Proofs.Ythnaglnmmgpiaaa
open Go.RowKit
set_option linter.unusedVariables false

theorem sappend_nil_src {P : Program} (w : World) (base : Nat) (t ty e : TypeId) (i : TypeInfo) (size : Nat) (ht : P.underlying t = some (.slice e)) (hi : P.info? e = some i)
    (v : Value) (n : Nat) (xs : List Value) (hown : w.ownsRow base e size v n xs) (c : Nat) : (Builtin.append_ #[t, t] ty #[v, .slice none 0 c]).run P w = .ok v w := by
  rcases hown.2 with ⟨rfl, rfl⟩ | ⟨g, cap, cur, rfl, _, _, hnc, _⟩
  · simp [Builtin.append_, run_underlying ht, sizeOf, typeInfo, hi, Builtin.lenOf, Builtin.firstCells]
  · simp [Builtin.append_, run_underlying ht, sizeOf, typeInfo, hi, Builtin.lenOf, Builtin.firstCells, hnc, storeCells]
theorem wpList_append_strs {ops : Array Oper} {rest : List Oper} {o : Oper} {a : Act} {Q : Exit → Act → World → Prop} (w : World) (hgd : o.guard = none) (s x : Operand)
    (ho : o.op = .call { callee := .builtin .append, args := #[s, x], argTypes := #[23, 23] })
    (base : Nat) (v : Value) (L : List ByteArray) (hs : a.eval s = v) (hrow : SRow w base v L) (a2 : Option Addr) (m c2 : Nat) (S : Nat → ByteArray) (hx : a.eval x = .slice a2 m c2) (hu : Strs w a2 m S) (hl : L.length + m ≤ 4194304) (hbase : base ≤ w.heap.size)
    (K : ∀ v' w', SRow w' base v' (L ++ sst S m) → w.grownBy w' v.ownBlock → (v'.ownBlock = v.ownBlock ∨ v'.ownBlock = some w.heap.size) → wpList Try.prog ops Q rest (a.put o.dst v') w') :
    wpList Try.prog ops Q (o :: rest) a w := by
  obtain ⟨i0, hi, hz0, hz1, hz2⟩ := info_parts info_string
  by_cases h0 : m = 0
  · subst h0
    have hnil : sst S 0 = [] := rfl
    rw [hnil, List.append_nil] at K
    cases a2 with
    | none =>
      refine wpList_plain hgd fun K' hK => ?_
      have hrun := sappend_nil_src (P := Try.prog) w base 23 o.type 9 i0 1 Try.underlying23 hi v L.length (scells L) hrow c2
      unfold Oper.wp
      simp [execOp, ho, resolve, invoke, builtin, hs, hx, hrun, Result.andThen]
      exact hK _ _ (K v w hrow (World.grownBy.refl w _) (Or.inl rfl))
    | some ad =>
      refine wpList_append_own_at w hgd s x 23 ho base 9 i0 _ 1 16 Try.underlying23 hi hz0 hz1 hz2 rfl (by decide) v L.length (scells L) hs hrow ad 0 c2 [] hx rfl (fun j u hu => by simp at hu) (fun u hu => by cases hu) (by unfold maxLen; omega) (by omega) hbase ?_
      intro v' w' h1 h2 _ h3
      exact K v' w' (by unfold SRow; simpa using h1) h2 h3
  · obtain ⟨b, o', e, _⟩ := hu 0 (by omega)
    subst e
    refine wpList_append_own_at w hgd s x 23 ho base 9 i0 _ 1 16 Try.underlying23 hi hz0 hz1 hz2 rfl (by decide) v L.length (scells L) hs hrow ⟨b, o', none⟩ m c2 (scells (sst S m)) hx (by rw [scells_length, sst_length, Nat.mul_one]) ?_ ?_ (by unfold maxLen; omega) (by omega) hbase ?_
    · intro j u hj
      have hjl : j < m := by
        have := (List.getElem?_eq_some_iff.1 hj).1
        rw [scells_length, sst_length] at this
        exact this
      have hadd : (⟨b, o', none⟩ : Addr).add j = ⟨b, o' + j, none⟩ := by unfold Addr.add; split <;> simp_all
      rw [hadd]
      obtain ⟨b', o2, e2, c0⟩ := hu j hjl
      cases e2
      have hat := scells_at (sst S m) j (by rw [sst_length]; exact hjl)
      have e3 : (sst S m)[j]'(by rw [sst_length]; exact hjl) = S j := by simp [sst]
      rw [e3] at hat
      rw [← Option.some.inj (hat.symm.trans hj)]
      exact c0
    · intro u hu'
      simp only [scells, List.mem_map] at hu'
      obtain ⟨x, _, rfl⟩ := hu'
      rfl
    · intro v' w' h1 h2 _ h3
      refine K v' w' ?_ h2 h3
      unfold SRow
      rw [List.length_append, sst_length, scells_append]
      exact h1

def SRowOut (w : World) (L : List ByteArray) (e : Ending) (w' : World) : Prop := ∃ v, e = .returned v ∧ SRow w' w.heap.size v L ∧ Below w.heap.size w w'
set_option maxHeartbeats 1000000 in
set_option maxRecDepth 100000 in
theorem sclone (w : World) (a : Option Addr) (n c : Nat) (S : Nat → ByteArray) (h : Strs w a n S) (hn : n ≤ 1048576) :
    Calls Try.prog 24 #[.slice a n c] w (SRowOut w (sst S n)) := by
  cases a with
  | none =>
    have h0 : n = 0 := by
      by_cases e : n = 0
      · exact e
      · obtain ⟨b, o, e2, _⟩ := h 0 (by omega)
        cases e2
    subst h0
    clear h
    have hq := Lib.run_eql_slice_nil (P := Try.prog) w 23 9 none 0 c 0 0 Try.underlying23
    simp only [Option.isNone] at hq
    go_enter Try.func24, Try.ntmps24
    go_wp2
    go_ret
    exact ⟨_, rfl, SRow.nil _ _, Below.refl _ _⟩
  | some ad =>
    have hq := Lib.run_eql_slice_nil (P := Try.prog) w 23 9 (some ad) n c 0 0 Try.underlying23
    simp only [Option.isNone] at hq
    have HL := Lib.hid (h.on (below_alloc0 w (.cells #[] 9)))
    have R0 := Lib.hid (sone_empty w)
    have hB := Lib.hid (below_alloc0 w (.cells #[] 9))
    clear h
    go_enter Try.func24, Try.ntmps24
    go_wp2_with (at_builtin; refine wpList_append_strs _ rfl _ _ rfl w.heap.size _ [] rfl R0.out _ n c S rfl HL.out (by simp; omega) (by simp) ?_; intro v1 w3 r1 gr1 ho1; have R1 : Hid (SRow w3 w.heap.size v1 (sst S n)) := (by rw [List.nil_append] at r1; exact r1); have B3 : Hid (Below w.heap.size w w3) := hB.out.grown gr1 hB.out.size (fun q e => (R0.out.lt q e).1); clear r1 gr1 ho1)
    go_ret
    exact ⟨_, rfl, R1.out, B3.out⟩
end Go.Proofs.Ythnaglnmmgpiaaa

/-
  Trays: plain functions on lists of letters in slices. No program is named here.
-/
namespace Go.Proofs.Ythnaglnmmgpiaaa
open Go.RowKit

/-- Letters are a batch. -/
def bat (L : List (Int × ByteArray)) : Bool := M.batch L.length (nI L) (nC L)
def FitL (L : List (Int × ByteArray)) : Prop := Fits L.length (nI L) (nC L)
theorem fitL_iff (L : List (Int × ByteArray)) : FitL L ↔ ∀ x ∈ L, (-9223372036854775808 ≤ x.1 ∧ x.1 ≤ 9223372036854775807) ∧ x.2.size ≤ maxLen := by
  constructor
  · intro h x hx
    obtain ⟨i, hi, e⟩ := List.mem_iff_getElem.1 hx
    have := h i hi
    rw [nI_at hi, nC_at hi, e] at this
    exact this
  · intro h i hi
    rw [nI_at hi, nC_at hi]
    exact h _ (List.getElem_mem hi)
theorem mem_flat {MM : Nat → List (Int × ByteArray)} {x : Int × ByteArray} : ∀ {n : Nat}, x ∈ M.flat MM n ↔ ∃ i, i < n ∧ x ∈ MM i
  | 0 => ⟨fun h => (by cases h), fun ⟨i, hi, _⟩ => absurd hi (by omega)⟩
  | n + 1 => by
    show x ∈ M.flat MM n ++ MM n ↔ _
    rw [List.mem_append, mem_flat (n := n)]
    constructor
    · rintro (⟨i, hi, h⟩ | h)
      · exact ⟨i, by omega, h⟩
      · exact ⟨n, by omega, h⟩
    · rintro ⟨i, hi, h⟩
      by_cases e : i = n
      · subst e; exact Or.inr h
      · exact Or.inl ⟨i, by omega, h⟩
/-- Of fitting sizes, and not too many. -/
def Sz (n : Nat) (MM : Nat → List (Int × ByteArray)) : Prop := n ≤ 1048576 ∧ (M.flat MM n).length ≤ 1048576 ∧ FitL (M.flat MM n)
theorem Sz.one {n : Nat} {MM : Nat → List (Int × ByteArray)} (h : Sz n MM) {i : Nat} (hi : i < n) : (MM i).length ≤ 1048576 ∧ FitL (MM i) := by
  refine ⟨?_, (fitL_iff _).2 fun x hx => (fitL_iff _).1 h.2.2 x (mem_flat.2 ⟨i, hi, hx⟩)⟩
  have h1 := h.2.1
  rw [tot_flat] at h1
  have h2 := tot_mono MM (i := i + 1) (n := n) hi
  have h3 : tot MM (i + 1) = tot MM i + (MM i).length := rfl
  omega
theorem Lss.sz {w : World} {a : Option Addr} {n : Nat} {MM : Nat → List (Int × ByteArray)} (h : Lss w a n MM) (hn : n ≤ 1048576) (ht : tot MM n ≤ 1048576) : Sz n MM :=
  ⟨hn, by rw [tot_flat]; exact ht, (fitL_iff _).2 fun x hx => by
    obtain ⟨i, hi, hx⟩ := mem_flat.1 hx
    obtain ⟨_, _, _, _, _, _, _, hf, _⟩ := h i hi
    exact (fitL_iff _).1 hf x hx⟩
/-- The lengths of the first n slices lie between 1 and a size. -/
def lensIn (MM : Nat → List (Int × ByteArray)) (s : Int) (n : Nat) : Bool := (List.range n).all fun i => decide (1 ≤ ((MM i).length : Int) ∧ ((MM i).length : Int) ≤ s)
theorem lensIn_iff (MM : Nat → List (Int × ByteArray)) (s : Int) (n : Nat) : lensIn MM s n = true ↔ ∀ i, i < n → 1 ≤ ((MM i).length : Int) ∧ ((MM i).length : Int) ≤ s := by
  unfold lensIn
  rw [List.all_eq_true]
  exact ⟨fun h i hi => of_decide_eq_true (h i (List.mem_range.2 hi)), fun h i hi => decide_eq_true (h i (List.mem_range.1 hi))⟩
theorem lensIn_no {MM : Nat → List (Int × ByteArray)} {s : Int} {n i : Nat} (hi : i < n) (h : ¬ (1 ≤ ((MM i).length : Int) ∧ ((MM i).length : Int) ≤ s)) : lensIn MM s n = false := by
  rw [Bool.eq_false_iff]; intro e; exact h ((lensIn_iff MM s n).1 e i hi)
def sizeOk (s : Int) : Bool := decide (1 ≤ s ∧ s ≤ 20)
def traysOk (n : Nat) (MM : Nat → List (Int × ByteArray)) (s : Int) : Bool := sizeOk s && (decide (n ≤ 60) && (lensIn MM s n && bat (M.flat MM n)))
theorem traysOk_size {n : Nat} {MM : Nat → List (Int × ByteArray)} {s : Int} (h : sizeOk s = false) : traysOk n MM s = false := by unfold traysOk; rw [h]; rfl
theorem traysOk_many {n : Nat} {MM : Nat → List (Int × ByteArray)} {s : Int} (h : ¬ n ≤ 60) : traysOk n MM s = false := by unfold traysOk; rw [decide_eq_false h]; simp
theorem traysOk_lens {n : Nat} {MM : Nat → List (Int × ByteArray)} {s : Int} (h : lensIn MM s n = false) : traysOk n MM s = false := by unfold traysOk; rw [h]; simp
theorem traysOk_last {n : Nat} {MM : Nat → List (Int × ByteArray)} {s : Int} (h1 : sizeOk s = true) (h2 : n ≤ 60) (h3 : lensIn MM s n = true) : traysOk n MM s = bat (M.flat MM n) := by unfold traysOk; rw [h1, decide_eq_true h2, h3]; rfl
/-- The letters of trays. -/
def empty (n : Nat) (MM : Nat → List (Int × ByteArray)) : List (Int × ByteArray) := if traysOk n MM 20 = true then M.flat MM n else []
theorem empty_le {n : Nat} {MM : Nat → List (Int × ByteArray)} : (empty n MM).length ≤ 60 := by
  unfold empty
  split
  · rename_i h
    unfold traysOk at h
    rw [Bool.and_eq_true, Bool.and_eq_true, Bool.and_eq_true] at h
    exact (M.batch_yes h.2.2.2).1
  · exact Nat.zero_le _
/-- The letter with a number is in a tray. -/
def has (x : Int) (L : List (Int × ByteArray)) : Bool := decide (0 ≤ M.findLetter L.length (nI L) (nC L) x)
def trayAt (x : Int) (MM : Nat → List (Int × ByteArray)) (n : Nat) : Int := match (List.range n).find? (fun i => has x (MM i)) with
  | some i => (i : Int)
  | none => -1
theorem trayAt_hit {x : Int} {MM : Nat → List (Int × ByteArray)} {n k : Nat} (hk : k < n) (h : has x (MM k) = true) (hno : ∀ j, j < k → has x (MM j) = false) : trayAt x MM n = k := by
  unfold trayAt
  have : (List.range n).find? (fun i => has x (MM i)) = some k := by
    rw [List.find?_range_eq_some]
    exact ⟨h, List.mem_range.2 hk, fun j hj => by simp [hno j hj]⟩
  rw [this]
theorem trayAt_miss {x : Int} {MM : Nat → List (Int × ByteArray)} {n : Nat} (hno : ∀ j, j < n → has x (MM j) = false) : trayAt x MM n = -1 := by
  unfold trayAt
  have : (List.range n).find? (fun i => has x (MM i)) = none := by
    rw [List.find?_eq_none]
    intro i hi
    rw [hno i (List.mem_range.1 hi)]; simp
  rw [this]
def trayOf (n : Nat) (MM : Nat → List (Int × ByteArray)) (x : Int) : Int := if traysOk n MM 20 = true then trayAt x MM n else -1
theorem trayOf_no {n : Nat} {MM : Nat → List (Int × ByteArray)} {x : Int} (h : traysOk n MM 20 = false) : trayOf n MM x = -1 := if_neg (by rw [h]; decide)
theorem trayOf_yes {n : Nat} {MM : Nat → List (Int × ByteArray)} {x : Int} (h : traysOk n MM 20 = true) : trayOf n MM x = trayAt x MM n := if_pos h
/-- The label of a tray. -/
def label (n : Nat) (I : Nat → Int) (C : Nat → ByteArray) : ByteArray := if M.batch n I C = true ∧ 0 < n then C 0 ++ ⟨#[45]⟩ ++ C (n - 1) else ⟨#[]⟩
end Go.Proofs.Ythnaglnmmgpiaaa
