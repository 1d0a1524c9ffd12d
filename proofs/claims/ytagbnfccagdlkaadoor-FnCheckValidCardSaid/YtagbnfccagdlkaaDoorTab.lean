/-
  The cells of checkDigits and of barsTable, and how a list of variables that are laid tells them.
-/
import Derived.Test.YtagbnfccagdlkaaDoorChecked
import Derived.Test.YtagbnfccagdlkaaDoorMath
import Derived.Lib.LaidTab
import Derived.LaidMore
import Derived.LaidHandle
import Derived.MakeChecks
import Derived.Stop.LaidErr
import Derived.ProofKit
import Derived.Below
namespace Go.Proofs.YtagbnfccagdlkaaDoor.Laid
open Go.RowKit

/-- The cells of a block hold these integers. -/
def Ints (w : World) (g : Nat) (zs : List Int) : Prop := ∀ i, i < zs.length → w.cell? ⟨g, i, none⟩ = some (.int .i64 (zs.getD i 0))
/-- The cells of a block hold these strings. -/
def Strs (w : World) (g : Nat) (S : List (List UInt8)) : Prop := ∀ i, i < S.length → w.cell? ⟨g, i, none⟩ = some (.string ⟨(S.getD i []).toArray⟩)
def strData {H : Type} (S : List (List UInt8)) : DataW H := .agg (S.map fun z => .lit (.string z))

theorem cells_of_strs {H : Type} {enc : TypeId × Value → H} {P : Program} {w : World} {base : Nat} {sp : Nat → Bool} {held : Bool} {fuel : Nat} {t e : TypeId} {n : Nat} {cs : List Value} {zs : List (List UInt8)} {p : List MemPlace}
    (ht : P.underlying t = some (.array n e)) (he : P.underlying e = some .string) (hce : P.cellsOf e = 1) (hct : P.cellsOf t = n)
    (h : DataW.trod enc P w base sp held fuel t cs = some (strData zs, p)) : cs = zs.map fun z => Value.string ⟨z.toArray⟩ := by
  cases fuel with
  | zero => simp [DataW.trod] at h
  | succ fuel =>
    simp only [DataW.trod, ht, hce, hct, Nat.mul_one] at h
    split at h
    · rename_i hl
      obtain ⟨xs, hm, hx⟩ := Option.map_eq_some_iff.1 h
      have hxs : xs.map (·.1) = zs.map fun z => (DataW.lit (.string z) : DataW H) := by
        have := congrArg Prod.fst hx
        simpa [strData] using this
      have hxl : xs.length = n := by simpa using Lib.mapM_length hm
      have hzl : zs.length = n := by
        have := congrArg List.length hxs
        simp at this
        omega
      apply List.ext_getElem?
      intro i
      by_cases hi : i < n
      · obtain ⟨b, hb, hf⟩ := Lib.mapM_at hm i i (by simp [hi])
        obtain ⟨z, hc, rfl, _⟩ := DataW.trod_string he hf
        have h1 : cs[i]? = some (.string z) := by
          have := congrArg (·[0]?) hc
          simpa [List.getElem?_take, List.getElem?_drop] using this
        have h2 : (xs.map (·.1))[i]? = some (DataW.lit (.string z.data.toList) : DataW H) := by simp [hb]
        rw [hxs] at h2
        simp only [List.getElem?_map, Option.map_eq_some_iff, DataW.lit.injEq, Lit.string.injEq] at h2
        obtain ⟨z', hz', rfl⟩ := h2
        simp [h1, hz']
      · rw [List.getElem?_eq_none (by omega), List.getElem?_eq_none (by simp; omega)]
    · cases h

theorem strs_of_head {P : Program} {W : World} {name : String} {zs : List (List UInt8)} {rest : List (String × DataW Unit)} {g : Nat} {t e : TypeId} {n : Nat}
    (hg : P.globalNamed name = some g) (hty : (P.globals[g]?).map (·.type) = some t) (ht : P.underlying t = some (.array n e)) (he : P.underlying e = some .string) (hce : P.cellsOf e = 1) (hct : P.cellsOf t = n)
    (h : laidMet P ((name, strData zs) :: rest) W) : Strs W g zs := by
  obtain ⟨ps, ⟨g', t', cs, fuel, p, q, hg', ht', hvar, hd, _, _⟩, _⟩ := h
  obtain rfl := Option.some.inj (hg.symm.trans hg')
  obtain rfl := Option.some.inj (hty.symm.trans ht')
  intro i hi
  have := World.var?_cell hg hvar i
  rw [this, ← Array.getElem?_toList, cells_of_strs ht he hce hct hd]
  simp [List.getD, hi]

theorem ints_of_head {P : Program} {W : World} {name : String} {zs : List Int} {rest : List (String × DataW Unit)} {g : Nat} {t e : TypeId} {n : Nat}
    (hg : P.globalNamed name = some g) (hty : (P.globals[g]?).map (·.type) = some t) (ht : P.underlying t = some (.array n e)) (he : P.underlying e = some (.int .i64)) (hce : P.cellsOf e = 1) (hct : P.cellsOf t = n)
    (h : laidMet P ((name, Lib.tabData .i64 zs) :: rest) W) : Ints W g zs := fun i hi =>
  (Lib.tabIs_of_head hg hty ht he hce hct h).cell hg i hi

/-- The tables, as the document gives them. -/
def checkTable : List Int := [0, 9, 8, 7, 6, 5, 4, 3, 2, 1]
def checks (w : World) : Prop := Ints w 0 checkTable
theorem cell_lt {w : World} {g i : Nat} {v : Value} (h : w.cell? ⟨g, i, none⟩ = some v) : g < w.heap.size := by
  apply Classical.byContradiction
  intro hn
  have e : w.heap[g]? = none := Array.getElem?_eq_none (by omega)
  simp [World.cell?, e] at h
theorem Ints.lt {w : World} {g : Nat} {zs : List Int} (h : Ints w g zs) (h0 : 0 < zs.length) : g < w.heap.size := by
  have := h 0 h0
  exact cell_lt this
theorem Ints.below {w w' : World} {g : Nat} {zs : List Int} (h : Ints w g zs) (h0 : 0 < zs.length) (hb : Below w.heap.size w w') : Ints w' g zs := fun i hi => by
  rw [hb.cell (p := ⟨g, i, none⟩) (h.lt h0)]
  exact h i hi
theorem Strs.lt {w : World} {g : Nat} {zs : List (List UInt8)} (h : Strs w g zs) (h0 : 0 < zs.length) : g < w.heap.size := by
  have := h 0 h0
  exact cell_lt this
theorem Strs.below {w w' : World} {g : Nat} {zs : List (List UInt8)} (h : Strs w g zs) (h0 : 0 < zs.length) (hb : Below w.heap.size w w') : Strs w' g zs := fun i hi => by
  rw [hb.cell (p := ⟨g, i, none⟩) (h.lt h0)]
  exact h i hi
theorem checks.below {w w' : World} (h : checks w) (hb : Below w.heap.size w w') : checks w' := Ints.below h (by decide) hb
theorem checks.at {w : World} (h : checks w) {d : Int} (h0 : 0 ≤ d) (h9 : d ≤ 9) : w.cell? ⟨0, d.toNat, none⟩ = some (.int .i64 ((10 - d) % 10)) := by
  rw [h d.toNat (by show d.toNat < 10; omega)]
  rcases M.digit_cases h0 h9 with rfl | rfl | rfl | rfl | rfl | rfl | rfl | rfl | rfl | rfl <;> rfl
/-- The named variables can be read. -/
theorem readable_of {n : String} {g' : Nat} {t' : TypeId} (hg' : Tryd.prog.globalNamed n = some g') (ht' : (Tryd.prog.globals[g']?).map (·.type) = some t') (g : Nat) (t : TypeId) (hr : Tryd.prog.readableRec t' = true) (hs : t' < Tryd.prog.types.size)
    (h1 : Tryd.prog.globalNamed n = some g) (h2 : (Tryd.prog.globals[g]?).map (·.type) = some t) : Tryd.prog.readableRec t = true ∧ t < Tryd.prog.types.size := by
  obtain rfl := Option.some.inj (hg'.symm.trans h1)
  obtain rfl := Option.some.inj (ht'.symm.trans h2)
  exact ⟨hr, hs⟩
end Go.Proofs.YtagbnfccagdlkaaDoor.Laid
