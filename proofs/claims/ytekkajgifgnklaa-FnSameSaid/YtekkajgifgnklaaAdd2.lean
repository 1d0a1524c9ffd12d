/-
  Orders added: program and model.
-/
import Derived.Test.YtekkajgifgnklaaDel2
namespace Go.Proofs.Ytekkajgifgnklaa
open Go.RowKit Go.Maps
open Go.PlainAid (bt get_bt bt_nonneg bt_le)
set_option linter.unusedVariables false

/-- Orders and whether there are any. -/
def FOut (W : World) (ok : Bool) (L : List (ByteArray × ByteArray)) (e : Ending) (w' : World) : Prop := ∃ v, e = .returned (.tuple #[v, .bool ok]) ∧ FRow w' W.heap.size v L ∧ Below W.heap.size W w'
namespace M
def remOk (F T : Nat → ByteArray) (n : Nat) (x : ByteArray) : Bool := fwd n F T && decide (0 ≤ rankTo F x n)
def remL (F T : Nat → ByteArray) (n : Nat) (x : ByteArray) : List (ByteArray × ByteArray) := if remOk F T n x = true then wo x (flst F T n) else []
theorem rem_no {F T : Nat → ByteArray} {n : Nat} {x : ByteArray} (h : fwd n F T = false ∨ rankTo F x n = -1) : remOk F T n x = false ∧ remL F T n x = [] := by
  have hk : remOk F T n x = false := by
    unfold remOk
    rcases h with h | h
    · rw [h]; rfl
    · rw [h]; exact Bool.and_false _
  exact ⟨hk, if_neg (by rw [hk]; decide)⟩
theorem rem_yes {F T : Nat → ByteArray} {n k : Nat} {x : ByteArray} (h : fwd n F T = true) (h2 : rankTo F x n = (k : Int)) : remOk F T n x = true ∧ remL F T n x = wo x (flst F T n) := by
  have hk : remOk F T n x = true := by unfold remOk; rw [h, h2, decide_eq_true (by omega)]; rfl
  exact ⟨hk, if_pos hk⟩
theorem remL_le (F T : Nat → ByteArray) (n : Nat) (x : ByteArray) : (remL F T n x).length ≤ n := by
  unfold remL
  split
  · exact Nat.le_trans (wo_le _ _) (Nat.le_of_eq (flst_length _ _ _))
  · exact Nat.zero_le _
theorem woAt_rank {F T : Nat → ByteArray} {n : Nat} (h : fwd n F T = true) (x : ByteArray) : woAt F T (rankTo F x n) n = wo x (flst F T n) :=
  woAt_eq (rank_only (fun k hk j hj => (fwd_yes h).2 k hk |>.2.2 j hj) x)
def addRow (F T : Nat → ByteArray) (n : Nat) (x y : ByteArray) : List (ByteArray × ByteArray) := wo x (flst F T n) ++ [(x, y)]
theorem addRow_len (F T : Nat → ByteArray) (n : Nat) (x y : ByteArray) : (addRow F T n x y).length ≤ n + 1 := by
  unfold addRow
  have := wo_le x (flst F T n)
  rw [flst_length] at this
  rw [List.length_append]
  show _ + 1 ≤ _
  omega
def addOk (F T : Nat → ByteArray) (n : Nat) (x y : ByteArray) : Bool := fwd n F T && (resCode (nF (addRow F T n x y)) (nT (addRow F T n x y)) (addRow F T n x y).length x).isSome
def addL (F T : Nat → ByteArray) (n : Nat) (x y : ByteArray) : List (ByteArray × ByteArray) := if addOk F T n x y = true then addRow F T n x y else []
theorem addL_le (F T : Nat → ByteArray) (n : Nat) (x y : ByteArray) : (addL F T n x y).length ≤ n + 1 := by
  unfold addL
  split
  · exact addRow_len F T n x y
  · exact Nat.zero_le _
theorem add_no {F T : Nat → ByteArray} {n : Nat} {x y : ByteArray} (h : fwd n F T = false ∨ resCode (nF (addRow F T n x y)) (nT (addRow F T n x y)) (addRow F T n x y).length x = none) : addOk F T n x y = false ∧ addL F T n x y = [] := by
  have hk : addOk F T n x y = false := by
    unfold addOk
    rcases h with h | h
    · rw [h]; rfl
    · rw [h]; exact Bool.and_false _
  exact ⟨hk, if_neg (by rw [hk]; decide)⟩
theorem add_yes {F T : Nat → ByteArray} {n : Nat} {x y : ByteArray} {p : ByteArray × Nat} (h : fwd n F T = true) (h2 : resCode (nF (addRow F T n x y)) (nT (addRow F T n x y)) (addRow F T n x y).length x = some p) : addOk F T n x y = true ∧ addL F T n x y = addRow F T n x y := by
  have hk : addOk F T n x y = true := by unfold addOk; rw [h, h2]; rfl
  exact ⟨hk, if_pos hk⟩
theorem addRow_last (F T : Nat → ByteArray) (n : Nat) (x y : ByteArray) : 0 < (addRow F T n x y).length ∧ nF (addRow F T n x y) ((addRow F T n x y).length - 1) = x := by
  have hl : (addRow F T n x y).length = (wo x (flst F T n)).length + 1 := by unfold addRow; rw [List.length_append]; rfl
  refine ⟨by omega, ?_⟩
  rw [nF_at (by omega)]
  have : (addRow F T n x y)[(addRow F T n x y).length - 1]? = some (x, y) := by
    rw [hl, Nat.add_sub_cancel]
    unfold addRow
    rw [List.getElem?_append_right (Nat.le_refl _), Nat.sub_self]; rfl
  rw [List.getElem?_eq_getElem (by omega)] at this
  rw [Option.some.inj this]
/-- Orders among which one from x stands are valid only if x is a code. -/
theorem add_code {F T : Nat → ByteArray} {n : Nat} {x y : ByteArray} (h : fwd (addRow F T n x y).length (nF (addRow F T n x y)) (nT (addRow F T n x y)) = true) : code x = true := by
  obtain ⟨h0, h1⟩ := addRow_last F T n x y
  have := ((fwd_yes h).2 _ (show (addRow F T n x y).length - 1 < (addRow F T n x y).length by omega)).1
  rw [h1] at this
  exact this
end M
theorem FFits.row {L : List (ByteArray × ByteArray)} (h : ∀ p ∈ L, p.1.size ≤ maxLen ∧ p.2.size ≤ maxLen) : FFits L.length (nF L) (nT L) := fun i hi => by
  rw [nF_at hi, nT_at hi]
  exact h _ (List.getElem_mem hi)
theorem fits_add {F T : Nat → ByteArray} {n : Nat} (h : FFits n F T) {x y : ByteArray} (hx : x.size ≤ maxLen) (hy : y.size ≤ maxLen) : FFits (M.addRow F T n x y).length (nF (M.addRow F T n x y)) (nT (M.addRow F T n x y)) := FFits.row fun p hp => by
  unfold M.addRow at hp
  rcases List.mem_append.1 hp with hp | hp
  · have h2 := (List.mem_filter.1 hp).1
    unfold M.flst at h2
    obtain ⟨i, hi, rfl⟩ := List.mem_map.1 h2
    exact h i (List.mem_range.1 hi)
  · have := List.mem_singleton.1 hp
    subst this
    exact ⟨hx, hy⟩

end Go.Proofs.Ytekkajgifgnklaa
namespace Go.Proofs.Ytekkajgifgnklaa
open Go.RowKit Go.Maps
open Go.PlainAid (bt get_bt bt_nonneg bt_le)
set_option linter.unusedVariables false

theorem FOut.mk {W w' : World} {ok ok' : Bool} {L L' : List (ByteArray × ByteArray)} {v : Value} (h1 : ok' = ok) (h2 : L' = L) (hr : FRow w' W.heap.size v L) (hb : Below W.heap.size W w') : FOut W ok' L' (.returned (.tuple #[v, .bool ok])) w' := by
  subst h1 h2
  exact ⟨v, rfl, hr, hb⟩
theorem M.remL_small (F T : Nat → ByteArray) (n : Nat) (x : ByteArray) (hn : n ≤ 1048576) : (M.remL F T n x).length ≤ 1048576 := Nat.le_trans (M.remL_le F T n x) hn
theorem M.addL_small (F T : Nat → ByteArray) (n : Nat) (x y : ByteArray) (hn : n ≤ 1048576) : (M.addL F T n x y).length ≤ 1048576 := by
  unfold M.addL
  split
  · rename_i h
    unfold M.addOk at h
    have h1 : M.fwd n F T = true := by cases e : M.fwd n F T <;> simp [e] at h ⊢
    have := (M.fwd_yes h1).1
    have := M.addRow_len F T n x y
    omega
  · exact Nat.zero_le _
end Go.Proofs.Ytekkajgifgnklaa
