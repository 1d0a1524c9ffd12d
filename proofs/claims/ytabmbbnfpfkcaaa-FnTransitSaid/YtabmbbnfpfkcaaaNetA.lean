/-
  Offices in memory: where their names and their rules lie; their size, their copy, whether they agree.
-/
import Derived.Test.YtabmbbnfpfkcaaaRRow
import Derived.Test.YtabmbbnfpfkcaaaRulW
import Derived.Test.YtabmbbnfpfkcaaaAddRM
import Derived.Test.YtabmbbnfpfkcaaaRulOpen
import Derived.Deep.SlicePairs
import Derived.Deep.Slices
namespace Go.Proofs.Ytabmbbnfpfkcaaa
open Go.RowKit
open Go.PlainAid (bt get_bt bt_nonneg bt_le)
set_option linter.unusedVariables false

/-- A slice of n offices: their names and their rules. -/
def Nts (w : World) (a : Option Addr) (n : Nat) (NM : Nat → ByteArray) (RL : Nat → List (ByteArray × ByteArray)) : Prop :=
  ∀ i, i < n → ∃ b o a' c, a = some ⟨b, o, none⟩ ∧ w.cell? ⟨b, o + i * 2, none⟩ = some (.string (NM i)) ∧ w.cell? ⟨b, o + i * 2 + 1, none⟩ = some (.slice a' (RL i).length c) ∧ Fws w a' (RL i).length (nF (RL i)) (nT (RL i))
/-- Of fitting sizes. -/
def NFits (n : Nat) (NM : Nat → ByteArray) (RL : Nat → List (ByteArray × ByteArray)) : Prop := ∀ i, i < n → (NM i).size ≤ maxLen ∧ FFits (RL i).length (nF (RL i)) (nT (RL i)) ∧ (RL i).length ≤ maxLen
theorem Nts.on {w w' : World} {a : Option Addr} {n : Nat} {NM : Nat → ByteArray} {RL : Nat → List (ByteArray × ByteArray)} (h : Nts w a n NM RL) (hb : Below w.heap.size w w') : Nts w' a n NM RL := by
  intro i hi
  obtain ⟨b, o, a', c, e, h1, h2, h3⟩ := h i hi
  have hl := World.block_lt_of_cell? _ _ h1
  exact ⟨b, o, a', c, e, (hb.cell (p := ⟨b, o + i * 2, none⟩) hl).trans h1, (hb.cell (p := ⟨b, o + i * 2 + 1, none⟩) hl).trans h2, h3.on hb⟩
/-- How many rules the first offices have. -/
def totR (RL : Nat → List (ByteArray × ByteArray)) : Nat → Nat
  | 0 => 0
  | n + 1 => totR RL n + (RL n).length
theorem totR_le (RL : Nat → List (ByteArray × ByteArray)) {i : Nat} : ∀ {n : Nat}, i < n → (RL i).length ≤ totR RL n
  | 0, h => absurd h (by omega)
  | n + 1, h => by
    show _ ≤ totR RL n + (RL n).length
    by_cases e : i = n
    · subst e; omega
    · have := totR_le RL (i := i) (n := n) (by omega); omega

end Go.Proofs.Ytabmbbnfpfkcaaa

/-
  Offices in memory: their copy, whether two lists of them agree; offices that came in.
-/
namespace Go.Proofs.Ytabmbbnfpfkcaaa
open Go.ChangeShapes Go.WideShapes Go.ChangeAt Go.RowKit
open Go.PlainAid (bt get_bt bt_nonneg bt_le)
set_option linter.unusedVariables false

theorem RRow.set {w : World} {base : Nat} {v : Value} {L : List (ByteArray × ByteArray)} (h : RRow w base v L) {p : Addr} (hne : ∀ b, v.ownBlock = some b → b ≠ p.block) (u : Value) : RRow (w.setCell p u) base v L :=
  h.only (S := fun k => k = p.block) (Only.set w p u rfl) fun b hb e => hne b hb e
/-- A row of cells that holds offices, nobody's but the call's: their rules lie in blocks of their own, one for each. -/
def ONet (w : World) (base b n : Nat) (NM : Nat → ByteArray) (RL : Nat → List (ByteArray × ByteArray)) (m : Nat) : Prop :=
  ∃ (f : Nat → Value) (G : Nat → Nat), w.rowIs b 49 (m * 2) f ∧ (∀ i, i < n → f (i * 2) = .string (NM i) ∧ f (i * 2 + 1) = .slice (some ⟨G i, 0, none⟩) (RL i).length (RL i).length ∧ b ≠ G i ∧ RRow w base (.slice (some ⟨G i, 0, none⟩) (RL i).length (RL i).length) (RL i)) ∧ ∀ i j, i < j → j < n → G i ≠ G j
theorem ONet.nts {w : World} {base b n m : Nat} {NM : Nat → ByteArray} {RL : Nat → List (ByteArray × ByteArray)} (h : ONet w base b n NM RL m) (hm : n ≤ m) : Nts w (some ⟨b, 0, none⟩) n NM RL := by
  obtain ⟨f, G, hr, hf, _⟩ := h
  intro i hi
  obtain ⟨h1, h2, _, h3⟩ := hf i hi
  obtain ⟨a4, c4, hv4, _, hw4⟩ := h3.form
  refine ⟨b, 0, some ⟨G i, 0, none⟩, (RL i).length, rfl, ?_, ?_, ?_⟩
  · rw [Nat.zero_add, ← h1]; exact hr.cell (by omega)
  · rw [Nat.zero_add, ← h2]; exact hr.cell (by omega)
  · injection hv4 with e1 _ _
    rw [e1]; exact hw4
theorem make_offices (n : Nat) (hn : n ≤ 1048576) (w : World) :
    (Instr.makeSlice 42 (.int .i64 (n : Int)) (.int .i64 (n : Int))).run Try.prog w = .ok (.slice (some ⟨w.heap.size, 0, none⟩) n n) (w.alloc (.cells (madeCells #[.string ⟨#[]⟩, .slice none 0 0] (n * 2)) 49)) := by
  have hinfo : (Try.prog.info? 49).map (fun i => (i.zero, i.size, i.bytes)) = some (some (.agg #[.string ⟨#[]⟩, .slice none 0 0]), 2, 40) := by kernel_rfl
  obtain ⟨i, hi, hzz⟩ := Option.map_eq_some_iff.1 hinfo
  simp only [Prod.mk.injEq] at hzz
  obtain ⟨hz, hs, hb⟩ := hzz
  have hr := run_make (P := Try.prog) w 42 49 i _ Try.underlying42 hi hz .i64 .i64 n n (by omega) (Int.le_refl _) (by rw [hb]; omega) (by omega)
  simp only [Int.toNat_natCast, hs] at hr
  exact hr
theorem oown_made (w : World) (n : Nat) : ∃ f, (w.alloc (.cells (madeCells #[.string ⟨#[]⟩, .slice none 0 0] (n * 2)) 49)).rowIs w.heap.size 49 (n * 2) f := by
  refine ⟨fun j => (madeCells #[.string ⟨#[]⟩, .slice none 0 0] (n * 2)).getD j undef, ?_⟩
  have := World.rowIs_alloc w (madeCells #[.string ⟨#[]⟩, .slice none 0 0] (n * 2)) 49 (fun j => (madeCells #[.string ⟨#[]⟩, .slice none 0 0] (n * 2)).getD j undef) (fun i hi => by simp [Array.getD, hi])
  rwa [size_madeCells] at this
/-- One office more is laid. -/
theorem ONet.step {w w1 : World} {base b k m g : Nat} {NM : Nat → ByteArray} {RL : Nat → List (ByteArray × ByteArray)} (h : ONet w base b k NM RL m) (hb : Below w.heap.size w w1) (hk : k < m) (hg : w.heap.size ≤ g) (hr : RRow w1 base (.slice (some ⟨g, 0, none⟩) (RL k).length (RL k).length) (RL k)) :
    ONet ((w1.setCell ⟨b, k * 2, none⟩ (.string (NM k))).setCell ⟨b, k * 2 + 1, none⟩ (.slice (some ⟨g, 0, none⟩) (RL k).length (RL k).length)) base b (k + 1) NM RL m := by
  obtain ⟨f, G, hrow, hf, hd⟩ := h
  have hlt := hrow.lt
  have hr1 := hrow.of_block (hb.block _ hlt)
  refine ⟨_, fun i => if i = k then g else G i, (hr1.set (k * 2) (.string (NM k))).set (k * 2 + 1) (.slice (some ⟨g, 0, none⟩) (RL k).length (RL k).length), fun i hi => ?_, fun i j hij hj => ?_⟩
  · by_cases e : i = k
    · subst e
      refine ⟨?_, ?_, ?_, ?_⟩
      · show (if i * 2 = i * 2 + 1 then _ else if i * 2 = i * 2 then _ else _) = _
        rw [if_neg (by omega), if_pos rfl]
      · show (if i * 2 + 1 = i * 2 + 1 then _ else _) = _
        rw [if_pos rfl]
        show _ = Value.slice (some ⟨if i = i then g else G i, 0, none⟩) _ _
        rw [if_pos rfl]
      · show b ≠ if i = i then g else _
        rw [if_pos rfl]; omega
      · show RRow _ _ (.slice (some ⟨if i = i then g else _, 0, none⟩) _ _) _
        rw [if_pos rfl]
        exact (hr.set (by rintro b' ⟨rfl⟩ e; have : g = b := e; omega) _).set (by rintro b' ⟨rfl⟩ e; have : g = b := e; omega) _
    · obtain ⟨h1, h2, h3, h4⟩ := hf i (by omega)
      refine ⟨?_, ?_, ?_, ?_⟩
      · show (if i * 2 = k * 2 + 1 then _ else if i * 2 = k * 2 then _ else _) = _
        rw [if_neg (by omega), if_neg (by omega)]; exact h1
      · show (if i * 2 + 1 = k * 2 + 1 then _ else if i * 2 + 1 = k * 2 then _ else _) = _
        rw [if_neg (by omega), if_neg (by omega)]
        show _ = Value.slice (some ⟨if i = k then g else G i, 0, none⟩) _ _
        rw [if_neg e]; exact h2
      · show b ≠ if i = k then g else _
        rw [if_neg e]; exact h3
      · show RRow _ _ (.slice (some ⟨if i = k then g else _, 0, none⟩) _ _) _
        rw [if_neg e]
        exact ((h4.on hb).set (by rintro b' ⟨rfl⟩ e; exact h3 e.symm) _).set (by rintro b' ⟨rfl⟩ e; exact h3 e.symm) _
  · show (if i = k then g else G i) ≠ if j = k then g else G j
    rw [if_neg (by omega)]
    by_cases e : j = k
    · rw [if_pos e]
      obtain ⟨_, _, _, h4⟩ := hf i (by omega)
      have : G i < w.heap.size := (h4.lt _ rfl).2
      omega
    · rw [if_neg e]; exact hd i j hij (by omega)
end Go.Proofs.Ytabmbbnfpfkcaaa
